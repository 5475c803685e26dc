/- The pieces, by a number. -/
import Derived.Test.YtomjdicedjdpnaaCStrs
import Derived.Test.YtomjdicedjdpnaaLGet
namespace Go.Proofs.Ytomjdicedjdpnaa
open Go.RowKit

theorem tmod_or (i n : Int) (hn : 0 < n) : (i.tmod n = i % n ∨ i.tmod n = i % n - n) ∧ 0 ≤ i % n ∧ i % n < n := by
  refine ⟨?_, Int.emod_nonneg _ (by omega), Int.emod_lt_of_pos _ hn⟩
  rw [Int.tmod_eq_emod]
  split
  · left; omega
  · right; omega
set_option maxRecDepth 100000 in
theorem Bring_any (i n : Int) (w : World) (_ : (Lit.int .i64 i).wf = true) (hn : n ≤ 9223372036854775807) (hn0 : 0 < n) :
    Calls Try.prog 23 #[.int .i64 i, .int .i64 n] w fun e w' => e = .returned (.int .i64 (i % n)) ∧ w = w' := by
  have HK := Lib.hid (tmod_or i n hn0)
  go_enter Try.func23, Try.ntmps23
  go_wp2
  · have h0 : i.tmod n < 0 := by assumption
    have h2 := HK.out
    go_ret
    refine ⟨?_, rfl⟩
    show Ending.returned (Value.int .i64 (wrap64 (i.tmod n + n))) = _
    rw [show i.tmod n + n = i % n by omega, IntWalk.wrap64_in _ (by omega)]
  · have h0 : 0 ≤ i.tmod n := by assumption
    have h2 := HK.out
    go_ret
    refine ⟨?_, rfl⟩
    show Ending.returned (Value.int .i64 (i.tmod n)) = _
    rw [show i.tmod n = i % n by omega]
def pieceL : List ByteArray := [⟨#[32]⟩, ⟨#[61]⟩, ⟨#[32, 45, 32]⟩, ⟨#[97, 98]⟩, ⟨#[34]⟩, ⟨#[44, 44]⟩, ⟨#[97, 97, 98]⟩]
def pcN (n : Int) : Nat := (n % 7).toNat
theorem pcN_lt (n : Int) : pcN n < 7 := by unfold pcN; omega
theorem piece_mem {k : Nat} (h : k < 7) : (strs pieceL)[k]? = some (.string (pieceL.getD k ByteArray.empty)) := strs_get _ _ h
set_option maxRecDepth 100000 in
set_option maxHeartbeats 4000000 in
theorem piece_any (n : Int) (w : World) (hn : (Lit.int .i64 n).wf = true) :
    Calls Try.prog 17 #[.int .i64 n] w fun e w' => e = .returned (.string (pieceL.getD (pcN n) ByteArray.empty)) ∧ Below w.heap.size w w' := by
  obtain ⟨k, hk⟩ : ∃ k, pcN n = k := ⟨_, rfl⟩
  have hk7 := pcN_lt n
  rw [hk] at hk7
  have hkz : n % 7 = (k : Int) := by unfold pcN at hk; omega
  have C := Lib.hid (fun u => (show Calls Try.prog 23 #[.int .i64 n, .int .i64 7] u fun e w' => e = .returned (.int .i64 (k : Int)) ∧ u = w' from by have h := Bring_any n 7 u hn (by omega) (by omega); rwa [hkz] at h))
  rw [hk]
  obtain ⟨x, hx⟩ : ∃ x, pieceL.getD k ByteArray.empty = x := ⟨_, rfl⟩
  have hm := piece_mem hk7
  rw [hx] at hm ⊢
  have hr := Row.made18 w #[.string ⟨#[32]⟩, .string ⟨#[61]⟩, .string ⟨#[32, 45, 32]⟩, .string ⟨#[97, 98]⟩, .string ⟨#[34]⟩, .string ⟨#[44, 44]⟩, .string ⟨#[97, 97, 98]⟩] 9
  obtain ⟨b, off, hbo, hb1, h1⟩ := hr.2 (by show 0 < 7; omega)
  obtain ⟨rfl, rfl⟩ : w.heap.size = b ∧ 0 = off := by cases hbo; exact ⟨rfl, rfl⟩
  have a1 : (w.alloc (.cells #[.string ⟨#[32]⟩, .string ⟨#[61]⟩, .string ⟨#[32, 45, 32]⟩, .string ⟨#[97, 98]⟩, .string ⟨#[34]⟩, .string ⟨#[44, 44]⟩, .string ⟨#[97, 97, 98]⟩] 9)).cell? ⟨w.heap.size, k, none⟩ = some (.string x) := by
    have h2 := h1 k hk7
    rw [Nat.zero_add] at h2
    exact h2.trans hm
  have g0 : (0 : Int) ≤ (k : Int) := by omega
  have g1 : (k : Int) < 7 := by omega
  have f1 : decide ((k : Int) < 7) = true := decide_eq_true g1
  clear hbo hb1 h1 hr hm hx hk hkz hn
  go_enter Try.func17, Try.ntmps17
  go_wp2_with fail
  with_reducible refine (C.out _).mono ?_
  rintro e w1 ⟨rfl, rfl⟩
  go_wp2_with fail
  go_ret
  exact ⟨rfl, (Below.refl _ _).alloc (Nat.le_refl _) _⟩
/-- The text ahead of a find, the found, the text behind it. -/
theorem idx_split {s t : ByteArray} (h : 0 ≤ idx s t) : s.extract 0 (idx s t).toNat ++ (t ++ s.extract ((idx s t).toNat + t.size) s.size) = s := by
  rcases Lib.index_spec s.data.toList t.data.toList with ⟨h1, _⟩ | ⟨i, h1, h2, h3, _⟩
  · unfold idx at h; omega
  · have hi : (idx s t).toNat = i := by unfold idx; omega
    rw [hi]
    unfold Lib.occAt at h3
    obtain ⟨r, hr⟩ := List.isPrefixOf_iff_prefix.1 h3
    have ht : t.data.toList.length = t.size := by rw [Array.length_toList]; rfl
    have hd : s.data.toList.drop (i + t.size) = r := by
      rw [← List.drop_drop, ← hr, ← ht, List.drop_left]
    rw [← ext_take, ← ext_drop, hd]
    apply ByteArray.ext
    apply Array.toList_inj.1
    simp only [ByteArray.data_append, Array.toList_append]
    show s.data.toList.take i ++ (t.data.toList ++ r) = s.data.toList
    rw [hr, List.take_append_drop]
end Go.Proofs.Ytomjdicedjdpnaa
