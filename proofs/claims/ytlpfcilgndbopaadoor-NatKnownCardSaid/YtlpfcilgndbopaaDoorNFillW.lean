/- nat.fill, walked. -/
import Derived.Test.YtlpfcilgndbopaaDoorNFill
namespace Go.Proofs.YtlpfcilgndbopaaDoor
open Go.RowKit

theorem limb_int (A : Option Addr) (n c B : Nat) (a : List Int) (i : Nat) (z x : Int) (w : World) (hr : Row w B A n (ints .u32 a)) (hi : i ≤ 9223372036854775807) (hz : z = (i : Int)) (hx : Hid (a.getD i 0 = x)) :
    Calls Tryd.prog 44 #[.slice A n c, .int .i64 z] w fun e w' => e = .returned (.int .u32 x) ∧ w = w' := by
  subst hz
  exact limb_at A n c B a i x w hr hi hx

theorem fill_next (W k : Nat) : W % 4294967296 ^ (k + 1) = W % 4294967296 ^ k + 4294967296 ^ k * (W / 4294967296 ^ k % 4294967296) := Nat.mod_pow_succ
theorem fill_quo (V k f : Nat) : V / 4294967296 ^ (k + f / 32) / 2 ^ (f % 32) = V / 2 ^ f / 4294967296 ^ k := by
  rw [Nat.div_div_eq_div_mul, Nat.div_div_eq_div_mul]
  congr 1
  rw [Nat.pow_add, pow32 (f / 32), Nat.mul_assoc, ← Nat.pow_add, show 32 * (f / 32) + f % 32 = f by omega, Nat.mul_comm]
theorem fill_digit (x y : Int) (k f V : Nat) (hx : 0 ≤ x) (hy : 0 ≤ y) (h : (x.toNat + 4294967296 * y.toNat) / 2 ^ (f % 32) % 4294967296 = V / 4294967296 ^ (k + f / 32) / 2 ^ (f % 32) % 4294967296) :
    (x + y * 4294967296) / 2 ^ (f % 32) % 4294967296 = ((V / 2 ^ f / 4294967296 ^ k % 4294967296 : Nat) : Int) := by
  rw [fill_quo] at h
  rw [← h, show x + y * 4294967296 = ((x.toNat + 4294967296 * y.toNat : Nat) : Int) by omega]
  generalize x.toNat + 4294967296 * y.toNat = t
  rw [Int.natCast_emod, Int.natCast_ediv, Int.natCast_pow]
  rfl

set_option maxRecDepth 100000 in
set_option maxHeartbeats 1000000 in
theorem fill_any (g n c base B : Nat) (A' : Option Addr) (n' c' f : Nat) (r a : List Int) (w : World) (hown : w.ownsRow base 34 1 (.slice (some ⟨g, 0, none⟩) n c) n (ints .u32 r)) (hr' : Row w B A' n' (ints .u32 a)) (hB : B ≤ base) (hBw : B ≤ w.heap.size) (hbs : base ≤ g) (ha : Lim a) (hn : n ≤ 1000000) (hf : f ≤ 1000000) :
    Calls Tryd.prog 77 #[.slice (some ⟨g, 0, none⟩) n c, .slice A' n' c', .int .i64 f] w fun e w' => e = .returned (.tuple #[]) ∧ ∃ s, s.length = n ∧ Lim s ∧ val s = val a / 2 ^ f % 4294967296 ^ n ∧ w'.ownsRow base 34 1 (.slice (some ⟨g, 0, none⟩) n c) n (ints .u32 s) ∧ w.grownBy w' (some g) := by
  have hl := hown.1
  rw [ints_len, Nat.mul_one] at hl
  have HA := Lib.hid ha
  have HL := Lib.hid hl
  have HR := Lib.hid hr'
  have hf0 : (0 : Int) ≤ (f : Int) := by omega
  clear ha hl hr'
  go_enter Tryd.func77, Tryd.ntmps77
  go_wp2_with fail
  go_loopw [16] (fun i wr => ∃ (k : Nat) (s : List Int), k ≤ n ∧ i = .int .i64 k ∧ Hid (s.length = k ∧ Lim s ∧ val s = val a / 2 ^ f % 4294967296 ^ k) ∧
    wr.ownsRow base 34 1 (.slice (some ⟨g, 0, none⟩) n c) n (ints .u32 (s ++ r.drop k)) ∧ w.grownBy wr (some g)) (fun i _ => n - (intOf i).toNat)
  case atStart => exact ⟨0, [], Nat.zero_le _, rfl, Lib.hid ⟨rfl, Lim.nil, by simp [val, Nat.mod_one]⟩, hown, World.grownBy.refl w _⟩
  case round =>
    obtain ⟨k, s, hk, rfl, HS, hown, hgr⟩ := hrel
    rename World => ws
    by_cases hkn : k < n
    · have hkz : (k : Int) < (n : Int) := by omega
      have hk0 : (0 : Int) ≤ (k : Int) := by omega
      have hfz := hown.frozenAt k
      have hcell : ws.cell? ⟨g, k, none⟩ = some (.int .u32 (r.getD k 0)) := (hown.cellAt k (by omega)).trans (drop_at HS.out.1 HL.out hkn)
      obtain ⟨o, ho⟩ : ∃ o, r.getD k 0 = o := ⟨_, rfl⟩
      rw [ho] at hcell
      have hxl := HA.out.at (k + f / 32)
      have hyl := HA.out.at (k + f / 32 + 1)
      have HP := Lib.hid (pair_val HA.out (k + f / 32) (f % 32) (by omega))
      obtain ⟨x, hx⟩ : ∃ x, a.getD (k + f / 32) 0 = x := ⟨_, rfl⟩
      obtain ⟨y, hy⟩ : ∃ y, a.getD (k + f / 32 + 1) 0 = y := ⟨_, rfl⟩
      rw [hx] at hxl HP
      rw [hy] at hyl HP
      have HX := Lib.hid hx
      have HY := Lib.hid hy
      have HO := Lib.hid (or_high x y hxl hyl)
      obtain ⟨hx0, hx1⟩ := hxl
      obtain ⟨hy0, hy1⟩ := hyl
      have HOwn := Lib.hid hown
      have hrw : Row ws B A' n' (ints .u32 a) := HR.out.keep fun p hp => World.cell?_of_block (hgr.block p.block (by omega) (fun e => by injection e with e; omega))
      have HRW := Lib.hid hrw
      have hl0 : (0 : Int) ≤ (f : Int) % 32 := by omega
      have hl1 : (f : Int) % 32 < 32 := by omega
      clear hx hy ho hown hrw
      go_wp2_with fail
      refine (limb_int A' n' c' B a (k + f / 32) _ x ws HRW.out (by omega) (by omega) HX).mono ?_
      rintro e w' ⟨rfl, rfl⟩
      go_wp2_with fail
      refine (limb_int A' n' c' B a (k + f / 32 + 1) _ y ws HRW.out (by omega) (by omega) HY).mono ?_
      rintro e w' ⟨rfl, rfl⟩
      have HD := Lib.hid (fill_digit x y k f (val a) hx0 hy0 HP.out)
      go_wp2
      rw [HO.out, HD.out]
      refine ⟨⟨k + 1, s ++ [((val a / 2 ^ f / 4294967296 ^ k % 4294967296 : Nat) : Int)], by omega, by go_num, Lib.hid ⟨by rw [List.length_append, HS.out.1]; rfl, HS.out.2.1.app (Lim.one (by omega) (by omega)), ?_⟩, ?_, hgr.trans (HOwn.out.stored k _).2⟩, by simp [intOf]; omega⟩
      · rw [val_append, val_one, HS.out.1, HS.out.2.2, Int.toNat_natCast]
        exact (fill_next _ _).symm
      · have := (HOwn.out.stored k (.int .u32 ((val a / 2 ^ f / 4294967296 ^ k % 4294967296 : Nat) : Int))).1
        rw [set_drop _ HS.out.1 HL.out hkn] at this
        exact this
    · obtain rfl : k = n := by omega
      rw [List.drop_eq_nil_of_le (by have := HL.out; omega), List.append_nil] at hown
      clear hkn
      go_wp2
      go_end0
      exact ⟨rfl, s, HS.out.1, HS.out.2.1, HS.out.2.2, hown, hgr⟩
end Go.Proofs.YtlpfcilgndbopaaDoor
