/- A pattern in memory; the document's Names. -/
import Derived.Test.YtomjdicedjdpnaaCBox
import Derived.Test.YtomjdicedjdpnaaLChoose
namespace Go.Proofs.Ytomjdicedjdpnaa
open Go.RowKit

def capsL (p : List Nat) : List Lb := (segs 0 p).2.map fun x => (ofl x.1, ofl x.2)
/-- A pattern's struct, at block b. -/
def CAt (W : World) (b : Nat) (A : ByteArray) (l : List Lb) : Prop :=
  ∃ a n c, b < W.heap.size ∧ W.cell? ⟨b, 0, none⟩ = some (.string A) ∧ W.cell? ⟨b, 1, none⟩ = some (.slice a n c) ∧ RowL W W.heap.size a n l
theorem CAt.on {W W' : World} {b : Nat} {A : ByteArray} {l : List Lb} (h : CAt W b A l) (hb : Below W.heap.size W W') : CAt W' b A l := by
  obtain ⟨a, n, c, h1, h2, h3, h4⟩ := h
  exact ⟨a, n, c, Nat.lt_of_lt_of_le h1 hb.size, (hb.cell (p := ⟨b, 0, none⟩) h1).trans h2, (hb.cell (p := ⟨b, 1, none⟩) h1).trans h3, h4.on hb⟩
theorem CSt.at {w : World} {T e : TypeId} {A : ByteArray} {a : Option Addr} {n c : Nat} {l : List Lb} {W : World} (h : CSt w T e A a n c l W) : CAt W w.heap.size A l :=
  ⟨a, n, c, h.lt, h.c0.1, h.c0.2.1, h.row⟩
/-- The names that count, in order. -/
def nmsL (l : List Lb) : List ByteArray := (l.map (·.1)).filter fun n => decide (n ≠ ⟨#[95]⟩)
theorem nmsL_snoc (l : List Lb) (x : Lb) : nmsL (l ++ [x]) = nmsL l ++ (if x.1 = ⟨#[95]⟩ then [] else [x.1]) := by
  unfold nmsL
  rw [List.map_append, List.filter_append]
  congr 1
  by_cases h : x.1 = ⟨#[95]⟩ <;> simp [h]
theorem nmsL_len (l : List Lb) : (nmsL l).length ≤ l.length := by
  unfold nmsL
  exact Nat.le_trans (List.length_filter_le _ _) (by simp)
theorem str_info1 : (Try.prog.info? 9).map (fun i => (i.zero, i.size, i.bytes)) = some (some (.string ByteArray.empty), 1, 16) := by kernel_rfl
theorem info_parts1 {P : Program} {t : TypeId} {z : Value} {k b : Nat} (h : (P.info? t).map (fun i => (i.zero, i.size, i.bytes)) = some (some z, k, b)) : ∃ i, P.info? t = some i ∧ i.zero = some z ∧ i.size = k ∧ i.bytes = b := by
  rcases hi : P.info? t with _ | i
  · rw [hi] at h; cases h
  · rw [hi] at h
    simp only [Option.map_some, Option.some.injEq, Prod.mk.injEq] at h
    exact ⟨i, rfl, h.1, h.2.1, h.2.2⟩
theorem own_on11 {w w' : World} {base n : Nat} {e : TypeId} {v : Value} {xs : List Value} (h : w.ownsRow base e 1 v n xs) (hb : Below w.heap.size w w') : w'.ownsRow base e 1 v n xs :=
  h.kept (row := none) ⟨hb.os, hb.tape, hb.output, hb.size, fun j hj _ => hb.block j hj⟩ (by rcases h : v.ownBlock with _ | g <;> simp)
theorem Row.oneS (w : World) (e : TypeId) (x : ByteArray) : Row (w.alloc (.cells #[.string x] e)) (w.heap.size + 1) (some ⟨w.heap.size, 0, none⟩) 1 [.string x] := by
  refine ⟨rfl, fun _ => ⟨w.heap.size, 0, rfl, by omega, fun j hj => ?_⟩⟩
  obtain rfl : j = 0 := by omega
  rw [World.cell?_alloc_at _ _ _ _ (by simp)]; rfl
theorem strs_one1 (ss : List ByteArray) : ∀ u ∈ strs ss, u.oneCell' = true := by
  intro u hu
  obtain ⟨x, _, rfl⟩ := List.mem_map.1 hu
  rfl
/-- Names in memory of their own. -/
def SOut (w : World) (ss : List ByteArray) (e : Ending) (w' : World) : Prop :=
  ∃ A c, e = .returned (.slice A ss.length c) ∧ w'.ownsRow w.heap.size 9 1 (.slice A ss.length c) ss.length (strs ss) ∧ Below w.heap.size w w'
theorem own_sliceS {w : World} {base n : Nat} {e : TypeId} {v : Value} {xs : List Value} (h : w.ownsRow base e 1 v n xs) : ∃ A c, v = .slice A n c := by
  rcases h.2 with ⟨hv, hn⟩ | ⟨g, cap, cur, hv, _⟩
  · subst hv; subst hn; exact ⟨none, 0, rfl⟩
  · exact ⟨_, _, hv⟩
set_option maxRecDepth 100000 in
set_option maxHeartbeats 4000000 in
theorem rNames_any (b : Nat) (A : ByteArray) (l : List Lb) (w : World) (h : CAt w b A l) (hl : l.length ≤ 1000000) :
    Calls Try.prog 16 #[.pointer (some ⟨b, 0, none⟩)] w (SOut w (nmsL l)) := by
  obtain ⟨i0, hi0, hz0, hz1, hz2⟩ := info_parts1 str_info1
  obtain ⟨a, n, c, hbw, hc0, hc1, hr⟩ := h
  have HR := Lib.hid hr
  have hn := hr.1
  have HC := Lib.hid (And.intro hbw hc1)
  have HN := Lib.hid hn
  clear hr hc0 hc1
  go_enter Try.func16, Try.ntmps16
  go_wp2_with fail
  go_loopw [3, 4] (fun o p wr => ∃ k : Nat, k ≤ n ∧ p = .int .i64 (k : Int) ∧ Hid (wr.ownsRow w.heap.size 9 1 o (nmsL (l.take k)).length (strs (nmsL (l.take k)))) ∧ Hid (Below w.heap.size w wr)) (fun _ p _ => n - (intOf p).toNat)
  case atStart => exact ⟨0, by omega, rfl, Lib.hid (World.ownsRow_nil _ _ _ _), Lib.hid (Below.refl _ _)⟩
  case round =>
    obtain ⟨k, hk, rfl, HO, HB⟩ := hrel
    obtain ⟨m, hm⟩ : ∃ m, (nmsL (l.take k)).length = m := ⟨_, rfl⟩
    rw [hm] at HO
    have HM := Lib.hid hm
    obtain ⟨Ao, co, ho⟩ := own_sliceS HO.out
    subst ho
    have hc1 : wr.cell? ⟨b, 1, none⟩ = some (.slice a n c) := (HB.out.cell (p := ⟨b, 1, none⟩) HC.out.1).trans HC.out.2
    by_cases hlt : k < n
    · obtain ⟨g, off, rfl, hgB, hc⟩ := HR.out.2 (by omega)
      have a1 := (HB.out.cell (p := ⟨g, off + k * 2, none⟩) hgB).trans (hc k hlt).1
      have hkl : k < l.length := by omega
      have hsn := nmsL_snoc (l.take k) (l.getD k noL)
      rw [← take_snocL hkl] at hsn
      have hnk := nmsL_len (l.take k)
      have hlk : (l.take k).length ≤ 1000000 := by rw [List.length_take]; omega
      obtain ⟨x, hx⟩ : ∃ x, (l.getD k noL).1 = x := ⟨_, rfl⟩
      rw [hx] at a1 hsn
      have g0 : (0 : Int) ≤ (k : Int) := by omega
      have g1 : (k : Int) < (n : Int) := by omega
      have f1 : decide ((k : Int) < (n : Int)) = true := decide_eq_true g1
      have HK := Lib.hid hlt
      rw [hm] at hnk
      by_cases hu : x = ⟨#[95]⟩
      · have t1 : (x.toList == [95]) = true := (lit_eq x [95]).trans (decide_eq_true hu)
        rw [if_pos hu, List.append_nil] at hsn
        have HO2 : Hid (wr.ownsRow w.heap.size 9 1 (.slice Ao m co) (nmsL (l.take (k + 1))).length (strs (nmsL (l.take (k + 1))))) := Lib.hid (by rw [hsn, hm]; exact HO.out)
        clear hu hsn hx hc hlt hkl hnk hm
        go_wp2_with fail
        exact ⟨⟨k + 1, HK.out, by go_num, HO2, HB⟩, by have := HK.out; simp [intOf]; omega⟩
      · have t1 : (x.toList == [95]) = false := (lit_eq x [95]).trans (decide_eq_false hu)
        rw [if_neg hu] at hsn
        have HSN := Lib.hid hsn
        have hbd : Below wr.heap.size wr wr.drew := (Below.refl _ _).drew
        have hsz := HB.out.size
        clear hu hsn hx hc hlt hkl hm
        go_wp2_with (at_builtin; refine wpList_app _ rfl _ _ 22 rfl w.heap.size 9 i0 (.string ByteArray.empty) 16 Try.underlying22 hi0 hz0 hz1 hz2 rfl _ m _ rfl (HO.out.alloc _) _ _ 1 1 _ rfl (Row.oneS wr 9 x) (strs_one1 [x]) (by unfold maxLen; omega) (by omega) (by rw [World.size_alloc]; omega) ?_)
        intro v' w' ho _ hb
        have HO2 : Hid (w'.ownsRow w.heap.size 9 1 v' (nmsL (l.take (k + 1))).length (strs (nmsL (l.take (k + 1))))) := Lib.hid (by
          rw [HSN.out, List.length_append, HM.out]
          simpa [strs] using ho)
        have HB2 := Lib.hid ((HB.out.alloc hsz (.cells #[.string x] 9)).trans hb)
        obtain ⟨A2, c2, e2⟩ := own_sliceS ho
        subst e2
        clear ho hb hbd hsz
        go_wp2_with fail
        exact ⟨⟨k + 1, HK.out, by go_num, HO2, HB2⟩, by have := HK.out; simp [intOf]; omega⟩
    · obtain rfl : k = n := by omega
      have f1 : decide ((k : Int) < (k : Int)) = false := decide_eq_false (by omega)
      have HF : Hid (l.take k = l) := Lib.hid (List.take_of_length_le (by rw [HN.out]; exact Nat.le_refl _))
      go_wp2_with fail
      go_ret
      have hO := HO.out
      have hM := HM.out
      rw [HF.out] at hO hM
      subst hM
      exact ⟨Ao, co, rfl, hO, HB.out⟩
end Go.Proofs.Ytomjdicedjdpnaa
