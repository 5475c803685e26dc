/- Has. -/
import Derived.Test.YtjnnaafkdgoflaaRSort2
namespace Go.Proofs.Ytjnnaafkdgoflaa
open Go.RowKit Go.Shelf

def pR (r : Int) (x : Rg) : Bool := decide (x.1 ≤ r ∧ r ≤ x.2)
set_option maxHeartbeats 1000000 in
theorem in_any (x : Rg) (r : Int) (B : Nat) (w W : World) (hB : B < w.heap.size) (hc : w.cell? ⟨B, 0, none⟩ = some (.int .i64 r)) (hb : Go.RowKit.Below w.heap.size w W) :
    Calls Try.prog 34 #[.agg #[.int .i64 x.1, .int .i64 x.2], .pointer (some ⟨B, 0, none⟩)] W fun e w' => e = .returned (.bool (pR r x)) ∧ Go.RowKit.Below w.heap.size w w' := by
  have hc' := (hb.cell (p := ⟨B, 0, none⟩) hB).trans hc
  have hs := hb.size
  have hc2 : (W.alloc (.cells #[.int .i64 x.1, .int .i64 x.2] 47)).cell? ⟨B, 0, none⟩ = some (.int .i64 r) := (World.cell?_alloc_lt _ _ _ (by show B < _; omega)).trans hc'
  clear hc'
  by_cases k1 : x.1 ≤ r
  · have f1 : decide (x.1 ≤ r) = true := decide_eq_true k1
    by_cases k2 : r ≤ x.2
    · have f2 : decide (r ≤ x.2) = true := decide_eq_true k2
      have HP : Hid (pR r x = true) := Lib.hid (decide_eq_true ⟨k1, k2⟩)
      clear k1 k2
      go_enter Try.func34, Try.ntmps34
      go_wp2_with fail
      go_ret
      exact ⟨by rw [HP.out]; rfl, hb.alloc hs _⟩
    · have f2 : decide (r ≤ x.2) = false := decide_eq_false k2
      have HP : Hid (pR r x = false) := Lib.hid (decide_eq_false (fun h => k2 h.2))
      clear k1 k2
      go_enter Try.func34, Try.ntmps34
      go_wp2_with fail
      go_ret
      exact ⟨by rw [HP.out]; rfl, hb.alloc hs _⟩
  · have f1 : decide (x.1 ≤ r) = false := decide_eq_false k1
    have HP : Hid (pR r x = false) := Lib.hid (decide_eq_false (fun h => k1 h.1))
    clear k1
    go_enter Try.func34, Try.ntmps34
    go_wp2_with fail
    go_ret
    exact ⟨by rw [HP.out]; rfl, hb.alloc hs _⟩
set_option maxHeartbeats 1000000 in
theorem index_none (A : Option Addr) (c : Nat) (fv : Value) (W : World) : Calls Try.prog 41 #[.slice A 0 c, fv] W fun e w' => e = .returned (.int .i64 (-1)) ∧ W = w' := by
  go_enter Try.func41, Try.ntmps41
  go_wp2_with fail
  go_loopw [8] (fun p wr => p = .int .i64 0 ∧ W = wr) (fun _ _ => 0)
  case atStart => exact ⟨rfl, rfl⟩
  case round =>
    obtain ⟨rfl, rfl⟩ := hrel
    go_wp2_with fail
    go_ret
    exact ⟨rfl, rfl⟩
set_option maxHeartbeats 1000000 in
theorem contains_none (A : Option Addr) (c : Nat) (fv : Value) (W : World) : Calls Try.prog 33 #[.slice A 0 c, fv] W fun e w' => e = .returned (.bool false) ∧ Go.RowKit.Below W.heap.size W w' := by
  go_enter Try.func33, Try.ntmps33
  go_wp2_with fail
  with_reducible refine (index_none A c fv _).mono ?_
  rintro e w1 ⟨rfl, rfl⟩
  go_wp2_with fail
  go_ret
  exact ⟨rfl, Go.RowKit.Below.refl _ _⟩
theorem any_in (l : List Rg) (r : Int) : l.any (pR r) = decide (inR l r) := by
  rw [Bool.eq_iff_iff, List.any_eq_true, decide_eq_true_eq]
  exact ⟨fun ⟨x, hx, h⟩ => ⟨x, hx, of_decide_eq_true h⟩, fun ⟨x, hx, h⟩ => ⟨x, hx, decide_eq_true h⟩⟩
theorem contains_any (A : Option Addr) (n c : Nat) (l : List Rg) (r : Int) (B : Nat) (W : World) (hr : RowR W W.heap.size A n l) (hn : n ≤ 100000000) (hB : B < W.heap.size) (hc : W.cell? ⟨B, 0, none⟩ = some (.int .i64 r)) :
    Calls Try.prog 33 #[.slice A n c, .func (.func 34) #[] #[.pointer (some ⟨B, 0, none⟩)]] W fun e w' => e = .returned (.bool (decide (inR l r))) ∧ Go.RowKit.Below W.heap.size W w' := by
  rcases Nat.eq_zero_or_pos n with h0 | h0
  · subst h0
    have hl : l = [] := List.eq_nil_of_length_eq_zero hr.1
    subst hl
    rw [decide_eq_false (inR_nil r)]
    exact contains_none A c _ W
  · obtain ⟨b, off, rfl, hb, hcell⟩ := hr.2 h0
    have eg : ∀ args w, (callFunc 34 args).run Try.prog w = .ok (.enter 34 args) w := enters_of Try.func34 (by kernel_rfl) rfl
    have hcon := AnyQ.slices_ContainsFunc Try.anyRg 2 Try.isAgg47 Try.sizeOf47 encR (fun _ => rfl) (pR r) 34 #[.pointer (some ⟨B, 0, none⟩)] eg b off n c l W
      (fun W' x hb' => in_any x r B W W' hB hc hb') (by rw [hr.1]; exact Nat.le_refl _) (by omega) hb (fun j hj i v hi => by
        have h1 := hcell j (by rw [← hr.1]; exact hj)
        rw [show l[j]! = l.getD j (0, 0) by rw [List.getD_eq_getElem?_getD, List.getElem?_eq_getElem hj]; simp [hj]] at hi
        generalize l.getD j (0, 0) = y at hi h1
        match i, hi with
        | 0, hi => simp [encR] at hi; rw [← hi]; exact h1.1
        | 1, hi => simp [encR] at hi; rw [← hi]; exact h1.2
        | i + 2, hi => simp [encR] at hi)
    change Calls Try.prog 33 _ _ _ at hcon
    rw [List.take_of_length_le (by rw [hr.1]; exact Nat.le_refl _), any_in] at hcon
    exact hcon
set_option maxHeartbeats 1000000 in
theorem Has_any (A : Option Addr) (n c : Nat) (l : List Rg) (r : Int) (w : World) (hr : RowR w w.heap.size A n l) (hn : n ≤ 100000000) :
    Calls Try.prog 20 #[.slice A n c, .int .i64 r] w fun e w' => e = .returned (.bool (decide (has l r))) ∧ Go.RowKit.Below w.heap.size w w' := by
  have hb0 : Go.RowKit.Below w.heap.size w (w.alloc (.cells #[.int .i64 r] 3)) := (Go.RowKit.Below.refl _ w).alloc (Nat.le_refl _) _
  have HC := Lib.hid (contains_any A n c l r w.heap.size (w.alloc (.cells #[.int .i64 r] 3)) (hr.on hb0) hn (by simp) (by rw [World.cell?_alloc_at _ _ _ _ (by simp)]; rfl))
  have HB := Lib.hid hb0
  clear hr hb0
  by_cases k0 : 0 ≤ r
  · have f2 : decide ((0 : Int) ≤ r) = true := decide_eq_true k0
    by_cases k1 : r ≤ 1114111
    · have f3 : decide (r ≤ 1114111) = true := decide_eq_true k1
      have HD : Hid (decide (has l r) = decide (inR l r)) := Lib.hid (decide_eq_decide.2 ⟨fun h => h.2, fun h => ⟨⟨k0, k1⟩, h⟩⟩)
      clear k0 k1
      go_enter Try.func20, Try.ntmps20
      go_wp2_with fail
      with_reducible refine HC.out.mono ?_
      rintro e w1 ⟨rfl, b1⟩
      have hb1 := next HB.out b1
      rw [← HD.out]
      clear HC b1
      go_wp2_with fail
      go_ret
      exact ⟨rfl, hb1⟩
    · have f3 : decide (r ≤ 1114111) = false := decide_eq_false k1
      have HD : Hid (decide (has l r) = false) := Lib.hid (decide_eq_false (fun h => k1 h.1.2))
      clear k0 k1 HC
      go_enter Try.func20, Try.ntmps20
      go_wp2_with fail
      go_ret
      exact ⟨by rw [HD.out]; rfl, HB.out⟩
  · have f2 : decide ((0 : Int) ≤ r) = false := decide_eq_false k0
    have HD : Hid (decide (has l r) = false) := Lib.hid (decide_eq_false (fun h => k0 h.1.1))
    clear k0 HC
    go_enter Try.func20, Try.ntmps20
    go_wp2_with fail
    go_ret
    exact ⟨by rw [HD.out]; rfl, HB.out⟩
end Go.Proofs.Ytjnnaafkdgoflaa
