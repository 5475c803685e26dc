/- slices.Equal at Sets; Check, Same. -/
import Derived.Test.YtjnnaafkdgoflaaROf2
namespace Go.Proofs.Ytjnnaafkdgoflaa
open Go.RowKit

set_option maxRecDepth 100000 in
set_option maxHeartbeats 4000000 in
theorem Equal_any (A A' : Option Addr) (n m c c' : Nat) (es fs : List Rg) (w : World) (hr : RowR w w.heap.size A n es) (hs : RowR w w.heap.size A' m fs) (hn : n ≤ 1000000000) (hm : m ≤ 1000000000) :
    Calls Try.prog 32 #[.slice A n c, .slice A' m c'] w fun e w' => e = .returned (.bool (decide (es = fs))) ∧ Below w.heap.size w w' := by
  by_cases hne : n = m
  · subst hne
    have HR := Lib.hid hr
    have HS := Lib.hid hs
    clear hr hs
    go_enter Try.func32, Try.ntmps32
    go_wp2_with fail
    go_loopw [13] (fun s5 wr => ∃ k : Nat, k ≤ n ∧ s5 = .int .i64 k ∧ Hid (es.take k = fs.take k) ∧ Below w.heap.size w wr) (fun i _ => n - (intOf i).toNat)
    case atStart => exact ⟨0, Nat.zero_le _, rfl, Lib.hid rfl, Below.refl _ _⟩
    case round =>
      obtain ⟨k, hk, rfl, HT, hb⟩ := hrel
      rename World => wr
      by_cases hlt : k < n
      · have hlt' : (k : Int) < (n : Int) := by omega
        have hk0 : (0 : Int) ≤ (k : Int) := by omega
        obtain ⟨b, off, rfl, hb1, h1⟩ := HR.out.2 (by omega)
        obtain ⟨b', off', rfl, hb2, h2⟩ := HS.out.2 (by omega)
        obtain ⟨a1, a2⟩ := h1 k hlt
        obtain ⟨a3, a4⟩ := h2 k hlt
        replace a1 := (hb.cell (p := ⟨b, off + k * 2, none⟩) hb1).trans a1
        replace a2 := (hb.cell (p := ⟨b, off + k * 2 + 1, none⟩) hb1).trans a2
        replace a3 := (hb.cell (p := ⟨b', off' + k * 2, none⟩) hb2).trans a3
        replace a4 := (hb.cell (p := ⟨b', off' + k * 2 + 1, none⟩) hb2).trans a4
        obtain ⟨⟨t, s⟩, hx⟩ : ∃ x, es.getD k (0, 0) = x := ⟨_, rfl⟩
        obtain ⟨⟨t', s'⟩, hx'⟩ : ∃ x, fs.getD k (0, 0) = x := ⟨_, rfl⟩
        have HX : Hid (es.getD k (0, 0) = (t, s) ∧ fs.getD k (0, 0) = (t', s')) := Lib.hid ⟨hx, hx'⟩
        rw [hx] at a1 a2
        rw [hx'] at a3 a4
        dsimp only at a1 a2 a3 a4
        replace hb := Lib.hid hb
        clear hx hx' h1 h2
        by_cases hte : t = t'
        · subst hte
          have hb1 : (t == t) = true := beq_self_eq_true t
          by_cases hse : s = s'
          · subst hse
            have hb2 : (s == s) = true := beq_self_eq_true s
            have HT1 : Hid (es.take (k + 1) = fs.take (k + 1)) := Lib.hid (by
              rw [take_snocR (by rw [HR.out.1]; exact hlt), take_snocR (by rw [HS.out.1]; exact hlt), HT.out, HX.out.1, HX.out.2])
            go_wp2_with fail
            go_quiet (fail)
            go_wp2_with fail
            refine ⟨⟨k + 1, hlt, by go_num, HT1, Below.dn hb.out _⟩, ?_⟩
            simp [intOf]
            omega
          · have hb2 : (s == s') = false := beq_eq_false_iff_ne.2 hse
            have HF : Hid (decide (es = fs) = false) := Lib.hid (decide_eq_false (getD_neR (j := k) (by rw [HX.out.1, HX.out.2]; simpa using hse)))
            go_wp2_with fail
            go_quiet (fail)
            go_wp2_with fail
            go_ret
            exact ⟨by rw [HF.out]; rfl, Below.dn hb.out _⟩
        · have hb1 : (t == t') = false := beq_eq_false_iff_ne.2 hte
          have HF : Hid (decide (es = fs) = false) := Lib.hid (decide_eq_false (getD_neR (j := k) (by rw [HX.out.1, HX.out.2]; simp [hte])))
          go_wp2_with fail
          go_quiet (fail)
          go_wp2_with fail
          go_ret
          exact ⟨by rw [HF.out]; rfl, Below.dn hb.out _⟩
      · have hkn : k = n := by omega
        subst hkn
        have HF : Hid (decide (es = fs) = true) := Lib.hid (by
          have := HT.out
          rw [List.take_of_length_le (by rw [HR.out.1]; exact Nat.le_refl _), List.take_of_length_le (by rw [HS.out.1]; exact Nat.le_refl _)] at this
          simp [this])
        clear hlt hk
        go_wp2_with fail
        go_ret
        exact ⟨by rw [HF.out]; rfl, hb⟩
  · have hne' : ¬ (n : Int) = (m : Int) := by omega
    have HF : Hid (decide (es = fs) = false) := Lib.hid (by
      rw [decide_eq_false_iff_not]
      rintro rfl
      exact hne (hr.1.symm.trans hs.1))
    clear hr hs
    go_enter Try.func32, Try.ntmps32
    go_wp2
    go_ret
    exact ⟨by rw [HF.out]; rfl, Below.refl _ _⟩
set_option maxRecDepth 100000 in
theorem Check_any (A : Option Addr) (n c : Nat) (l : List Rg) (w : World) (hr : RowR w w.heap.size A n l) (hn : n ≤ 100000000) :
    Calls Try.prog 16 #[.slice A n c] w fun e w' => e = .returned (.bool (decide (Vl l))) ∧ Below w.heap.size w w' := by
  have HC1 := Lib.hid (Of_any A n c l w hr hn)
  have HR := Lib.hid hr
  clear hr
  go_enter Try.func16, Try.ntmps16
  go_wp2_with fail
  with_reducible refine HC1.out.mono ?_
  rintro e w1 ⟨A1, c1, l1, rfl, h1, o1, b1⟩
  have HC2 := Lib.hid (Equal_any A A1 n l1.length c c1 l l1 w1 (HR.out.on b1) (RowR.own o1) (by omega) (by have := h1.1.short; omega))
  have HF : Hid (decide (l = l1) = decide (Vl l)) := Lib.hid (decide_eq_decide.2 (Vl.iff_own h1))
  have HB := Lib.hid b1
  clear HC1 h1 o1 b1
  go_wp2_with fail
  with_reducible refine HC2.out.mono ?_
  rintro e w2 ⟨rfl, b2⟩
  have hb2 := next HB.out b2
  rw [HF.out]
  clear b2 HC2
  go_wp2_with fail
  go_ret
  exact ⟨rfl, hb2⟩
set_option maxRecDepth 100000 in
theorem Same_any (A A' : Option Addr) (n m c c' : Nat) (a b : List Rg) (w : World) (hr : RowR w w.heap.size A n a) (hs : RowR w w.heap.size A' m b) (hn : n ≤ 100000000) (hm : m ≤ 100000000) :
    Calls Try.prog 26 #[.slice A n c, .slice A' m c'] w fun e w' => (∃ x y, Of (has a) x ∧ Of (has b) y ∧ e = .returned (.bool (decide (x = y)))) ∧ Below w.heap.size w w' := by
  have HC1 := Lib.hid (Of_any A n c a w hr hn)
  have HC2 := Lib.hid (fun w' (hb : Below w.heap.size w w') => Of_any A' m c' b w' (hs.on hb) hm)
  clear hr hs
  go_enter Try.func26, Try.ntmps26
  go_wp2_with fail
  with_reducible refine HC1.out.mono ?_
  rintro e w1 ⟨A1, c1, l1, rfl, h1, o1, b1⟩
  have HC3 := Lib.hid (HC2.out w1 b1)
  have HR1 := Lib.hid (RowR.own o1)
  have H1 := Lib.hid h1
  have HB1 := Lib.hid b1
  clear HC1 HC2 h1 o1 b1
  go_wp2_with fail
  with_reducible refine HC3.out.mono ?_
  rintro e w2 ⟨A2, c2, l2, rfl, h2, o2, b2⟩
  have HC4 := Lib.hid (Equal_any A1 A2 l1.length l2.length c1 c2 l1 l2 w2 (HR1.out.on b2) (RowR.own o2) (by have := H1.out.1.short; omega) (by have := h2.1.short; omega))
  have H2 := Lib.hid h2
  have HB2 := Lib.hid (next HB1.out b2)
  clear HC3 h2 o2 b2 HB1 HR1
  go_wp2_with fail
  with_reducible refine HC4.out.mono ?_
  rintro e w3 ⟨rfl, b3⟩
  have hb3 := next HB2.out b3
  clear b3 HC4 HB2
  go_wp2_with fail
  go_ret
  exact ⟨⟨l1, l2, H1.out, H2.out, rfl⟩, hb3⟩
end Go.Proofs.Ytjnnaafkdgoflaa
