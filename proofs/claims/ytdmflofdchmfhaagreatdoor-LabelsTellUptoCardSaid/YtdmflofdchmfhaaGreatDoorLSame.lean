/- slices.Equal and Same. -/
import Derived.Test.YtdmflofdchmfhaaGreatDoorLEq
namespace Go.Proofs.YtdmflofdchmfhaaGreatDoor
open Go.RowKit

set_option maxRecDepth 100000 in
set_option maxHeartbeats 4000000 in
theorem Equal_any (A A' : Option Addr) (n m c c' : Nat) (es fs : List Lb) (w : World) (hr : RowL w w.heap.size A n es) (hs : RowL w w.heap.size A' m fs) (hn : n ≤ 100000000) (hm : m ≤ 100000000) :
    Calls Tryz.prog 42 #[.slice A n c, .slice A' m c'] w fun e w' => e = .returned (.bool (decide (es = fs))) ∧ Below w.heap.size w w' := by
  by_cases hne : n = m
  · subst hne
    have HR := Lib.hid hr
    have HS := Lib.hid hs
    have b0 : ((n : Int) == (n : Int)) = true := beq_self_eq_true _
    clear hr hs
    go_enter Tryz.func42, Tryz.ntmps42
    go_wp2_with fail
    go_loopw [13] (fun s5 wr => ∃ k : Nat, k ≤ n ∧ s5 = .int .i64 k ∧ Hid (es.take k = fs.take k) ∧ Below w.heap.size w wr) (fun i _ => n - (intOf i).toNat)
    case atStart => exact ⟨0, Nat.zero_le _, rfl, Lib.hid rfl, Below.refl _ _⟩
    case round =>
      obtain ⟨k, hk, rfl, HT, hb⟩ := hrel
      by_cases hlt : k < n
      · have hlt' : (k : Int) < (n : Int) := by omega
        have hk0 : (0 : Int) ≤ (k : Int) := by omega
        have f1 : decide ((k : Int) < (n : Int)) = true := decide_eq_true hlt'
        obtain ⟨b, off, rfl, hb1, h1⟩ := HR.out.2 (by omega)
        obtain ⟨b', off', rfl, hb2, h2⟩ := HS.out.2 (by omega)
        obtain ⟨a1, a2⟩ := h1 k hlt
        obtain ⟨a3, a4⟩ := h2 k hlt
        replace a1 := (hb.cell (p := ⟨b, off + k * 2, none⟩) hb1).trans a1
        replace a2 := (hb.cell (p := ⟨b, off + k * 2 + 1, none⟩) hb1).trans a2
        replace a3 := (hb.cell (p := ⟨b', off' + k * 2, none⟩) hb2).trans a3
        replace a4 := (hb.cell (p := ⟨b', off' + k * 2 + 1, none⟩) hb2).trans a4
        obtain ⟨⟨t, s⟩, hx⟩ : ∃ x, es.getD k noL = x := ⟨_, rfl⟩
        obtain ⟨⟨t', s'⟩, hx'⟩ : ∃ x, fs.getD k noL = x := ⟨_, rfl⟩
        have HX : Hid (es.getD k noL = (t, s) ∧ fs.getD k noL = (t', s')) := Lib.hid ⟨hx, hx'⟩
        rw [hx] at a1 a2
        rw [hx'] at a3 a4
        dsimp only at a1 a2 a3 a4
        replace hb := Lib.hid hb
        clear hx hx' h1 h2
        by_cases hte : t = t'
        · have hq1 := seq_yes hte
          by_cases hse : s = s'
          · have hq2 := seq_yes hse
            have HT1 : Hid (es.take (k + 1) = fs.take (k + 1)) := Lib.hid (by
              rw [take_snocL (by rw [HR.out.1]; exact hlt), take_snocL (by rw [HS.out.1]; exact hlt), HT.out, HX.out.1, HX.out.2, hte, hse])
            clear hte hse
            go_wp2_with fail
            go_quiet (fail)
            go_wp2_with fail
            exact ⟨⟨k + 1, hlt, by go_num, HT1, Below.dn hb.out _⟩, by simp [intOf]; omega⟩
          · have hq2 := seq_no hse
            have HF : Hid (decide (es = fs) = false) := Lib.hid (decide_eq_false (getD_neL (j := k) (by rw [HX.out.1, HX.out.2]; simpa [hte] using hse)))
            clear hte hse
            go_wp2_with fail
            go_quiet (fail)
            go_wp2_with fail
            go_ret
            exact ⟨by rw [HF.out]; rfl, Below.dn hb.out _⟩
        · have hq1 := seq_no hte
          have HF : Hid (decide (es = fs) = false) := Lib.hid (decide_eq_false (getD_neL (j := k) (by rw [HX.out.1, HX.out.2]; simp [hte])))
          obtain ⟨q2, hq2⟩ : ∃ q, (s.toList == s'.toList) = q := ⟨_, rfl⟩
          clear hte
          go_wp2_with fail
          go_quiet (fail)
          go_wp2_with fail
          go_ret
          exact ⟨by rw [HF.out]; rfl, Below.dn hb.out _⟩
      · have hkn : k = n := by omega
        have f1 : decide ((k : Int) < (n : Int)) = false := decide_eq_false (by omega)
        have HF : Hid (decide (es = fs) = true) := Lib.hid (by
          have := HT.out
          rw [List.take_of_length_le (by rw [HR.out.1]; omega), List.take_of_length_le (by rw [HS.out.1]; omega)] at this
          simp [this])
        clear hk hkn
        go_wp2_with fail
        go_ret
        exact ⟨by rw [HF.out]; rfl, hb⟩
  · have hne' : ¬ (n : Int) = (m : Int) := by omega
    have b0 : ((n : Int) == (m : Int)) = false := beq_eq_false_iff_ne.2 hne'
    have HF : Hid (decide (es = fs) = false) := Lib.hid (by
      rw [decide_eq_false_iff_not]
      rintro rfl
      exact hne (hr.1.symm.trans hs.1))
    clear hr hs
    go_enter Tryz.func42, Tryz.ntmps42
    go_wp2_with fail
    go_ret
    exact ⟨by rw [HF.out]; rfl, Below.refl _ _⟩
theorem Same_any (A A' : Option Addr) (n m c c' : Nat) (es fs : List Lb) (w : World) (hr : RowL w w.heap.size A n es) (hs : RowL w w.heap.size A' m fs) (hn : n ≤ 100000000) (hm : m ≤ 100000000) :
    Calls Tryz.prog 18 #[.slice A n c, .slice A' m c'] w fun e w' => e = .returned (.bool (decide (es = fs))) ∧ Below w.heap.size w w' := by
  have HC := Lib.hid (Equal_any A A' n m c c' es fs w hr hs hn hm)
  clear hr hs
  obtain ⟨q, hq⟩ : ∃ q, decide (es = fs) = q := ⟨_, rfl⟩
  rw [hq] at HC ⊢
  clear hq
  go_enter Tryz.func18, Tryz.ntmps18
  go_wp2_with fail
  with_reducible refine HC.out.mono ?_
  rintro e w1 ⟨rfl, b⟩
  have HB := Lib.hid b
  clear b HC
  go_wp2_with fail
  go_ret
  exact ⟨rfl, HB.out⟩
end Go.Proofs.YtdmflofdchmfhaaGreatDoor
