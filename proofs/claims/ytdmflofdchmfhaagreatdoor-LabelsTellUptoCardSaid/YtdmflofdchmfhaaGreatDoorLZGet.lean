/- The document's Get, Check, Compare, Same. -/
import Derived.Test.YtdmflofdchmfhaaGreatDoorLZName
import Derived.Test.YtdmflofdchmfhaaGreatDoorLGet
namespace Go.Proofs.YtdmflofdchmfhaaGreatDoor
open Go.RowKit

set_option maxRecDepth 100000 in
set_option maxHeartbeats 2000000 in
theorem rGet_any (A : Option Addr) (n c : Nat) (l : List Lb) (x : ByteArray) (w : World) (hr : RowL w w.heap.size A n l) (hn : n ≤ 100000000) :
    Calls Tryz.prog 13 #[.slice A n c, .string x] w fun e w' => e = .returned (.string (getL l x)) ∧ w = w' := by
  have HL := Lib.hid hr.1
  have HR := Lib.hid hr
  clear hr
  go_enter Tryz.func13, Tryz.ntmps13
  go_wp2_with fail
  go_loopw [5] (fun p wr => ∃ k : Nat, k ≤ n ∧ p = .int .i64 (k : Int) ∧ Hid (∀ y ∈ l.take k, y.1 ≠ x) ∧ w = wr) (fun p _ => n - (intOf p).toNat)
  case atStart => exact ⟨0, by omega, rfl, Lib.hid (by simp), rfl⟩
  case round =>
    obtain ⟨k, hk, rfl, HN, rfl⟩ := hrel
    by_cases hlt : k < n
    · obtain ⟨b, off, rfl, hbB, hc⟩ := HR.out.2 (by omega)
      obtain ⟨c1, c2⟩ := hc k hlt
      have HK : Hid (k < l.length) := Lib.hid (by rw [HL.out]; exact hlt)
      obtain ⟨y, hy⟩ : ∃ y, l.getD k noL = y := ⟨_, rfl⟩
      rw [hy] at c1 c2
      have HY := Lib.hid hy
      obtain ⟨y1, y2⟩ := y
      dsimp only at c1 c2
      have g0 : (0 : Int) ≤ (k : Int) := by omega
      have g1 : (k : Int) < (n : Int) := by omega
      have f1 : decide ((k : Int) < (n : Int)) = true := decide_eq_true g1
      have HKn := Lib.hid hlt
      clear hc hy
      by_cases he : y1 = x
      · have e1 := seq_yes he
        have HF : Hid (getL l x = y2) := Lib.hid (by rw [getL_hit HK.out HN.out (by rw [HY.out]; exact he), HY.out])
        clear he
        go_wp2_with fail
        go_ret
        rw [HF.out]
        exact ⟨rfl, rfl⟩
      · have e1 := seq_no he
        have HN2 : Hid (∀ y ∈ l.take (k + 1), y.1 ≠ x) := Lib.hid (fun z hz => by
          rw [take_snocL HK.out, HY.out] at hz
          rcases List.mem_append.1 hz with hz | hz
          · exact HN.out z hz
          · rw [List.mem_singleton.1 hz]; exact he)
        clear he
        go_wp2_with fail
        exact ⟨⟨k + 1, HKn.out, by go_num, HN2, trivial⟩, by have := HKn.out; simp [intOf]; omega⟩
    · have f1 : decide ((k : Int) < (n : Int)) = false := decide_eq_false (by omega)
      have HF : Hid (getL l x = ByteArray.empty) := Lib.hid (getL_none (by have h := HN.out; rwa [List.take_of_length_le (by rw [HL.out]; omega)] at h))
      go_wp2_with fail
      go_ret
      rw [HF.out]
      exact ⟨rfl, rfl⟩
set_option maxRecDepth 100000 in
set_option maxHeartbeats 4000000 in
theorem rChkL_any (A : Option Addr) (n c : Nat) (l : List Lb) (w : World) (hr : RowL w w.heap.size A n l) (hn : n ≤ 100000000) :
    Calls Tryz.prog 11 #[.slice A n c] w fun e w' => e = .returned (.int .i64 (chkL nmS l)) ∧ Below w.heap.size w w' := by
  have HL := Lib.hid hr.1
  have HR := Lib.hid hr
  have HC := Lib.hid (rInOrder_any A n c l w hr hn)
  clear hr
  by_cases h16 : n ≤ 16
  · have f0 : decide ((16 : Int) < (n : Int)) = false := decide_eq_false (by omega)
    have f00 : decide (16 < n) = false := decide_eq_false (by omega)
    by_cases hO : Ord l
    · have C := HC.out
      rw [decide_eq_true hO] at C
      replace C := Lib.hid C
      have HO := Lib.hid hO
      clear hO HC
      go_enter Tryz.func11, Tryz.ntmps11
      go_wp2_with fail
      with_reducible refine C.out.mono ?_
      rintro e w1 ⟨rfl, b1⟩
      have HB1 := Lib.hid b1
      have HR1 := Lib.hid (HR.out.on b1)
      clear C b1
      go_wp2_with fail
      go_loopw [3] (fun p wr => ∃ k : Nat, k ≤ n ∧ p = .int .i64 (k : Int) ∧ Hid (∀ y ∈ l.take k, nmS y.1 = true ∧ y.2.size ≤ 256) ∧ w1 = wr) (fun p _ => n - (intOf p).toNat)
      case atStart => exact ⟨0, by omega, rfl, Lib.hid (by simp), rfl⟩
      case round =>
        obtain ⟨k, hk, rfl, HN, rfl⟩ := hrel
        by_cases hlt : k < n
        · obtain ⟨b, off, rfl, hbB, hc⟩ := HR1.out.2 (by omega)
          obtain ⟨c1, c2⟩ := hc k hlt
          have hkl : k < l.length := by rw [HL.out]; exact hlt
          have hmem := getD_memL (l := l) (j := k) hkl
          obtain ⟨y, hy⟩ : ∃ y, l.getD k noL = y := ⟨_, rfl⟩
          rw [hy] at c1 c2 hmem
          have HT2 : Hid (l.take (k + 1) = l.take k ++ [y]) := Lib.hid (by rw [take_snocL hkl, hy])
          have HM := Lib.hid hmem
          obtain ⟨y1, y2⟩ := y
          dsimp only at c1 c2
          have g0 : (0 : Int) ≤ (k : Int) := by omega
          have g1 : (k : Int) < (n : Int) := by omega
          have f1 : decide ((k : Int) < (n : Int)) = true := decide_eq_true g1
          have C2 := rIsName_any y1 w1
          obtain ⟨t, ht⟩ : ∃ t, nmS y1 = t := ⟨_, rfl⟩
          rw [ht] at C2
          replace C2 := Lib.hid C2
          have HT := Lib.hid ht
          have HKn := Lib.hid hlt
          clear hc hy hmem ht hkl
          rcases t with _ | _
          · have HF : Hid (chkL nmS l = 50) := Lib.hid (chkL_bad fun h => by have := (h.2.2 _ HM.out).1; rw [HT.out] at this; cases this)
            go_wp2_with fail
            with_reducible refine C2.out.mono ?_
            rintro e w3 ⟨rfl, rfl⟩
            go_wp2_with fail
            go_ret
            rw [HF.out]
            exact ⟨rfl, HB1.out⟩
          · by_cases h256 : y2.size ≤ 256
            · have f2 : decide ((256 : Int) < (y2.size : Int)) = false := decide_eq_false (by omega)
              have f3 : decide (256 < y2.size) = false := decide_eq_false (by omega)
              have HN2 : Hid (∀ y ∈ l.take (k + 1), nmS y.1 = true ∧ y.2.size ≤ 256) := Lib.hid (fun z hz => by
                rw [HT2.out] at hz
                rcases List.mem_append.1 hz with hz | hz
                · exact HN.out z hz
                · rw [List.mem_singleton.1 hz]; exact ⟨HT.out, h256⟩)
              clear h256
              go_wp2_with fail
              with_reducible refine C2.out.mono ?_
              rintro e w3 ⟨rfl, rfl⟩
              go_wp2_with fail
              exact ⟨⟨k + 1, HKn.out, by go_num, HN2, trivial⟩, by have := HKn.out; simp [intOf]; omega⟩
            · have f2 : decide ((256 : Int) < (y2.size : Int)) = true := decide_eq_true (by omega)
              have f3 : decide (256 < y2.size) = true := decide_eq_true (by omega)
              have HF : Hid (chkL nmS l = 50) := Lib.hid (chkL_bad fun h => h256 (h.2.2 _ HM.out).2)
              clear h256
              go_wp2_with fail
              with_reducible refine C2.out.mono ?_
              rintro e w3 ⟨rfl, rfl⟩
              go_wp2_with fail
              go_ret
              rw [HF.out]
              exact ⟨rfl, HB1.out⟩
        · have f1 : decide ((k : Int) < (n : Int)) = false := decide_eq_false (by omega)
          have HF : Hid (chkL nmS l = 0) := Lib.hid (by
            have hk2 : k = n := by omega
            have hl := HL.out
            unfold chkL
            exact if_pos ⟨by omega, HO.out, fun x hx => HN.out x (by rw [List.take_of_length_le (by omega)]; exact hx)⟩)
          go_wp2_with fail
          go_ret
          rw [HF.out]
          exact ⟨rfl, HB1.out⟩
    · have C := HC.out
      rw [decide_eq_false hO] at C
      replace C := Lib.hid C
      have HF : Hid (chkL nmS l = 50) := Lib.hid (chkL_bad fun h => hO h.2.1)
      clear hO HC
      go_enter Tryz.func11, Tryz.ntmps11
      go_wp2_with fail
      with_reducible refine C.out.mono ?_
      rintro e w1 ⟨rfl, b1⟩
      have HB1 := Lib.hid b1
      clear C b1
      go_wp2_with fail
      go_ret
      rw [HF.out]
      exact ⟨rfl, HB1.out⟩
  · have f0 : decide ((16 : Int) < (n : Int)) = true := decide_eq_true (by omega)
    have f00 : decide (16 < n) = true := decide_eq_true (by omega)
    have HF : Hid (chkL nmS l = 50) := Lib.hid (chkL_bad fun h => by have h1 := h.1; have h2 := HL.out; omega)
    go_enter Tryz.func11, Tryz.ntmps11
    go_wp2_with fail
    go_ret
    rw [HF.out]
    exact ⟨rfl, Below.refl _ _⟩
theorem three_any (q : Bool) (w : World) : Calls Tryz.prog 41 #[.bool q] w fun e w' => e = .returned (.int .i64 (if q = true then -1 else 1)) ∧ w = w' := by
  cases q
  · go_enter Tryz.func41, Tryz.ntmps41
    go_wp2_with fail
    go_ret
    exact ⟨rfl, rfl⟩
  · go_enter Tryz.func41, Tryz.ntmps41
    go_wp2_with fail
    go_ret
    exact ⟨rfl, rfl⟩
end Go.Proofs.YtdmflofdchmfhaaGreatDoor
