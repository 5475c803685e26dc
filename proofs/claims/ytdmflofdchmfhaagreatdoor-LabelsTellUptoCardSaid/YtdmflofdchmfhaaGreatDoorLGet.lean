/- Get, Check: the program's. -/
import Derived.Test.YtdmflofdchmfhaaGreatDoorLEq
namespace Go.Proofs.YtdmflofdchmfhaaGreatDoor
open Go.RowKit

theorem getL_hit {l : List Lb} {n : ByteArray} {k : Nat} (hk : k < l.length) (h1 : ∀ x ∈ l.take k, x.1 ≠ n) (h2 : (l.getD k noL).1 = n) : getL l n = (l.getD k noL).2 := by
  induction l generalizing k with
  | nil => simp at hk
  | cons x t ih =>
    cases k with
    | zero => simp at h2; simp [getL, h2]
    | succ k =>
      have hx : x.1 ≠ n := h1 x (by simp)
      rw [getL, if_neg hx]
      exact ih (by simpa using hk) (fun y hy => h1 y (by simp [hy])) (by simpa using h2)
theorem getL_none {l : List Lb} {n : ByteArray} (h1 : ∀ x ∈ l, x.1 ≠ n) : getL l n = ByteArray.empty := by
  induction l with
  | nil => rfl
  | cons x t ih => rw [getL, if_neg (h1 x (by simp))]; exact ih fun y hy => h1 y (by simp [hy])
set_option maxRecDepth 100000 in
set_option maxHeartbeats 1000000 in
theorem Get_any (A : Option Addr) (n c : Nat) (l : List Lb) (x : ByteArray) (w : World) (hr : RowL w w.heap.size A n l) (hn : n ≤ 100000000) :
    Calls Tryz.prog 12 #[.slice A n c, .string x] w fun e w' => e = .returned (.string (getL l x)) ∧ Below w.heap.size w w' := by
  have HL := Lib.hid hr.1
  have HR := Lib.hid hr
  clear hr
  go_enter Tryz.func12, Tryz.ntmps12
  go_wp2_with fail
  go_loopw [9] (fun p wr => ∃ k : Nat, k ≤ n ∧ p = .int .i64 (k : Int) ∧ Hid (∀ y ∈ l.take k, y.1 ≠ x) ∧ Below w.heap.size w wr) (fun p _ => n - (intOf p).toNat)
  case atStart => exact ⟨0, by omega, rfl, Lib.hid (by simp), Below.refl _ _⟩
  case round =>
    obtain ⟨k, hk, rfl, HN, hb⟩ := hrel
    by_cases hlt : k < n
    · obtain ⟨b, off, rfl, hbB, hc⟩ := HR.out.2 (by omega)
      obtain ⟨c1, c2⟩ := hc k hlt
      replace c1 := (hb.cell (p := ⟨b, off + k * 2, none⟩) hbB).trans c1
      replace c2 := (hb.cell (p := ⟨b, off + k * 2 + 1, none⟩) hbB).trans c2
      have HK : Hid (k < l.length) := Lib.hid (by rw [HL.out]; exact hlt)
      obtain ⟨y, hy⟩ : ∃ y, l.getD k noL = y := ⟨_, rfl⟩
      rw [hy] at c1 c2
      have HY := Lib.hid hy
      obtain ⟨y1, y2⟩ := y
      dsimp only at c1 c2
      have g0 : (0 : Int) ≤ (k : Int) := by omega
      have g1 : (k : Int) < (n : Int) := by omega
      have f1 : decide ((k : Int) < (n : Int)) = true := decide_eq_true g1
      have HBr := Lib.hid hb
      clear hc hy hb
      by_cases he : y1 = x
      · have e1 := seq_yes he
        have HF : Hid (getL l x = y2) := Lib.hid (by rw [getL_hit HK.out HN.out (by rw [HY.out]; exact he), HY.out])
        clear he
        go_wp2_with fail
        go_ret
        rw [HF.out]
        exact ⟨rfl, HBr.out.alloc HBr.out.size _⟩
      · have e1 := seq_no he
        have HN2 : Hid (∀ y ∈ l.take (k + 1), y.1 ≠ x) := Lib.hid (fun z hz => by
          rw [take_snocL HK.out, HY.out] at hz
          rcases List.mem_append.1 hz with hz | hz
          · exact HN.out z hz
          · rw [List.mem_singleton.1 hz]; exact he)
        clear he
        go_wp2_with fail
        exact ⟨⟨k + 1, hlt, by go_num, HN2, HBr.out.alloc HBr.out.size _⟩, by simp [intOf]; omega⟩
    · have f1 : decide ((k : Int) < (n : Int)) = false := decide_eq_false (by omega)
      have HF : Hid (getL l x = ByteArray.empty) := Lib.hid (getL_none (by have h := HN.out; rwa [List.take_of_length_le (by rw [HL.out]; omega)] at h))
      go_wp2_with fail
      go_ret
      rw [HF.out]
      exact ⟨rfl, hb⟩
theorem chkL_bad {l : List Lb} (h : ¬ (l.length ≤ 16 ∧ Ord l ∧ ∀ x ∈ l, nmS x.1 = true ∧ x.2.size ≤ 256)) : chkL nmS l = 50 := by rw [chkL, if_neg h]
set_option maxRecDepth 100000 in
set_option maxHeartbeats 4000000 in
theorem Check_any (A : Option Addr) (n c : Nat) (l : List Lb) (w : World) (hr : RowL w w.heap.size A n l) (hn : n ≤ 100000000) :
    Calls Tryz.prog 10 #[.slice A n c] w fun e w' => e = .returned (.int .i64 (chkL nmS l)) ∧ Below w.heap.size w w' := by
  have HL := Lib.hid hr.1
  have HR := Lib.hid hr
  have HC := Lib.hid (isOrdered_any A n c l w hr hn)
  clear hr
  by_cases h16 : n ≤ 16
  · have f0 : decide ((16 : Int) < (n : Int)) = false := decide_eq_false (by omega)
    have f00 : decide (16 < n) = false := decide_eq_false (by omega)
    by_cases hO : Ord l
    · have C := HC.out
      rw [decide_eq_true hO] at C
      replace C := Lib.hid C
      have HO := Lib.hid hO
      clear hO HC
      go_enter Tryz.func10, Tryz.ntmps10
      go_wp2_with fail
      with_reducible refine C.out.mono ?_
      rintro e w1 ⟨rfl, b1⟩
      have HB1 := Lib.hid b1
      clear C b1
      go_wp2_with fail
      go_loopw [15] (fun p wr => ∃ k : Nat, k ≤ n ∧ p = .int .i64 (k : Int) ∧ Hid (∀ y ∈ l.take k, nmS y.1 = true ∧ y.2.size ≤ 256) ∧ Below w.heap.size w wr) (fun p _ => n - (intOf p).toNat)
      case atStart => exact ⟨0, by omega, rfl, Lib.hid (by simp), HB1.out⟩
      case round =>
        obtain ⟨k, hk, rfl, HN, hb⟩ := hrel
        by_cases hlt : k < n
        · obtain ⟨b, off, rfl, hbB, hc⟩ := HR.out.2 (by omega)
          obtain ⟨c1, c2⟩ := hc k hlt
          replace c1 := (hb.cell (p := ⟨b, off + k * 2, none⟩) hbB).trans c1
          replace c2 := (hb.cell (p := ⟨b, off + k * 2 + 1, none⟩) hbB).trans c2
          have hmem := getD_memL (l := l) (j := k) (by rw [HL.out]; exact hlt)
          obtain ⟨y, hy⟩ : ∃ y, l.getD k noL = y := ⟨_, rfl⟩
          rw [hy] at c1 c2 hmem
          have HY := Lib.hid hy
          have HM := Lib.hid hmem
          obtain ⟨y1, y2⟩ := y
          dsimp only at c1 c2
          have g0 : (0 : Int) ≤ (k : Int) := by omega
          have g1 : (k : Int) < (n : Int) := by omega
          have f1 : decide ((k : Int) < (n : Int)) = true := decide_eq_true g1
          have hbx : Below w.heap.size w (wr.alloc (.cells #[.string y1, .string y2] 29)) := hb.alloc hb.size _
          have d2 : (wr.alloc (.cells #[.string y1, .string y2] 29)).cell? ⟨wr.heap.size, 1, none⟩ = some (.string y2) := by rw [World.cell?_alloc_at _ _ _ _ (by simp)]; rfl
          have hsz : wr.heap.size < (wr.alloc (.cells #[.string y1, .string y2] 29)).heap.size := by rw [World.size_alloc]; omega
          have HD := Lib.hid (And.intro hsz d2)
          have HBr := Lib.hid hbx
          have C2 := Lib.hid (IsName_any y1 (wr.alloc (.cells #[.string y1, .string y2] 29)))
          obtain ⟨t, ht⟩ : ∃ t, nmS y1 = t := ⟨_, rfl⟩
          rw [ht] at C2
          have HT := Lib.hid ht
          clear hc hy hmem hb hbx d2 hsz ht
          go_wp2_with fail
          with_reducible refine C2.out.mono ?_
          rintro e w3 ⟨rfl, b3⟩
          have e2 := (b3.cell (p := ⟨wr.heap.size, 1, none⟩) HD.out.1).trans HD.out.2
          have HB3 := Lib.hid (HBr.out.trans (b3.mono HBr.out.size))
          clear C2 b3 HD HBr
          rcases t with _ | _
          · have HF : Hid (chkL nmS l = 50) := Lib.hid (chkL_bad fun h => by have := (h.2.2 _ HM.out).1; rw [HT.out] at this; cases this)
            go_wp2_with fail
            go_ret
            rw [HF.out]
            exact ⟨rfl, HB3.out⟩
          · by_cases h256 : y2.size ≤ 256
            · have f2 : decide ((256 : Int) < (y2.size : Int)) = false := decide_eq_false (by omega)
              have f3 : decide (256 < y2.size) = false := decide_eq_false (by omega)
              have HN2 : Hid (∀ y ∈ l.take (k + 1), nmS y.1 = true ∧ y.2.size ≤ 256) := Lib.hid (fun z hz => by
                rw [take_snocL (by rw [HL.out]; exact hlt), HY.out] at hz
                rcases List.mem_append.1 hz with hz | hz
                · exact HN.out z hz
                · rw [List.mem_singleton.1 hz]; exact ⟨HT.out, h256⟩)
              go_wp2_with fail
              exact ⟨⟨k + 1, hlt, by go_num, HN2, HB3.out⟩, by simp [intOf]; omega⟩
            · have f2 : decide ((256 : Int) < (y2.size : Int)) = true := decide_eq_true (by omega)
              have f3 : decide (256 < y2.size) = true := decide_eq_true (by omega)
              have f4 : 256 < y2.size := by omega
              have HF : Hid (chkL nmS l = 50) := Lib.hid (chkL_bad fun h => h256 (h.2.2 _ HM.out).2)
              go_wp2_with fail
              go_ret
              rw [HF.out]
              exact ⟨rfl, HB3.out⟩
        · have f1 : decide ((k : Int) < (n : Int)) = false := decide_eq_false (by omega)
          have HF : Hid (chkL nmS l = 0) := Lib.hid (by
            have h := HN.out
            rw [List.take_of_length_le (by rw [HL.out]; omega)] at h
            rw [chkL, if_pos ⟨by rw [HL.out]; exact h16, HO.out, h⟩])
          go_wp2_with fail
          go_ret
          rw [HF.out]
          exact ⟨rfl, hb⟩
    · have C := HC.out
      rw [decide_eq_false hO] at C
      replace C := Lib.hid C
      have HF : Hid (chkL nmS l = 50) := Lib.hid (chkL_bad fun h => hO h.2.1)
      clear hO HC
      go_enter Tryz.func10, Tryz.ntmps10
      go_wp2_with fail
      with_reducible refine C.out.mono ?_
      rintro e w1 ⟨rfl, b1⟩
      clear C
      go_wp2_with fail
      go_ret
      rw [HF.out]
      exact ⟨rfl, b1⟩
  · have f0 : decide ((16 : Int) < (n : Int)) = true := decide_eq_true (by omega)
    have f00 : decide (16 < n) = true := decide_eq_true (by omega)
    have f01 : 16 < n := by omega
    have HF : Hid (chkL nmS l = 50) := Lib.hid (chkL_bad fun h => h16 (by rw [← HL.out]; exact h.1))
    clear HC
    go_enter Tryz.func10, Tryz.ntmps10
    go_wp2_with fail
    go_ret
    rw [HF.out]
    exact ⟨rfl, Below.refl _ _⟩
end Go.Proofs.YtdmflofdchmfhaaGreatDoor
