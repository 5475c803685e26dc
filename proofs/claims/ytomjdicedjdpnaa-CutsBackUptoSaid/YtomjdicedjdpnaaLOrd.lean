/- LOrd: taken over. -/
import Derived.Test.YtomjdicedjdpnaaLName
namespace Go.Proofs.Ytomjdicedjdpnaa
open Go.RowKit

theorem Ord.take {l : List Lb} (h : Ord l) (i : Nat) : Ord (l.take i) := ⟨fun x hx => h.1 x (List.mem_of_mem_take hx), h.2.sublist (List.take_sublist _ _)⟩
theorem ord_no1 {l : List Lb} {i : Nat} (hi : i < l.length) (h : (l.getD i noL).2 = ByteArray.empty) : decide (Ord l) = false := decide_eq_false fun k => k.1 _ (getD_memL hi) h
theorem ord_no2 {l : List Lb} {q i : Nat} (hq : q + 1 = i) (hi : i < l.length) (h : ¬ lt (l.getD q noL).1 (l.getD i noL).1) : decide (Ord l) = false := decide_eq_false fun k => h (by
  have := List.pairwise_iff_getElem.1 k.2 q i (by omega) hi (by omega)
  rw [List.getD_eq_getElem?_getD, List.getD_eq_getElem?_getD, List.getElem?_eq_getElem hi, List.getElem?_eq_getElem (show q < l.length by omega)]
  exact this)
theorem ord_next0 {l : List Lb} (hi : 0 < l.length) (h : (l.getD 0 noL).2 ≠ ByteArray.empty) : Ord (l.take 1) := by
  rw [take_snocL (j := 0) hi]
  exact Ord.nil.snoc h (fun y hy => by cases hy)
theorem ord_next {l : List Lb} {q i : Nat} (hq : q + 1 = i) (hi : i < l.length) (ho : Ord (l.take i)) (h : (l.getD i noL).2 ≠ ByteArray.empty) (h2 : lt (l.getD q noL).1 (l.getD i noL).1) : Ord (l.take (i + 1)) := by
  rw [take_snocL (j := i) hi]
  subst hq
  rw [take_snocL (j := q) (by omega)] at ho ⊢
  exact ho.snoc2 h h2
theorem emp_no {s : ByteArray} (h : s ≠ ByteArray.empty) : s.toList.isEmpty = false := by
  rcases hb : bl s with _ | ⟨c, t⟩
  · exact absurd (bl_nil.2 hb) h
  · exact isEmpty_no hb
theorem emp_yes {s : ByteArray} (h : s = ByteArray.empty) : s.toList.isEmpty = true := empty_yes (by rw [h]; rfl)
theorem leq_no {a b : ByteArray} (h : lt a b) : (Op.bytesLess b.toList a.toList || b.toList == a.toList) = false := by
  rw [less_lt, eq_eq, decide_eq_false (lt_asymm h), decide_eq_false (fun e => lt_ne h e.symm)]; rfl
theorem leq_yes {a b : ByteArray} (h : ¬ lt a b) : (Op.bytesLess b.toList a.toList || b.toList == a.toList) = true := by
  rw [less_lt, eq_eq]
  rcases lt_tri a b with k | k | k
  · exact absurd k h
  · subst k; simp
  · rw [decide_eq_true k]; rfl
set_option maxRecDepth 100000 in
set_option maxHeartbeats 4000000 in
theorem isOrdered_any (A : Option Addr) (n c : Nat) (l : List Lb) (w : World) (hr : RowL w w.heap.size A n l) (hn : n ≤ 100000000) :
    Calls Try.prog 35 #[.slice A n c] w fun e w' => e = .returned (.bool (decide (Ord l))) ∧ Below w.heap.size w w' := by
  have HR := Lib.hid hr
  have HL := Lib.hid hr.1
  clear hr
  go_enter Try.func35, Try.ntmps35
  go_wp2_with fail
  go_loopw [7] (fun p wr => ∃ i : Nat, i ≤ n ∧ p = .int .i64 (i : Int) ∧ Hid (Ord (l.take i)) ∧ Below w.heap.size w wr) (fun p _ => n - (intOf p).toNat)
  case atStart => exact ⟨0, by omega, rfl, Lib.hid Ord.nil, Below.refl _ _⟩
  case round =>
    obtain ⟨i, hi, rfl, HO, hb⟩ := hrel
    by_cases hlt : i < n
    · obtain ⟨b, off, rfl, hbB, hc⟩ := HR.out.2 (by omega)
      obtain ⟨c1, c2⟩ := hc i hlt
      replace c1 := (hb.cell (p := ⟨b, off + i * 2, none⟩) hbB).trans c1
      replace c2 := (hb.cell (p := ⟨b, off + i * 2 + 1, none⟩) hbB).trans c2
      have hbw : b < wr.heap.size := by have := hb.size; omega
      obtain ⟨x, hx⟩ : ∃ x, l.getD i noL = x := ⟨_, rfl⟩
      rw [hx] at c1 c2
      have HX := Lib.hid hx
      obtain ⟨x1, x2⟩ := x
      dsimp only at c1 c2
      have g0 : (0 : Int) ≤ (i : Int) := by omega
      have g1 : (i : Int) < (n : Int) := by omega
      have f1 : decide ((i : Int) < (n : Int)) = true := decide_eq_true g1
      have HI : Hid (i < l.length) := Lib.hid (by rw [HL.out]; exact hlt)
      clear hx
      by_cases he : x2 = ByteArray.empty
      · have e1 := emp_yes he
        have HF : Hid (decide (Ord l) = false) := Lib.hid (ord_no1 HI.out (by rw [HX.out]; exact he))
        have HBr := Lib.hid hb
        clear he hc hb
        go_wp2_with fail
        go_quiet (fail)
        go_wp2_with fail
        go_ret
        rw [HF.out]
        exact ⟨rfl, Below.dn (HBr.out.alloc HBr.out.size _) _⟩
      · have e1 := emp_no he
        have HE := Lib.hid he
        clear he
        rcases Nat.eq_zero_or_pos i with h0 | h0
        · have HO2 : Hid (Ord (l.take (i + 1))) := Lib.hid (by
            have hi0 := HI.out
            have hx0 := HX.out
            have hle : l.getD 0 noL = (x1, x2) := by rw [← hx0, h0]
            rw [h0]
            exact ord_next0 (by omega) (by rw [hle]; exact HE.out))
          have f2 : decide ((0 : Int) < (i : Int)) = false := decide_eq_false (by omega)
          have f5 : decide (0 < i) = false := decide_eq_false (by omega)
          have f3 : ¬ (0 : Int) < (i : Int) := by omega
          have f4 : ¬ 0 < i := by omega
          have HBr := Lib.hid hb
          clear hc hb h0
          go_wp2_with fail
          go_quiet (fail)
          go_wp2_with fail
          exact ⟨⟨i + 1, by omega, by go_num, HO2, Below.dn (HBr.out.alloc HBr.out.size _) _⟩, by simp [intOf]; omega⟩
        · obtain ⟨q, hq⟩ : ∃ q, q + 1 = i := ⟨i - 1, by omega⟩
          have p1 := (hb.cell (p := ⟨b, off + q * 2, none⟩) hbB).trans (hc q (by omega)).1
          obtain ⟨y, hy⟩ : ∃ y, l.getD q noL = y := ⟨_, rfl⟩
          rw [hy] at p1
          have HY := Lib.hid hy
          obtain ⟨y1, y2⟩ := y
          dsimp only at p1
          have g2 : (0 : Int) < (i : Int) := by omega
          have f2 : decide ((0 : Int) < (i : Int)) = true := decide_eq_true g2
          have f3 : decide (0 < i) = true := decide_eq_true h0
          have g3 : (0 : Int) ≤ (q : Int) := by omega
          have g4 : (q : Int) < (n : Int) := by omega
          have wq : IntKind.i64.wrap ((i : Int) - 1) = (q : Int) := by rw [IntKind.wrap_i64]; omega
          have HQ := Lib.hid hq
          have HBr := Lib.hid hb
          clear hy hq h0 hc hb
          by_cases hl : lt y1 x1
          · have e2 := leq_no hl
            have HO2 : Hid (Ord (l.take (i + 1))) := Lib.hid (ord_next HQ.out HI.out HO.out (by rw [HX.out]; exact HE.out) (by rw [HX.out, HY.out]; exact hl))
            clear hl
            go_wp2_with fail
            go_quiet (fail)
            go_wp2_with fail
            exact ⟨⟨i + 1, by omega, by go_num, HO2, Below.dn (HBr.out.alloc HBr.out.size _) _⟩, by simp [intOf]; omega⟩
          · have e2 := leq_yes hl
            have HF : Hid (decide (Ord l) = false) := Lib.hid (ord_no2 HQ.out HI.out (by rw [HX.out, HY.out]; exact hl))
            clear hl
            go_wp2_with fail
            go_quiet (fail)
            go_wp2_with fail
            go_ret
            rw [HF.out]
            exact ⟨rfl, Below.dn (HBr.out.alloc HBr.out.size _) _⟩
    · have f1 : decide ((i : Int) < (n : Int)) = false := decide_eq_false (by omega)
      have HF : Hid (decide (Ord l) = true) := Lib.hid (decide_eq_true (by have h := HO.out; rwa [List.take_of_length_le (by rw [HL.out]; omega)] at h))
      go_wp2_with fail
      go_ret
      rw [HF.out]
      exact ⟨rfl, hb⟩
set_option maxRecDepth 100000 in
set_option maxHeartbeats 4000000 in
theorem rInOrder_any (A : Option Addr) (n c : Nat) (l : List Lb) (w : World) (hr : RowL w w.heap.size A n l) (hn : n ≤ 100000000) :
    Calls Try.prog 50 #[.slice A n c] w fun e w' => e = .returned (.bool (decide (Ord l))) ∧ Below w.heap.size w w' := by
  have HR := Lib.hid hr
  have HL := Lib.hid hr.1
  clear hr
  go_enter Try.func50, Try.ntmps50
  go_wp2_with fail
  go_loopw [3] (fun p wr => ∃ i : Nat, i ≤ n ∧ p = .int .i64 (i : Int) ∧ Hid (Ord (l.take i)) ∧ Below w.heap.size w wr) (fun p _ => n - (intOf p).toNat)
  case atStart => exact ⟨0, by omega, rfl, Lib.hid Ord.nil, Below.refl _ _⟩
  case round =>
    obtain ⟨i, hi, rfl, HO, hb⟩ := hrel
    by_cases hlt : i < n
    · obtain ⟨b, off, rfl, hbB, hc⟩ := HR.out.2 (by omega)
      obtain ⟨c1, c2⟩ := hc i hlt
      replace c1 := (hb.cell (p := ⟨b, off + i * 2, none⟩) hbB).trans c1
      replace c2 := (hb.cell (p := ⟨b, off + i * 2 + 1, none⟩) hbB).trans c2
      have hbw : b < wr.heap.size := by have := hb.size; omega
      obtain ⟨x, hx⟩ : ∃ x, l.getD i noL = x := ⟨_, rfl⟩
      rw [hx] at c1 c2
      have HX := Lib.hid hx
      obtain ⟨x1, x2⟩ := x
      dsimp only at c1 c2
      have g0 : (0 : Int) ≤ (i : Int) := by omega
      have g1 : (i : Int) < (n : Int) := by omega
      have f1 : decide ((i : Int) < (n : Int)) = true := decide_eq_true g1
      have HI : Hid (i < l.length) := Lib.hid (by rw [HL.out]; exact hlt)
      clear hx
      by_cases he : x2 = ByteArray.empty
      · have e1 := emp_yes he
        have HF : Hid (decide (Ord l) = false) := Lib.hid (ord_no1 HI.out (by rw [HX.out]; exact he))
        have HBr := Lib.hid hb
        clear he hc hb
        go_wp2_with fail
        go_quiet (fail)
        go_wp2_with fail
        go_ret
        rw [HF.out]
        exact ⟨rfl, Below.dn HBr.out _⟩
      · have e1 := emp_no he
        have HE := Lib.hid he
        clear he
        rcases Nat.eq_zero_or_pos i with h0 | h0
        · have HO2 : Hid (Ord (l.take (i + 1))) := Lib.hid (by
            have hi0 := HI.out
            have hx0 := HX.out
            have hle : l.getD 0 noL = (x1, x2) := by rw [← hx0, h0]
            rw [h0]
            exact ord_next0 (by omega) (by rw [hle]; exact HE.out))
          have f2 : decide ((0 : Int) < (i : Int)) = false := decide_eq_false (by omega)
          have f5 : decide (0 < i) = false := decide_eq_false (by omega)
          have f3 : ¬ (0 : Int) < (i : Int) := by omega
          have f4 : ¬ 0 < i := by omega
          have HBr := Lib.hid hb
          clear hc hb h0
          go_wp2_with fail
          go_quiet (fail)
          go_wp2_with fail
          exact ⟨⟨i + 1, by omega, by go_num, HO2, Below.dn HBr.out _⟩, by simp [intOf]; omega⟩
        · obtain ⟨q, hq⟩ : ∃ q, q + 1 = i := ⟨i - 1, by omega⟩
          have p1 := (hb.cell (p := ⟨b, off + q * 2, none⟩) hbB).trans (hc q (by omega)).1
          obtain ⟨y, hy⟩ : ∃ y, l.getD q noL = y := ⟨_, rfl⟩
          rw [hy] at p1
          have HY := Lib.hid hy
          obtain ⟨y1, y2⟩ := y
          dsimp only at p1
          have g2 : (0 : Int) < (i : Int) := by omega
          have f2 : decide ((0 : Int) < (i : Int)) = true := decide_eq_true g2
          have f3 : decide (0 < i) = true := decide_eq_true h0
          have g3 : (0 : Int) ≤ (q : Int) := by omega
          have g4 : (q : Int) < (n : Int) := by omega
          have wq : IntKind.i64.wrap ((i : Int) - 1) = (q : Int) := by rw [IntKind.wrap_i64]; omega
          have HQ := Lib.hid hq
          have HBr := Lib.hid hb
          clear hy hq h0 hc hb
          by_cases hl : lt y1 x1
          · have e2 := leq_no hl
            have HO2 : Hid (Ord (l.take (i + 1))) := Lib.hid (ord_next HQ.out HI.out HO.out (by rw [HX.out]; exact HE.out) (by rw [HX.out, HY.out]; exact hl))
            clear hl
            go_wp2_with fail
            go_quiet (fail)
            go_wp2_with fail
            exact ⟨⟨i + 1, by omega, by go_num, HO2, Below.dn HBr.out _⟩, by simp [intOf]; omega⟩
          · have e2 := leq_yes hl
            have HF : Hid (decide (Ord l) = false) := Lib.hid (ord_no2 HQ.out HI.out (by rw [HX.out, HY.out]; exact hl))
            clear hl
            go_wp2_with fail
            go_quiet (fail)
            go_wp2_with fail
            go_ret
            rw [HF.out]
            exact ⟨rfl, Below.dn HBr.out _⟩
    · have f1 : decide ((i : Int) < (n : Int)) = false := decide_eq_false (by omega)
      have HF : Hid (decide (Ord l) = true) := Lib.hid (decide_eq_true (by have h := HO.out; rwa [List.take_of_length_le (by rw [HL.out]; omega)] at h))
      go_wp2_with fail
      go_ret
      rw [HF.out]
      exact ⟨rfl, hb⟩
end Go.Proofs.Ytomjdicedjdpnaa
