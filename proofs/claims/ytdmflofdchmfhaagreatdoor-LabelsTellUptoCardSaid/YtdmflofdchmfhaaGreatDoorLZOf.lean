/- The document's Of. -/
import Derived.Test.YtdmflofdchmfhaaGreatDoorLZCmp
import Derived.Test.YtdmflofdchmfhaaGreatDoorLSetQ
namespace Go.Proofs.YtdmflofdchmfhaaGreatDoor
open Go.RowKit

theorem noDup_take {l : List Lb} (h : noDup l) (k : Nat) : noDup (l.take k) := by
  unfold noDup at *
  rw [List.map_take]
  exact h.sublist (List.take_sublist _ _)
/-- What Of answers: a row, and an error. -/
def OfRow (w : World) (r : List Lb × Int) (e : Ending) (w' : World) : Prop :=
  ∃ A c, e = .returned (.tuple #[.slice A r.1.length c, .int .i64 r.2]) ∧ RowL w' w'.heap.size A r.1.length r.1 ∧ Below w.heap.size w w'
theorem OfRow.none {w w' : World} {r : List Lb × Int} (h : r = ([], 50)) (hb : Below w.heap.size w w') : OfRow w r (.returned (.tuple #[.slice none 0 0, .int .i64 50])) w' := by
  subst h
  exact ⟨Option.none, 0, rfl, ⟨rfl, fun h => absurd h (Nat.lt_irrefl 0)⟩, hb⟩
set_option maxRecDepth 100000 in
set_option maxHeartbeats 8000000 in
theorem rOfL_any (A : Option Addr) (n c : Nat) (l : List Lb) (w : World) (hr : RowL w w.heap.size A n l) (hn : n ≤ 1000000) :
    Calls Tryz.prog 6 #[.slice A n c] w (OfRow w (ofL nmS l)) := by
  have HR := Lib.hid hr
  have HL := Lib.hid hr.1
  clear hr
  go_enter Tryz.func6, Tryz.ntmps6
  go_wp2_with fail
  go_loopw [4, 5] (fun o p wr => ∃ (i m : Nat) (A1 : Option Addr) (c1 : Nat), i ≤ n ∧ o = .slice A1 m c1 ∧ p = .int .i64 (i : Int) ∧ m ≤ i ∧ m ≤ c1 ∧ c1 ≤ 9223372036854775807 ∧ Hid (noDup (l.take i)) ∧ Hid (RowL wr wr.heap.size A1 m (sortL (l.take i))) ∧ Hid (Below w.heap.size w wr)) (fun _ p _ => n - (intOf p).toNat)
  case atStart => exact ⟨0, 0, none, 0, by omega, rfl, rfl, by omega, by omega, by omega, Lib.hid (by simp [noDup]), Lib.hid ⟨rfl, fun h => absurd h (Nat.lt_irrefl 0)⟩, Lib.hid (Below.refl _ _)⟩
  case round =>
    obtain ⟨i, m, A1, c1, hi, rfl, rfl, hmi, hmc, hc9, HD, HO, HB⟩ := hrel
    rename World => wo
    by_cases hlt : i < n
    · obtain ⟨b, off, rfl, hbB, hc⟩ := HR.out.2 (by omega)
      obtain ⟨x, hx⟩ : ∃ x, l.getD i noL = x := ⟨_, rfl⟩
      have hil : i < l.length := by rw [HL.out]; exact hlt
      have HT : Hid (l.take (i + 1) = l.take i ++ [x]) := Lib.hid (by rw [take_snocL hil, hx])
      have HC := Lib.hid hc
      have HX := Lib.hid hx
      have f1 : decide ((i : Int) < (n : Int)) = true := decide_eq_true (by omega)
      have f1n : decide (i < n) = true := decide_eq_true hlt
      have HI := Lib.hid hlt
      obtain ⟨x1, x2⟩ := x
      clear hc hx hil
      go_wp2_with fail
      go_loopw [6] (fun p v => ∃ k : Nat, k ≤ i ∧ p = .int .i64 (k : Int) ∧ Hid (∀ y ∈ l.take k, y.1 ≠ x1) ∧ Hid (Below wo.heap.size wo v)) (fun p _ => i - (intOf p).toNat)
      case atStart => exact ⟨0, by omega, rfl, Lib.hid (by simp), Lib.hid (Below.refl _ _)⟩
      case round =>
        obtain ⟨k, hk, rfl, HN, HBv⟩ := hrel
        have hB2 := next HB.out HBv.out
        have a1 := (hB2.cell (p := ⟨b, off + i * 2, none⟩) hbB).trans (HC.out i HI.out).1
        have a2 := (hB2.cell (p := ⟨b, off + i * 2 + 1, none⟩) hbB).trans (HC.out i HI.out).2
        rw [HX.out] at a1 a2
        dsimp only at a1 a2
        have g0 : (0 : Int) ≤ (i : Int) := by omega
        have g1 : (i : Int) < (n : Int) := by have := HI.out; omega
        by_cases hki : k < i
        · have b1 := (hB2.cell (p := ⟨b, off + k * 2, none⟩) hbB).trans (HC.out k (by have := HI.out; omega)).1
          have hkl : k < l.length := by rw [HL.out]; have := HI.out; omega
          obtain ⟨y, hy⟩ : ∃ y, l.getD k noL = y := ⟨_, rfl⟩
          rw [hy] at b1
          have HT2 : Hid (l.take (k + 1) = l.take k ++ [y]) := Lib.hid (by rw [take_snocL hkl, hy])
          have hmem : y ∈ l.take i := by
            have h1 : y ∈ l.take (k + 1) := by rw [HT2.out]; simp
            exact (List.take_sublist_take_left (by omega : k + 1 ≤ i)).subset h1
          obtain ⟨y1, y2⟩ := y
          dsimp only at b1
          have g2 : (0 : Int) ≤ (k : Int) := by omega
          have g3 : (k : Int) < (n : Int) := by have := HI.out; omega
          have f2 : decide ((k : Int) < (i : Int)) = true := decide_eq_true (by omega)
          have f2n : decide (k < i) = true := decide_eq_true hki
          have HK := Lib.hid hki
          have HM := Lib.hid hmem
          have HBB := Lib.hid hB2
          clear hkl hy hmem hB2
          by_cases e : y1 = x1
          · have s1 := seq_yes e
            have HF : Hid (ofL nmS l = ([], 50)) := Lib.hid (by
              unfold ofL
              refine if_neg fun h => ?_
              have h := noDup_take h (i + 1)
              rw [HT.out, noDup_snoc] at h
              exact h.2 _ HM.out e)
            clear e
            go_wp2_with fail
            go_quiet (fail)
            go_wp2_with fail
            go_ret2
            exact OfRow.none HF.out (Below.dn HBB.out _)
          · have s1 := seq_no e
            have HN2 : Hid (∀ y ∈ l.take (k + 1), y.1 ≠ x1) := Lib.hid (fun z hz => by
              rw [HT2.out] at hz
              rcases List.mem_append.1 hz with hz | hz
              · exact HN.out z hz
              · rw [List.mem_singleton.1 hz]; exact e)
            clear e
            go_wp2_with fail
            go_quiet (fail)
            go_wp2_with fail
            exact ⟨⟨k + 1, HK.out, by go_num, HN2, Lib.hid (Below.dn HBv.out _)⟩, by have := HK.out; simp [intOf]; omega⟩
        · obtain rfl : k = i := by omega
          have f2 : decide ((k : Int) < (k : Int)) = false := decide_eq_false (by omega)
          have HD2 : Hid (noDup (l.take (k + 1))) := Lib.hid (by rw [HT.out, noDup_snoc]; exact ⟨HD.out, HN.out⟩)
          have HS : Hid (sortL (l.take (k + 1)) = if x2 = ByteArray.empty then sortL (l.take k) else putL (sortL (l.take k)) (x1, x2)) := Lib.hid (by rw [HT.out, sortL_snoc])
          have HBB := Lib.hid hB2
          have HO2 := Lib.hid (HO.out.on HBv.out)
          clear hB2 hki
          by_cases he : x2 = ByteArray.empty
          · rw [if_pos he] at HS
            have s2 := seq_yes he
            have s3 : x2.toList.isEmpty = true := by rw [he, ByteArray.toList_eq]; rfl
            clear he
            go_wp2_with fail
            exact ⟨⟨k + 1, m, A1, c1, HI.out, rfl, by go_num, by omega, hmc, hc9, HD2, Lib.hid (by rw [HS.out]; exact HO2.out), HBB⟩, by have := HI.out; simp [intOf]; omega⟩
          · rw [if_neg he] at HS
            have s2 := seq_no he
            have s3 := emp_no he
            have hsm := sortL_mem _ (l.take k) rfl HD.out
            have C := Lib.hid (put_any A1 m c1 (sortL (l.take k)) x1 x2 _ HO2.out hsm.1 (fun y hy => HN.out y ((hsm.2 y).1 hy).1) (by have := HI.out; omega) hmc hc9)
            clear hsm he
            go_wp2_with fail
            with_reducible refine C.out.mono ?_
            rintro e v2 ⟨A2, c2, rfl, o, b2⟩
            have hcp := own_cap o
            have HB3 := Lib.hid (next HBB.out b2)
            have hml := sortL_len _ (l.take (k + 1)) rfl
            rw [List.length_take, HS.out] at hml
            have HO3 := Lib.hid (RowL.own o)
            obtain ⟨m2, hm2⟩ : ∃ m2, (putL (sortL (l.take k)) (x1, x2)).length = m2 := ⟨_, rfl⟩
            rw [hm2] at HO3 hcp hml ⊢
            have hm3 : m2 ≤ k + 1 := by omega
            clear C o b2 hm2 hml
            go_wp2_with fail
            exact ⟨⟨k + 1, m2, A2, c2, HI.out, rfl, by go_num, hm3, hcp.1, hcp.2, HD2, Lib.hid (by rw [HS.out]; exact HO3.out), HB3⟩, by have := HI.out; simp [intOf]; omega⟩
    · obtain rfl : i = n := by omega
      have f1 : decide ((i : Int) < (i : Int)) = false := decide_eq_false (by omega)
      have ht : l.take i = l := List.take_of_length_le (by rw [HL.out]; exact Nat.le_refl _)
      rw [ht] at HD HO
      have hml : (sortL l).length = m := HO.out.1
      have C := rChkL_any A1 m c1 (sortL l) wo HO.out (by omega)
      rcases chkL_or nmS (sortL l) with hk | hk
      · rw [hk] at C
        replace C := Lib.hid C
        have HF : Hid (ofL nmS l = (sortL l, 0)) := Lib.hid (by unfold ofL; rw [if_pos HD.out, if_pos hk])
        have e00 : ((0 : Int) == 0) = true := rfl
        clear ht hk hlt
        go_wp2_with fail
        with_reducible refine C.out.mono ?_
        rintro e v3 ⟨rfl, b3⟩
        have HO4 := Lib.hid (HO.out.on b3)
        have HB4 := Lib.hid (next HB.out b3)
        clear C b3
        go_wp2_with fail
        go_ret2
        rw [HF.out]
        exact ⟨A1, c1, by rw [hml]; rfl, by rw [hml]; exact HO4.out, HB4.out⟩
      · rw [hk] at C
        replace C := Lib.hid C
        have HF : Hid (ofL nmS l = ([], 50)) := Lib.hid (by unfold ofL; rw [if_pos HD.out, if_neg (by rw [hk]; decide)])
        clear ht hk hlt
        go_wp2_with fail
        with_reducible refine C.out.mono ?_
        rintro e v3 ⟨rfl, b3⟩
        have HB4 := Lib.hid (next HB.out b3)
        clear C b3
        go_wp2_with fail
        go_ret2
        exact OfRow.none HF.out HB4.out
end Go.Proofs.YtdmflofdchmfhaaGreatDoor
