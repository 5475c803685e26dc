/- Of, whole. -/
import Derived.Test.YtdmflofdchmfhaaGreatDoorLSort
import Derived.Test.YtdmflofdchmfhaaGreatDoorLGet
import Derived.Shelf.SlSortCmp.NoneTotal
namespace Go.Proofs.YtdmflofdchmfhaaGreatDoor
open Go.RowKit Go.Shelf

theorem sortN_any (A : Option Addr) (m c base : Nat) (l : List Lb) (W : World) (hown : W.ownsRow base 29 2 (.slice A m c) m (cL l)) (hm : m ≤ 100000000) :
    Calls Tryz.prog 26 #[.slice A m c, .func (.func 27) #[] #[]] W fun e w' =>
      e = .returned (.tuple #[]) ∧ ∃ l' : List Lb, l'.Perm l ∧ l'.length = m ∧ (l'.Pairwise fun x y => ¬ lt y.1 x.1) ∧ w'.ownsRow base 29 2 (.slice A m c) m (cL l') ∧ Go.RowKit.Below base W w' := by
  rcases Nat.eq_zero_or_pos m with h0 | h0
  · subst h0
    have hl : l = [] := List.eq_nil_of_length_eq_zero (by have := hown.1; rw [cL_len] at this; omega)
    subst hl
    have hcon := AnyF.slices_SortFunc_none { Tryz.sortRg with } A c (.func (.func 27) #[] #[]) W
    change Calls Tryz.prog 26 _ _ _ at hcon
    refine hcon.mono ?_
    rintro e w' ⟨rfl, rfl⟩
    exact ⟨rfl, [], List.Perm.refl _, rfl, List.Pairwise.nil, hown, Go.RowKit.Below.refl _ _⟩
  · obtain ⟨g, cap, hv, _, _⟩ := hown.form h0
    injection hv with hA
    subst hA
    exact sort_some g m c base l W hown hm h0
/-- An answer of labels and an error. -/
def OfOut (w : World) (r : List Lb × Int) (e : Ending) (w' : World) : Prop :=
  ∃ A c, e = .returned (.tuple #[.slice A r.1.length c, .int .i64 r.2]) ∧ w'.ownsRow w.heap.size 29 2 (.slice A r.1.length c) r.1.length (cL r.1) ∧ Below w.heap.size w w'
theorem OfOut.none {w w' : World} {r : List Lb × Int} (h : r = ([], 50)) (hb : Below w.heap.size w w') : OfOut w r (.returned (.tuple #[.slice none 0 0, .int .i64 50])) w' := by
  subst h
  exact ⟨_, _, rfl, World.ownsRow_nil _ _ _ _, hb⟩
theorem del_sort {l P : List Lb} (hp : P.Perm l) (hs : P.Pairwise fun x y => ¬ lt y.1 x.1) (hd : noDup P) : P.filter hasV = sortL l := by
  refine sortL_one ((noDup_perm hp).1 hd) ((rise_of hs hd).sublist List.filter_sublist) fun x => ?_
  rw [List.mem_filter, hp.mem_iff]
  simp [hasV]
set_option maxRecDepth 100000 in
set_option maxHeartbeats 4000000 in
theorem Of_any (A : Option Addr) (n c : Nat) (l : List Lb) (w : World) (hr : RowL w w.heap.size A n l) (hn : n ≤ 1000000) :
    Calls Tryz.prog 5 #[.slice A n c] w (OfOut w (ofL nmS l)) := by
  have HC := Lib.hid (Clone_any A n c l w hr (by omega))
  have HL := Lib.hid hr.1
  clear hr
  go_enter Tryz.func5, Tryz.ntmps5
  go_wp2_with fail
  with_reducible refine HC.out.mono ?_
  rintro e w1 ⟨A1, c1, rfl, o1, b1⟩
  have hL := HL.out
  rw [hL] at o1 ⊢
  have HS := Lib.hid (sortN_any A1 n c1 w.heap.size l w1 o1 (by omega))
  have HB1 := Lib.hid b1
  clear HC hL o1 b1
  go_wp2_with fail
  with_reducible refine HS.out.mono ?_
  rintro e w2 ⟨rfl, P, hp, hPn, hpw, o2, b2⟩
  have HB2 := Lib.hid (HB1.out.trans b2)
  have HP := Lib.hid hp
  have HPn := Lib.hid hPn
  have HPw := Lib.hid hpw
  have HO2 := Lib.hid o2
  have HR2 := Lib.hid (RowL.own o2)
  clear HS HB1 hp hPn hpw o2 b2
  go_wp2_with fail
  go_loopw [13] (fun p wr => ∃ i : Nat, i ≤ n ∧ p = .int .i64 (i : Int) ∧ Hid (∀ j, j + 1 < i → (P.getD (j + 1) noL).1 ≠ (P.getD j noL).1) ∧ Below w2.heap.size w2 wr) (fun p _ => n - (intOf p).toNat)
  case atStart => exact ⟨0, by omega, rfl, Lib.hid (fun j h => by omega), Below.refl _ _⟩
  case round =>
    obtain ⟨i, hi, rfl, HN, hb⟩ := hrel
    by_cases hlt : i < n
    · obtain ⟨b, off, hA, hbB, hc⟩ := HR2.out.2 (by omega)
      subst hA
      have c1 := (hb.cell (p := ⟨b, off + i * 2, none⟩) hbB).trans (hc i hlt).1
      obtain ⟨x, hx⟩ : ∃ x, P.getD i noL = x := ⟨_, rfl⟩
      rw [hx] at c1
      have HX := Lib.hid hx
      obtain ⟨x1, x2⟩ := x
      dsimp only at c1
      have g0 : (0 : Int) ≤ (i : Int) := by omega
      have g1 : (i : Int) < (n : Int) := by omega
      have f1 : decide ((i : Int) < (n : Int)) = true := decide_eq_true g1
      have HI := Lib.hid hlt
      clear hx hlt
      rcases Nat.eq_zero_or_pos i with h0 | h0
      · have HN2 : Hid (∀ j, j + 1 < i + 1 → (P.getD (j + 1) noL).1 ≠ (P.getD j noL).1) := Lib.hid (fun j h => by omega)
        have f2 : decide ((0 : Int) < (i : Int)) = false := decide_eq_false (by omega)
        have f5 : decide (0 < i) = false := decide_eq_false (by omega)
        have f3 : ¬ (0 : Int) < (i : Int) := by omega
        have f4 : ¬ 0 < i := by omega
        have HBr := Lib.hid hb
        clear hc hb h0
        go_wp2_with fail
        go_quiet (fail)
        go_wp2_with fail
        exact ⟨⟨i + 1, HI.out, by go_num, HN2, Below.dn HBr.out _⟩, by have := HI.out; simp [intOf]; omega⟩
      · obtain ⟨q, hq⟩ : ∃ q, q + 1 = i := ⟨i - 1, by omega⟩
        have hqn : q < n := by have := HI.out; omega
        have p1 := (hb.cell (p := ⟨b, off + q * 2, none⟩) hbB).trans (hc q hqn).1
        obtain ⟨y, hy⟩ : ∃ y, P.getD q noL = y := ⟨_, rfl⟩
        rw [hy] at p1
        have HY := Lib.hid hy
        obtain ⟨y1, y2⟩ := y
        dsimp only at p1
        have g2 : (0 : Int) < (i : Int) := by omega
        have f2 : decide ((0 : Int) < (i : Int)) = true := decide_eq_true g2
        have f3 : decide (0 < i) = true := decide_eq_true h0
        have g3 : (0 : Int) ≤ (q : Int) := by omega
        have g4 : (q : Int) < (n : Int) := by omega
        have wq : IntKind.i64.wrap ((i : Int) - 1) = (q : Int) := by rw [IntKind.wrap_i64]; omega
        have HQ := Lib.hid hq
        have HBr := Lib.hid hb
        clear hy hq h0 hc hb hqn
        by_cases hxy : x1 = y1
        · have e2 : (x1.toList == y1.toList) = true := by rw [eq_eq]; exact decide_eq_true hxy
          have HF : Hid (ofL nmS l = ([], 50)) := Lib.hid (by
            have hd : ¬ noDup l := fun hd => by
              have h := (dup_side HPw.out).1 ((noDup_perm HP.out).2 hd) q (by rw [HPn.out, HQ.out]; exact HI.out)
              rw [HQ.out] at h
              exact h (by have h1 := HX.out; have h2 := HY.out; unfold noL at h1 h2; rw [h1, h2]; exact hxy)
            unfold ofL
            rw [if_neg hd])
          clear hxy
          go_wp2_with fail
          go_quiet (fail)
          go_wp2_with fail
          go_ret2
          exact OfOut.none HF.out (HB2.out.trans ((Below.dn HBr.out _).mono HB2.out.size))
        · have e2 : (x1.toList == y1.toList) = false := by rw [eq_eq]; exact decide_eq_false hxy
          have HN2 : Hid (∀ j, j + 1 < i + 1 → (P.getD (j + 1) noL).1 ≠ (P.getD j noL).1) := Lib.hid (fun j h => by
            rcases Nat.lt_or_ge (j + 1) i with k | k
            · exact HN.out j k
            · have hj : j = q := by have := HQ.out; omega
              subst hj
              rw [HQ.out, HX.out, HY.out]
              exact hxy)
          clear hxy
          go_wp2_with fail
          go_quiet (fail)
          go_wp2_with fail
          exact ⟨⟨i + 1, HI.out, by go_num, HN2, Below.dn HBr.out _⟩, by have := HI.out; simp [intOf]; omega⟩
    · obtain rfl : i = n := by omega
      have f1 : decide ((i : Int) < (i : Int)) = false := decide_eq_false (by omega)
      have hd : noDup P := (dup_side HPw.out).2 (fun j hj => HN.out j (by rw [HPn.out] at hj; exact hj))
      have HF : Hid (P.filter hasV = sortL l) := Lib.hid (del_sort HP.out HPw.out hd)
      have HD : Hid (noDup l) := Lib.hid ((noDup_perm HP.out).1 hd)
      have HBr := Lib.hid (HB2.out.trans (hb.mono HB2.out.size))
      have HDel := Lib.hid (Delete_any A1 i c1 w.heap.size P wr (own_onL HO2.out hb) hn HBr.out.size)
      clear hd hb HN HO2 HR2
      go_wp2_with fail
      with_reducible refine HDel.out.mono ?_
      rintro e w4 ⟨m, hm, rfl, o4, b4⟩
      rw [HF.out] at hm o4
      have HM := Lib.hid hm
      have HB4 := Lib.hid (HBr.out.trans b4)
      have hmn : m ≤ i := by rw [← hm, ← HF.out]; exact Nat.le_trans (List.length_filter_le _ _) (Nat.le_of_eq HPn.out)
      have HCk := Lib.hid (Check_any A1 m c1 (sortL l) w4 (RowL.own o4) (by omega))
      have HO4 := Lib.hid o4
      clear HDel HBr hm o4 b4 hmn
      go_wp2_with fail
      with_reducible refine HCk.out.mono ?_
      rintro e w5 ⟨rfl, b5⟩
      have HB5 := Lib.hid (HB4.out.trans (b5.mono HB4.out.size))
      have HO5 := Lib.hid (own_onL HO4.out b5)
      clear HCk b5 HO4 HB4
      rcases chkL_or nmS (sortL l) with hk | hk
      · have HF2 : Hid (ofL nmS l = (sortL l, 0)) := Lib.hid (by unfold ofL; rw [if_pos HD.out, if_pos hk])
        rw [hk]
        clear hk
        go_wp2_with fail
        go_ret2
        refine ⟨A1, c1, ?_, ?_, HB5.out⟩
        · rw [HF2.out, HM.out]; rfl
        · rw [HF2.out, HM.out]; exact HO5.out
      · have HF2 : Hid (ofL nmS l = ([], 50)) := Lib.hid (by unfold ofL; rw [if_pos HD.out, hk, if_neg (by omega)])
        rw [hk]
        clear hk
        go_wp2_with fail
        go_ret2
        exact OfOut.none HF2.out HB5.out
end Go.Proofs.YtdmflofdchmfhaaGreatDoor
