/- slices.DeleteFunc at labels: those without a value go. -/
import Derived.Test.YtdmflofdchmfhaaGreatDoorLIdx
import Derived.Test.YtdmflofdchmfhaaGreatDoorLPut
namespace Go.Proofs.YtdmflofdchmfhaaGreatDoor
open Go.RowKit

theorem filter_yes {l : List Lb} {j : Nat} (h : j < l.length) (hv : hasV (l.getD j noL) = true) : (l.take (j + 1)).filter hasV = (l.take j).filter hasV ++ [l.getD j noL] := by
  rw [take_snocL h, List.filter_append, List.filter_cons, if_pos hv]; rfl
theorem filter_no {l : List Lb} {j : Nat} (h : j < l.length) (hv : hasV (l.getD j noL) = false) : (l.take (j + 1)).filter hasV = (l.take j).filter hasV := by
  rw [take_snocL h, List.filter_append, List.filter_cons, hv]; simp
theorem below_sets {B g : Nat} (hg : B ≤ g) : ∀ (vs : List Value) (o : Nat) (w : World), Below B w (w.setCells g o vs)
  | [], _, w => Below.refl B w
  | v :: r, o, w => ((Below.refl B w).setCell (p := ⟨g, o, none⟩) hg v).trans (below_sets hg r (o + 1) _)
set_option maxRecDepth 100000 in
set_option maxHeartbeats 8000000 in
theorem Delete_any (A : Option Addr) (n c base : Nat) (l : List Lb) (w : World) (hown : w.ownsRow base 29 2 (.slice A n c) n (cL l)) (hn : n ≤ 1000000) (hbw : base ≤ w.heap.size) :
    Calls Tryz.prog 29 #[.slice A n c, .func (.func 30) #[] #[]] w fun e w' =>
      ∃ m, (l.filter hasV).length = m ∧ e = .returned (.slice A m c) ∧ w'.ownsRow base 29 2 (.slice A m c) m (cL (l.filter hasV)) ∧ Below base w w' := by
  have HC := Lib.hid (Index_any A n c l w (RowL.own hown) (by omega))
  have hl : l.length = n := by have := hown.1; rw [cL_len] at this; omega
  have hcap := own_cap hown
  have HL := Lib.hid hl
  have HO := Lib.hid hown
  have HBs := Lib.hid hbw
  have hn1 : ((-1 : Int) == -1) = true := rfl
  clear hl hown hbw
  go_enter Tryz.func29, Tryz.ntmps29
  go_wp2_with fail
  with_reducible refine HC.out.mono ?_
  rintro e w1 ⟨⟨v, hv, rfl⟩, b1⟩
  have HO1 := Lib.hid (own_onL HO.out b1)
  have HB1 := Lib.hid (b1.mono HBs.out)
  clear HC b1
  rcases hv with ⟨rfl, hall⟩ | ⟨k, rfl, hk, hk1, hk2⟩
  · have HF : Hid (l.filter hasV = l) := Lib.hid (List.filter_eq_self.2 hall)
    clear hall
    go_wp2_with fail
    go_ret
    rw [HF.out]
    exact ⟨n, HL.out, rfl, HO1.out, HB1.out⟩
  · have hk0 : ((k : Int) == -1) = false := by rw [beq_eq_false_iff_ne]; omega
    obtain ⟨g, cap, hv, hgB, hgl⟩ := HO1.out.form (by have := HL.out; omega)
    have hA : A = some ⟨g, 0, none⟩ := by injection hv
    subst hA
    have HT0 : Hid ((l.take k).filter hasV = l.take k) := Lib.hid (List.filter_eq_self.2 hk1)
    have HKn : Hid (k < n) := Lib.hid (by have := HL.out; omega)
    have HK2 := Lib.hid hk2
    have HgB := Lib.hid hgB
    have g0 : IntKind.i64.wrap ((k : Int) + 1) = (k : Int) + 1 := by rw [IntKind.wrap_i64]; have := HKn.out; omega
    clear hv hk hk1 hk2 hgB hgl
    go_wp2_with fail
    go_loopw [5, 6] (fun i j wr => ∃ (I J : Nat) (G : List Lb), i = .int .i64 (I : Int) ∧ j = .int .i64 (J : Int) ∧ J ≤ n ∧ I < J ∧ Hid (((l.take J).filter hasV).length = I ∧ I + G.length = J) ∧ Hid (wr.ownsRow base 29 2 (.slice (some ⟨g, 0, none⟩) n c) n (cL ((l.take J).filter hasV ++ G ++ l.drop J))) ∧ Hid (Below base w wr)) (fun _ j _ => n - (intOf j).toNat)
    case atStart =>
      have h := HL.out
      have hk := HKn.out
      refine ⟨k, k + 1, [l.getD k noL], rfl, rfl, hk, by omega, Lib.hid ?_, Lib.hid ?_, HB1⟩
      · rw [filter_no (by omega) HK2.out, HT0.out, List.length_take]
        exact ⟨Nat.min_eq_left (by omega), by simp⟩
      · rw [filter_no (by omega) HK2.out, HT0.out, ← take_snocL (by omega), List.take_append_drop]
        exact HO1.out
    case round =>
      obtain ⟨I, J, G, rfl, rfl, hJ, hIJ, HI, HR, HB⟩ := hrel
      by_cases hlt : J < n
      · have hL := HL.out
        obtain ⟨y, hy⟩ : ∃ y, l.getD J noL = y := ⟨_, rfl⟩
        have HY := Lib.hid hy
        have hd : l.drop J = y :: l.drop (J + 1) := drop_consL (by omega) hy
        have hX : ((l.take J).filter hasV ++ G).length = J := by rw [List.length_append, HI.out.1]; exact HI.out.2
        obtain ⟨y1, y2⟩ := y
        have hlen : ((l.take J).filter hasV ++ G ++ l.drop J).length = n := by have h := HR.out.1; rw [cL_len] at h; omega
        have hg := cL_get ((l.take J).filter hasV ++ G ++ l.drop J) J (by omega)
        have hgm : ((l.take J).filter hasV ++ G ++ l.drop J).getD J noL = (y1, y2) := by rw [hd]; exact getD_mid hX
        rw [hgm] at hg
        have c1 := (HR.out.cellAt (J * 2) (by omega)).trans hg.1
        have c2 := (HR.out.cellAt (J * 2 + 1) (by omega)).trans hg.2
        dsimp only at c1 c2
        have HD := Lib.hid hd
        have HX := Lib.hid hX
        have HJ : Hid (J < n) := Lib.hid hlt
        have g1 : (0 : Int) ≤ (J : Int) := by omega
        have g2 : (J : Int) < (n : Int) := by omega
        have f1 : decide ((J : Int) < (n : Int)) = true := decide_eq_true g2
        have HCn := Lib.hid (fun w' => noV_any y1 y2 w')
        clear hd hX hlen hg hgm hL hy
        go_wp2_with fail
        with_reducible refine (HCn.out _).mono ?_
        rintro e w3 ⟨rfl, b3⟩
        have HR3 := Lib.hid (own_onL (HR.out.alloc _) b3)
        have HBa := HB.out.alloc (Nat.le_trans HBs.out HB.out.size) (.cells #[.string y1, .string y2] 29)
        have HB3 := Lib.hid (HBa.trans (b3.mono (Nat.le_trans HBs.out HBa.size)))
        have k1 : w3.cell? ⟨wr.heap.size, 0, none⟩ = some (.string y1) := (b3.cell (p := ⟨wr.heap.size, 0, none⟩) (by rw [World.size_alloc]; exact Nat.lt_succ_self _)).trans (by rw [World.cell?_alloc_at _ _ _ _ (by simp)]; rfl)
        have k2 : w3.cell? ⟨wr.heap.size, 1, none⟩ = some (.string y2) := (b3.cell (p := ⟨wr.heap.size, 1, none⟩) (by rw [World.size_alloc]; exact Nat.lt_succ_self _)).trans (by rw [World.cell?_alloc_at _ _ _ _ (by simp)]; rfl)
        clear HBa b3 c1 c2
        have hw : IntKind.i64.wrap ((J : Int) + 1) = (J : Int) + 1 := by rw [IntKind.wrap_i64]; omega
        rcases hq : hasV (y1, y2) with _ | _
        · have HI2 : Hid (((l.take (J + 1)).filter hasV).length = I ∧ I + (G ++ [(y1, y2)]).length = J + 1) := Lib.hid (by
            rw [filter_no (by rw [HL.out]; omega) (by rw [HY.out]; exact hq), List.length_append, List.length_singleton]
            have := HI.out; omega)
          have HR2 : Hid (w3.ownsRow base 29 2 (.slice (some ⟨g, 0, none⟩) n c) n (cL ((l.take (J + 1)).filter hasV ++ (G ++ [(y1, y2)]) ++ l.drop (J + 1)))) := Lib.hid (by
            have h := HR3.out
            rw [HD.out] at h
            rw [filter_no (by rw [HL.out]; omega) (by rw [HY.out]; exact hq)]
            simpa using h)
          clear hq
          go_wp2_with fail
          exact ⟨⟨I, J + 1, G ++ [(y1, y2)], rfl, by go_num, HJ.out, by omega, HI2, HR2, HB3⟩, by have := HJ.out; simp [intOf]; omega⟩
        · obtain ⟨g0, T, rfl⟩ : ∃ g0 T, G = g0 :: T := by
            rcases G with _ | ⟨g0, T⟩
            · have := HI.out.2; simp at this; omega
            · exact ⟨g0, T, rfl⟩
          obtain ⟨p1, p2⟩ := g0
          have HI2 : Hid (((l.take (J + 1)).filter hasV).length = I + 1 ∧ I + 1 + (T ++ [(y1, y2)]).length = J + 1) := Lib.hid (by
            rw [filter_yes (by rw [HL.out]; omega) (by rw [HY.out]; exact hq), List.length_append, List.length_append, List.length_singleton]
            have := HI.out; simp at this; simp; omega)
          have hlen := HR3.out.1
          rw [cL_len] at hlen
          have hg := cL_get ((l.take J).filter hasV ++ (p1, p2) :: T ++ l.drop J) I (by omega)
          have hgm : ((l.take J).filter hasV ++ (p1, p2) :: T ++ l.drop J).getD I noL = (p1, p2) := by rw [List.append_assoc]; exact getD_mid HI.out.1
          rw [hgm] at hg
          have s1 := (HR3.out.cellAt (I * 2) (by omega)).trans hg.1
          have s2 := (HR3.out.cellAt (I * 2 + 1) (by omega)).trans hg.2
          have s3 := HR3.out.frozenAt (I * 2)
          have s4 := HR3.out.frozenAt (I * 2 + 1)
          dsimp only at s1 s2
          have HR2 : Hid (((w3.setCell ⟨g, I * 2, none⟩ (.string y1)).setCell ⟨g, I * 2 + 1, none⟩ (.string y2)).ownsRow base 29 2 (.slice (some ⟨g, 0, none⟩) n c) n (cL ((l.take (J + 1)).filter hasV ++ (T ++ [(y1, y2)]) ++ l.drop (J + 1)))) := Lib.hid (by
            have h := ((HR3.out.stored (I * 2) (.string y1)).1.stored (I * 2 + 1) (.string y2)).1
            rw [List.append_assoc, List.cons_append, cL_set2 _ _ _ _ _ _ HI.out.1, HD.out] at h
            rw [filter_yes (by rw [HL.out]; omega) (by rw [HY.out]; exact hq), HY.out]
            simpa using h)
          have HB2 : Hid (Below base w ((w3.setCell ⟨g, I * 2, none⟩ (.string y1)).setCell ⟨g, I * 2 + 1, none⟩ (.string y2))) := Lib.hid ((HB3.out.setCell HgB.out _).setCell HgB.out _)
          have hw2 : IntKind.i64.wrap ((I : Int) + 1) = (I : Int) + 1 := by rw [IntKind.wrap_i64]; omega
          have g3 : (0 : Int) ≤ (I : Int) := by omega
          have g4 : (I : Int) < (n : Int) := by omega
          clear hq hlen hg hgm
          go_wp2_with fail
          exact ⟨⟨I + 1, J + 1, T ++ [(y1, y2)], by go_num, by go_num, HJ.out, by omega, HI2, HR2, HB2⟩, by have := HJ.out; simp [intOf]; omega⟩
      · obtain rfl : J = n := by omega
        have hL := HL.out
        have htk : l.take J = l := List.take_of_length_le (by omega)
        have hdr : l.drop J = [] := List.drop_of_length_le (by omega)
        have hR := HR.out
        rw [htk, hdr, List.append_nil] at hR
        have hI := HI.out
        rw [htk] at hI
        have f1 : decide ((J : Int) < (J : Int)) = false := decide_eq_false (by omega)
        have hlen := hR.1
        obtain ⟨vs, hcl⟩ := run_clear_two (P := Tryz.prog) wr 22 29 0 rfl zeroL g (I * 2) (J - I) (c - I) (by omega)
          (fun q hq => by
            have := hR.cellAt (I * 2 + q) (by rw [Nat.mul_sub_right_distrib] at hq; omega)
            rw [this, Option.isSome_iff_exists]
            exact ⟨_, List.getElem?_eq_getElem (by rw [hlen]; rw [Nat.mul_sub_right_distrib] at hq; omega)⟩)
          (fun q hq => hR.frozenAt (I * 2 + q))
        obtain ⟨xs', h1, h2, h3⟩ := own_sets vs (I * 2) wr _ hR
        have h4 := own_cut h1 I (by omega)
        rw [h2, cL_app, List.take_left' (by rw [cL_len, hI.1])] at h4
        have HR4 := Lib.hid h4
        have HB4 := Lib.hid (below_sets HgB.out vs (I * 2) wr)
        have HI1 := Lib.hid hI.1
        have g3 : (0 : Int) ≤ (I : Int) := by omega
        have g4 : (I : Int) ≤ (J : Int) := by omega
        clear hL htk hdr hR hI hlen h1 h2 h3 h4
        go_wp2_with fail
        go_ret
        have htk : l.take J = l := List.take_of_length_le (by have := HL.out; omega)
        exact ⟨I, HI1.out, rfl, HR4.out, HB.out.trans HB4.out⟩
end Go.Proofs.YtdmflofdchmfhaaGreatDoor
