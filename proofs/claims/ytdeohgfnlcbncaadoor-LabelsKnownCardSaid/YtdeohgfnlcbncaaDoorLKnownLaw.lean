/- LabelsKnown, walked. -/
import Derived.Test.YtdeohgfnlcbncaaDoorLCleanLaw
import Derived.Test.YtdeohgfnlcbncaaDoorLKnownM
import Derived.Test.YtdeohgfnlcbncaaDoorLStore
import Derived.Test.YtdeohgfnlcbncaaDoorLCmp2
import Derived.Test.YtdeohgfnlcbncaaDoorLNear
namespace Go.Proofs.YtdeohgfnlcbncaaDoor
open Go.RowKit Go.Shelf Go.Lib

/-- The full set, of some length. -/
theorem conv_one (i : Nat) (hi : i < 17) (W : World) : (convert 44 9 (.slice (some ⟨W.heap.size, 0, none⟩) 1 1)).run Tryd.prog (W.alloc (.cells #[.int .u8 (97 + (i : Int))] 5)) = .ok (.string (nmI i)) (W.alloc (.cells #[.int .u8 (97 + (i : Int))] 5)) :=
  conv_row (P := Tryd.prog) (W.alloc (.cells #[.int .u8 (97 + (i : Int))] 5)) 44 9 5 W.heap.size 1 [97 + i] Tryd.underlying44 Tryd.underlying5 Tryd.underlying9 (Byt.cons (by omega) Byt.nil) (fun j hj => by
    have hj0 : j = 0 := by simpa using hj
    subst hj0
    rw [World.cell?_alloc_at _ _ _ _ (by simp)]; simp)
theorem conv_at (i : Nat) (hi : i < 17) (W : World) (g : Nat) (hc : W.cell? ⟨g, 0, none⟩ = some (.int .u8 (97 + (i : Int)))) : (convert 44 9 (.slice (some ⟨g, 0, none⟩) 1 1)).run Tryd.prog W = .ok (.string (nmI i)) W :=
  conv_row (P := Tryd.prog) W 44 9 5 g 1 [97 + i] Tryd.underlying44 Tryd.underlying5 Tryd.underlying9 (Byt.cons (by omega) Byt.nil) (fun j hj => by
    have hj0 : j = 0 := by simpa using hj
    subst hj0
    rw [hc]; simp)
set_option maxRecDepth 100000 in
set_option maxHeartbeats 32000000 in
theorem LabelsKnown_walk (w : World) (_hT : Tab w) : Calls Tryd.prog 8 #[] w fun e w' => e = .returned (.bool true) ∧ Below w.heap.size w w' := by
  obtain ⟨i0, hi0, hz0, hz1, hz2⟩ := info_partsL lb_info
  have HB := Lib.hid (Below.refl w.heap.size w)
  obtain ⟨LG, hLG⟩ : ∃ x, repB 110 64 = x := ⟨_, rfl⟩
  obtain ⟨LH, hLH⟩ : ∃ x, repB 110 65 = x := ⟨_, rfl⟩
  have HL1 : Hid (nmS LG = true) := Lib.hid (by rw [← hLG]; exact n64)
  have HL2 : Hid (nmS LH = false) := Lib.hid (by rw [← hLH]; exact n65)
  have hadd := add_runL LG ⟨#[110]⟩ LH (by rw [← hLG, ← hLH]; exact add65) (by rw [← hLG, repB_size]; decide)
  have HLG := Lib.hid hLG
  have e50 : ((50 : Int) == 50) = true := rfl
  have e00 : ((0 : Int) == 0) = true := rfl
  clear hLG hLH
  go_enter Tryd.func8, Tryd.ntmps8
  have C := repeat_any 110 64 64 rfl (by omega) w
  rw [HLG.out] at C
  replace C := Lib.hid C
  go_wp2_with fail
  with_reducible refine C.out.mono ?_
  rintro e v1 ⟨rfl, b⟩
  clear C
  replace HB := Lib.hid (next HB.out b)
  clear b
  have C := isn LG true HL1.out v1
  replace C := Lib.hid C
  go_wp2_with fail
  with_reducible refine C.out.mono ?_
  rintro e v2 ⟨rfl, b⟩
  clear C
  replace HB := Lib.hid (next HB.out b)
  clear b
  have C := isn LH false HL2.out v2
  replace C := Lib.hid C
  go_wp2_with fail
  with_reducible refine C.out.mono ?_
  rintro e v3 ⟨rfl, b⟩
  clear C
  replace HB := Lib.hid (next HB.out b)
  clear b
  have C := isn ⟨#[95, 57, 90]⟩ true n9Z v3
  replace C := Lib.hid C
  go_wp2_with fail
  with_reducible refine C.out.mono ?_
  rintro e v4 ⟨rfl, b⟩
  clear C
  replace HB := Lib.hid (next HB.out b)
  clear b
  have C := isn ⟨#[57]⟩ false n9 v4
  replace C := Lib.hid C
  go_wp2_with fail
  with_reducible refine C.out.mono ?_
  rintro e v5 ⟨rfl, b⟩
  clear C
  replace HB := Lib.hid (next HB.out b)
  clear b
  have C := isn ⟨#[]⟩ false n0 v5
  replace C := Lib.hid C
  go_wp2_with fail
  with_reducible refine C.out.mono ?_
  rintro e v6 ⟨rfl, b⟩
  clear C
  replace HB := Lib.hid (next HB.out b)
  clear b
  have C := isn ⟨#[97, 45, 98]⟩ false nab v6
  replace C := Lib.hid C
  go_wp2_with fail
  with_reducible refine C.out.mono ?_
  rintro e v7 ⟨rfl, b⟩
  clear C
  replace HB := Lib.hid (next HB.out b)
  clear b
  have C := isn ⟨#[195, 169]⟩ false ne9 v7
  replace C := Lib.hid C
  go_wp2_with fail
  with_reducible refine C.out.mono ?_
  rintro e v8 ⟨rfl, b⟩
  clear C
  replace HB := Lib.hid (next HB.out b)
  clear b
  have C := isn ⟨#[97, 46, 98]⟩ false nadb v8
  replace C := Lib.hid C
  go_wp2_with fail
  with_reducible refine C.out.mono ?_
  rintro e v9 ⟨rfl, b⟩
  clear C
  replace HB := Lib.hid (next HB.out b)
  clear b
  go_wp2_with fail
  go_loopw [3, 4] (fun o p wr => ∃ (i : Nat) (A : Option Addr) (c : Nat), i ≤ 17 ∧ o = .slice A i c ∧ p = .int .i64 (i : Int) ∧ Hid (wr.ownsRow w.heap.size 25 2 (.slice A i c) i (cL (fullTo i))) ∧ Hid (Below w.heap.size w wr)) (fun _ p _ => 17 - (intOf p).toNat)
  case atStart => exact ⟨0, none, 0, by omega, rfl, rfl, Lib.hid (World.ownsRow_nil _ _ _ _), HB⟩
  case round =>
    clear HB
    obtain ⟨i, A1, c1, hi, rfl, rfl, HO, HB⟩ := hrel
    by_cases hlt : i < 17
    · have f1 : decide ((i : Int) < 17) = true := decide_eq_true (by omega)
      have wa : IntKind.i64.wrap (97 + (i : Int)) = 97 + (i : Int) := by rw [IntKind.wrap_i64]; omega
      have wb : IntKind.u8.wrap (97 + (i : Int)) = 97 + (i : Int) := by rw [IntKind.wrap_u8]; omega
      have hcv1 := conv_at i hlt (wr.alloc (.cells #[.int .u8 (97 + (i : Int))] 5)).drew wr.heap.size (by show (wr.alloc _).cell? _ = _; rw [World.cell?_alloc_at _ _ _ _ (by simp)]; rfl)
      have hcv3 := conv_at i hlt (wr.drew.alloc (.cells #[.int .u8 (97 + (i : Int))] 5)) wr.heap.size (by rw [World.cell?_alloc_at _ _ _ _ (by simp)]; rfl)
      have HSM := Lib.hid (fun v (hb : Below (wr.drew.alloc (.cells #[.int .u8 (97 + (i : Int))] 5)).heap.size (wr.drew.alloc (.cells #[.int .u8 (97 + (i : Int))] 5)) v) => conv_at i hlt v wr.heap.size ((hb.cell (p := ⟨wr.heap.size, 0, none⟩) (by rw [World.size_alloc]; exact Nat.lt_succ_self _)).trans (by rw [World.cell?_alloc_at _ _ _ _ (by simp)]; rfl)))
      have HSN := Lib.hid (fun v : World => conv_one i hlt v)
      have HRp := Lib.hid (fun v : World => (show Calls Tryd.prog 29 #[.string ⟨#[120]⟩, .int .i64 256] v fun e w' => e = .returned (.string XV) ∧ Below v.heap.size v w' from repeat_any 120 256 256 rfl (by omega) v))
      have HA1 : Hid (i + 1 ≤ 1000000000) := Lib.hid (by omega)
      have HKi := Lib.hid hlt
      obtain ⟨xv, hxv⟩ : ∃ x, XV = x := ⟨_, rfl⟩
      have HN : Hid (fullTo (i + 1) = fullTo i ++ [(nmI i, xv)]) := Lib.hid (by rw [← hxv]; exact full_snoc i)
      rw [hxv] at HRp
      have HBs := Lib.hid HB.out.size
      clear hxv
      go_wp2_with fail
      go_region_law ((first
        | (refine step_appL _ (by rfl) (.tmp 57) (.tmp 65) 22 (by rfl) w.heap.size 25 i0 Tryd.underlying22 hi0 hz0 hz1 hz2 (.slice A1 i c1) i (cL (fullTo i)) (by rfl) (by first | exact HOa.out _ | exact HOb.out _ _) _ _ 1 1 [(nmI i, xv)] (by rfl) (by first | exact RowL.one' _ _ _ _ | exact RowL.two' _ _ _ _ _) HA1.out (by first | exact HBa.out _ | exact HBb.out _ _) (i + 1) rfl ?_
           intro A2 c2 w3 o3 gr3 b3)
        | (go_simp
           go_at_call 29
           with_reducible refine (HRp.out _).mono ?_
           rintro e v ⟨rfl, bR⟩
           have hbv : Below wr.heap.size wr v := by
             first
               | exact (Below.refl _ wr).drew.trans bR
               | exact (((Below.refl _ wr).alloc (Nat.le_refl _) _).drew).trans (bR.mono (by show wr.heap.size ≤ (wr.alloc _).heap.size; rw [World.size_alloc]; exact Nat.le_succ _))
           have HBV := Lib.hid hbv
           clear hbv
           have HOa : Hid (∀ u, (v.alloc u).ownsRow w.heap.size 25 2 (.slice A1 i c1) i (cL (fullTo i))) := Lib.hid (fun u => (own_onL HO.out HBV.out).alloc u)
           have HOb : Hid (∀ u t, ((v.alloc u).alloc t).ownsRow w.heap.size 25 2 (.slice A1 i c1) i (cL (fullTo i))) := Lib.hid (fun u t => ((own_onL HO.out HBV.out).alloc u).alloc t)
           have HBa : Hid (∀ u, w.heap.size ≤ (v.alloc u).heap.size) := Lib.hid (fun u => by have := HBV.out.size; have := HBs.out; rw [World.size_alloc]; omega)
           have HBb : Hid (∀ u t, w.heap.size ≤ ((v.alloc u).alloc t).heap.size) := Lib.hid (fun u t => by have := HBV.out.size; have := HBs.out; rw [World.size_alloc, World.size_alloc]; omega)
           have HBX := Lib.hid (next HB.out HBV.out)
           have HFa : Hid (∀ u y, Below w.heap.size (v.alloc u) y → Below w.heap.size w y) := Lib.hid (fun u y h => (HBX.out.alloc HBX.out.size u).trans h)
           have HFb : Hid (∀ u t y, Below w.heap.size ((v.alloc u).alloc t) y → Below w.heap.size w y) := Lib.hid (fun u t y h => ((HBX.out.alloc HBX.out.size u).alloc (HBX.out.alloc HBX.out.size u).size t).trans h)
           first
             | (have hcv2 := HSM.out v ⟨bR.os, bR.tape, bR.output, bR.size, bR.block⟩)
             | (have hcv2 := HSN.out v))))
      all_goals
        have hF : Below w.heap.size w w3 := by
          first
            | exact HFa.out _ _ b3
            | exact HFb.out _ _ _ b3
        have HO3 : Hid (w3.ownsRow w.heap.size 25 2 (.slice A2 (i + 1) c2) (i + 1) (cL (fullTo (i + 1)))) := Lib.hid (by rw [HN.out, cL_app]; exact o3)
        have HF3 := Lib.hid hF
        clear hF o3 gr3 b3
        go_wp2_with fail
        exact ⟨⟨i + 1, A2, c2, HKi.out, rfl, by go_num, HO3, HF3⟩, by have := HKi.out; simp [intOf]; omega⟩
    · obtain rfl : i = 17 := by omega
      have hcap := own_cap HO.out
      have HRf := Lib.hid (RowL.own HO.out)
      have h17 : (17 : Int) ≤ (c1 : Int) := by omega
      clear HO hlt hi
      have C := set_rl ⟨#[98, 49, 97, 49]⟩ _ 2 kset1 rfl (by decide) wr
      replace C := Lib.hid C
      go_wp2_with fail
      with_reducible refine C.out.mono ?_
      rintro e v10 ⟨Ap, cp, rfl, r, hnp, hcp, b⟩
      clear C
      replace HRf := Lib.hid (HRf.out.on b)
      replace HB := Lib.hid (next HB.out b)
      have HRp := Lib.hid r
      clear r
      clear b
      have C := set_rl ⟨#[97, 49, 97, 49]⟩ _ 2 kset2 rfl (by decide) v10
      replace C := Lib.hid C
      go_wp2_with fail
      with_reducible refine C.out.mono ?_
      rintro e v11 ⟨Aq, cq, rfl, r, hnq, hcq, b⟩
      clear C
      replace HRf := Lib.hid (HRf.out.on b)
      replace HRp := Lib.hid (HRp.out.on b)
      replace HB := Lib.hid (next HB.out b)
      have HRq := Lib.hid r
      clear r
      clear b
      have C := set_rl ⟨#[97, 45]⟩ _ 1 kset3 rfl (by decide) v11
      replace C := Lib.hid C
      go_wp2_with fail
      with_reducible refine C.out.mono ?_
      rintro e v12 ⟨Ar, cr, rfl, r, hnr, hcr, b⟩
      clear C
      replace HRf := Lib.hid (HRf.out.on b)
      replace HRp := Lib.hid (HRp.out.on b)
      replace HRq := Lib.hid (HRq.out.on b)
      replace HB := Lib.hid (next HB.out b)
      have HRr := Lib.hid r
      clear r
      clear b
      have HRs := Lib.hid (RowL.one' v12 25 ⟨#[57]⟩ ⟨#[49]⟩)
      have hsz0 : v12.heap.size < (v12.alloc (.cells #[.string ⟨#[57]⟩, .string ⟨#[49]⟩] 25)).heap.size := by rw [World.size_alloc]; omega
      have b := (Below.refl v12.heap.size v12).alloc (Nat.le_refl _) (.cells #[.string ⟨#[57]⟩, .string ⟨#[49]⟩] 25)
      replace HRf := Lib.hid (HRf.out.on b)
      replace HRp := Lib.hid (HRp.out.on b)
      replace HRq := Lib.hid (HRq.out.on b)
      replace HRr := Lib.hid (HRr.out.on b)
      replace HB := Lib.hid (next HB.out b)
      clear b
      obtain ⟨xw, hxw⟩ : ∃ x, repB 120 257 = x := ⟨_, rfl⟩
      have HXW := Lib.hid hxw
      clear hxw
      have C := repeat_any 120 257 257 rfl (by omega) (v12.alloc (.cells #[.string ⟨#[57]⟩, .string ⟨#[49]⟩] 25))
      rw [HXW.out] at C
      replace C := Lib.hid C
      go_wp2_with fail
      with_reducible refine C.out.mono ?_
      rintro e v13 ⟨rfl, b⟩
      clear C
      replace HRf := Lib.hid (HRf.out.on b)
      replace HRp := Lib.hid (HRp.out.on b)
      replace HRq := Lib.hid (HRq.out.on b)
      replace HRr := Lib.hid (HRr.out.on b)
      replace HRs := Lib.hid (HRs.out.on b)
      replace HB := Lib.hid (next HB.out b)
      clear b
      have HRt := Lib.hid (RowL.one' v13 25 ⟨#[97]⟩ xw)
      have b := (Below.refl v13.heap.size v13).alloc (Nat.le_refl _) (.cells #[.string ⟨#[97]⟩, .string xw] 25)
      replace HRf := Lib.hid (HRf.out.on b)
      replace HRp := Lib.hid (HRp.out.on b)
      replace HRq := Lib.hid (HRq.out.on b)
      replace HRr := Lib.hid (HRr.out.on b)
      replace HRs := Lib.hid (HRs.out.on b)
      replace HB := Lib.hid (next HB.out b)
      clear b
      have hgo : (v13.alloc (.cells #[.string ⟨#[97]⟩, .string xw] 25)).heap.size = v13.heap.size + 1 := World.size_alloc _ _
      have ho : ∀ j, ((v13.alloc (.cells #[.string ⟨#[97]⟩, .string xw] 25)).alloc (.cells #[.slice A1 17 c1, .slice Ap 2 cp, .slice Aq 2 cq, .slice Ar 1 cr, .slice (some ⟨v12.heap.size, 0, none⟩) 1 1, .slice (some ⟨v13.heap.size, 0, none⟩) 1 1] 22)).cell? ⟨(v13.alloc (.cells #[.string ⟨#[97]⟩, .string xw] 25)).heap.size, j, none⟩ = #[Value.slice A1 17 c1, .slice Ap 2 cp, .slice Aq 2 cq, .slice Ar 1 cr, .slice (some ⟨v12.heap.size, 0, none⟩) 1 1, .slice (some ⟨v13.heap.size, 0, none⟩) 1 1][j]? := fun j => World.cell?_alloc_at _ _ _ _ (by simp)
      have hog : (v13.alloc (.cells #[.string ⟨#[97]⟩, .string xw] 25)).heap.size < ((v13.alloc (.cells #[.string ⟨#[97]⟩, .string xw] 25)).alloc (.cells #[.slice A1 17 c1, .slice Ap 2 cp, .slice Aq 2 cq, .slice Ar 1 cr, .slice (some ⟨v12.heap.size, 0, none⟩) 1 1, .slice (some ⟨v13.heap.size, 0, none⟩) 1 1] 22)).heap.size := Nat.lt_of_lt_of_eq (Nat.lt_succ_self _) (World.size_alloc _ _).symm
      rw [hgo] at ho hog
      have b := (Below.refl (v13.alloc (.cells #[.string ⟨#[97]⟩, .string xw] 25)).heap.size (v13.alloc (.cells #[.string ⟨#[97]⟩, .string xw] 25))).alloc (Nat.le_refl _) (.cells #[.slice A1 17 c1, .slice Ap 2 cp, .slice Aq 2 cq, .slice Ar 1 cr, .slice (some ⟨v12.heap.size, 0, none⟩) 1 1, .slice (some ⟨v13.heap.size, 0, none⟩) 1 1] 22)
      replace HRf := Lib.hid (HRf.out.on b)
      replace HRp := Lib.hid (HRp.out.on b)
      replace HRq := Lib.hid (HRq.out.on b)
      replace HRr := Lib.hid (HRr.out.on b)
      replace HRs := Lib.hid (HRs.out.on b)
      replace HRt := Lib.hid (HRt.out.on b)
      replace HB := Lib.hid (next HB.out b)
      clear b
      go_wp2_with fail
      obtain ⟨w14, hw14⟩ : ∃ x, ((v13.alloc (.cells #[.string ⟨#[97]⟩, .string xw] 25)).alloc (.cells #[.slice A1 17 c1, .slice Ap 2 cp, .slice Aq 2 cq, .slice Ar 1 cr, .slice (some ⟨v12.heap.size, 0, none⟩) 1 1, .slice (some ⟨v13.heap.size, 0, none⟩) 1 1] 22)) = x := ⟨_, rfl⟩
      rw [hw14] at ho hog HRf HRp HRq HRr HRs HRt HB ⊢
      clear hw14 hgo
      have HAll : Hid (∀ wr, Below w14.heap.size w14 wr → ∀ i : Nat, i < 6 → ∃ A n c l, wr.cell? ⟨v13.heap.size + 1, i, none⟩ = some (.slice A n c) ∧ RowL wr wr.heap.size A n l ∧ chkL nmS l = 50 ∧ n ≤ 17) := Lib.hid (fun wr hb i hi => by
        rcases (by omega : i = 0 ∨ i = 1 ∨ i = 2 ∨ i = 3 ∨ i = 4 ∨ i = 5) with rfl | rfl | rfl | rfl | rfl | rfl
        · exact ⟨A1, 17, c1, _, (hb.cell (p := ⟨v13.heap.size + 1, 0, none⟩) hog).trans (ho 0), HRf.out.on hb, chk17, by omega⟩
        · exact ⟨Ap, 2, cp, _, (hb.cell (p := ⟨v13.heap.size + 1, 1, none⟩) hog).trans (ho 1), HRp.out.on hb, kc1, by omega⟩
        · exact ⟨Aq, 2, cq, _, (hb.cell (p := ⟨v13.heap.size + 1, 2, none⟩) hog).trans (ho 2), HRq.out.on hb, kc2, by omega⟩
        · exact ⟨Ar, 1, cr, _, (hb.cell (p := ⟨v13.heap.size + 1, 3, none⟩) hog).trans (ho 3), HRr.out.on hb, kc3, by omega⟩
        · exact ⟨_, 1, 1, _, (hb.cell (p := ⟨v13.heap.size + 1, 4, none⟩) hog).trans (ho 4), HRs.out.on hb, kc4, by omega⟩
        · exact ⟨_, 1, 1, _, (hb.cell (p := ⟨v13.heap.size + 1, 5, none⟩) hog).trans (ho 5), HRt.out.on hb, by rw [← HXW.out]; exact kc5, by omega⟩)
      clear ho hog HRp HRq HRr HRs HRt hsz0
      go_loopw [6] (fun p wr => ∃ i : Nat, i ≤ 6 ∧ p = .int .i64 (i : Int) ∧ Hid (Below w14.heap.size w14 wr)) (fun p _ => 6 - (intOf p).toNat)
      case atStart => exact ⟨0, by omega, rfl, Lib.hid (Below.refl _ _)⟩
      case round =>
        obtain ⟨i, hi, rfl, HBw⟩ := hrel
        by_cases hlt : i < 6
        · have f1 : decide ((i : Int) < 6) = true := decide_eq_true (by omega)
          obtain ⟨A, n, c, l, hc, hr, hk, hn⟩ := HAll.out _ HBw.out i hlt
          have C := Check_any A n c l _ hr (by omega)
          rw [hk] at C
          replace C := Lib.hid C
          have g0 : (0 : Int) ≤ (i : Int) := by omega
          have g1 : (i : Int) < 6 := by omega
          have HKi := Lib.hid hlt
          clear hr hk hlt
          go_wp2_with fail
          with_reducible refine C.out.mono ?_
          rintro e v15 ⟨rfl, b⟩
          have HB15 := Lib.hid (next HBw.out b)
          clear C b
          go_wp2_with fail
          exact ⟨⟨i + 1, HKi.out, by go_num, HB15⟩, by have := HKi.out; simp [intOf]; omega⟩
        · obtain rfl : i = 6 := by omega
          have b := HBw.out
          replace HRf := Lib.hid (HRf.out.on b)
          replace HB := Lib.hid (next HB.out b)
          clear HAll HBw b hi hlt
          have C := of_rl A1 17 c1 (fullTo 17) [] 0 50 _ HRf.out (by omega) of17 rfl
          replace C := Lib.hid C
          go_wp2_with fail
          with_reducible refine C.out.mono ?_
          rintro e v14 ⟨Aa, ca, rfl, r, hna, hca, b⟩
          clear C
          replace HRf := Lib.hid (HRf.out.on b)
          replace HB := Lib.hid (next HB.out b)
          have HRa := Lib.hid r
          clear r
          clear b
          clear HRa
          have HRg : Hid (RowL v14 v14.heap.size A1 16 (fullTo 16)) := Lib.hid (by have h := HRf.out.take (k := 16) (by omega); rwa [full_take] at h)
          clear HRf
          have C := of_rl A1 16 c1 (fullTo 16) (fullTo 16) 16 0 v14 HRg.out (by omega) of16 (full_len 16)
          replace C := Lib.hid C
          go_wp2_with fail
          with_reducible refine C.out.mono ?_
          rintro e v15 ⟨Ab, cb, rfl, r, hnb, hcb, b⟩
          clear C
          replace HRg := Lib.hid (HRg.out.on b)
          replace HB := Lib.hid (next HB.out b)
          have HRb := Lib.hid r
          clear r
          clear b
          clear HRb HRg
          have C := set_rl ⟨#[97, 45, 97, 49]⟩ _ 2 kset4 rfl (by decide) v15
          replace C := Lib.hid C
          go_wp2_with fail
          with_reducible refine C.out.mono ?_
          rintro e v16 ⟨Ac, cc, rfl, r, hnc, hcc, b⟩
          clear C
          replace HB := Lib.hid (next HB.out b)
          have HRc := Lib.hid r
          clear r
          clear b
          have C := of_rl Ac 2 cc _ [] 0 50 v16 HRc.out (by omega) kof3 rfl
          replace C := Lib.hid C
          go_wp2_with fail
          with_reducible refine C.out.mono ?_
          rintro e v17 ⟨Ad, cd, rfl, r, hnd, hcd, b⟩
          clear C
          replace HRc := Lib.hid (HRc.out.on b)
          replace HB := Lib.hid (next HB.out b)
          have HRd := Lib.hid r
          clear r
          clear b
          clear HRc HRd
          have HRe := Lib.hid (RowL.one' v17 25 ⟨#[57]⟩ ⟨#[49]⟩)
          have b := (Below.refl v17.heap.size v17).alloc (Nat.le_refl _) (.cells #[.string ⟨#[57]⟩, .string ⟨#[49]⟩] 25)
          replace HB := Lib.hid (next HB.out b)
          clear b
          have C := of_rl (some ⟨v17.heap.size, 0, none⟩) 1 1 _ [] 0 50 (v17.alloc (.cells #[.string ⟨#[57]⟩, .string ⟨#[49]⟩] 25)) HRe.out (by omega) kof4 rfl
          replace C := Lib.hid C
          go_wp2_with fail
          with_reducible refine C.out.mono ?_
          rintro e v18 ⟨Ah, ch, rfl, r, hnh, hch, b⟩
          clear C
          replace HRe := Lib.hid (HRe.out.on b)
          replace HB := Lib.hid (next HB.out b)
          have HRh := Lib.hid r
          clear r
          clear b
          clear HRe HRh
          have HRi := Lib.hid (RowL.one' v18 25 ⟨#[57]⟩ ⟨#[]⟩)
          have b := (Below.refl v18.heap.size v18).alloc (Nat.le_refl _) (.cells #[.string ⟨#[57]⟩, .string ⟨#[]⟩] 25)
          replace HB := Lib.hid (next HB.out b)
          clear b
          have C := of_rl (some ⟨v18.heap.size, 0, none⟩) 1 1 _ [] 0 0 (v18.alloc (.cells #[.string ⟨#[57]⟩, .string ⟨#[]⟩] 25)) HRi.out (by omega) kof5 rfl
          replace C := Lib.hid C
          go_wp2_with fail
          with_reducible refine C.out.mono ?_
          rintro e v19 ⟨Aj, cj, rfl, r, hnj, hcj, b⟩
          clear C
          replace HRi := Lib.hid (HRi.out.on b)
          replace HB := Lib.hid (next HB.out b)
          have HRj := Lib.hid r
          clear r
          clear b
          clear HRi HRj
          have C := set_rl ⟨#[98, 49, 97, 49]⟩ _ 2 kset1 rfl (by decide) v19
          replace C := Lib.hid C
          go_wp2_with fail
          with_reducible refine C.out.mono ?_
          rintro e v20 ⟨Ak, ck, rfl, r, hnk, hck, b⟩
          clear C
          replace HB := Lib.hid (next HB.out b)
          have HRk := Lib.hid r
          clear r
          clear b
          have C := (Set_any Ak 2 ck _ ⟨#[99]⟩ ⟨#[49]⟩ v20 HRk.out (by omega) hnk hck).mono fun _ _ k => k.rl (ks1 _ _) (n := 0) rfl
          replace C := Lib.hid C
          go_wp2_with fail
          with_reducible refine C.out.mono ?_
          rintro e v21 ⟨Al, cl, rfl, r, hnl, hcl, b⟩
          clear C
          replace HRk := Lib.hid (HRk.out.on b)
          replace HB := Lib.hid (next HB.out b)
          have HRl := Lib.hid r
          clear r
          clear b
          clear HRk HRl
          have C := set_rl ⟨#[97, 45]⟩ _ 1 kset3 rfl (by decide) v21
          replace C := Lib.hid C
          go_wp2_with fail
          with_reducible refine C.out.mono ?_
          rintro e v22 ⟨Am, cm, rfl, r, hnm, hcm, b⟩
          clear C
          replace HB := Lib.hid (next HB.out b)
          have HRm := Lib.hid r
          clear r
          clear b
          have C := (Drop_any Am 1 cm _ ⟨#[98]⟩ v22 HRm.out (by omega)).mono fun _ _ k => k.rl (ks2 _) (n := 0) rfl
          replace C := Lib.hid C
          go_wp2_with fail
          with_reducible refine C.out.mono ?_
          rintro e v23 ⟨An, cn, rfl, r, hnn, hcn, b⟩
          clear C
          replace HRm := Lib.hid (HRm.out.on b)
          replace HB := Lib.hid (next HB.out b)
          have HRn := Lib.hid r
          clear r
          clear b
          clear HRm HRn
          have C := set_rl ⟨#[98, 49, 97, 49]⟩ _ 2 kset1 rfl (by decide) v23
          replace C := Lib.hid C
          go_wp2_with fail
          with_reducible refine C.out.mono ?_
          rintro e v24 ⟨Ao, co, rfl, r, hno, hco, b⟩
          clear C
          replace HB := Lib.hid (next HB.out b)
          have HRo := Lib.hid r
          clear r
          clear b
          have hr1 := Row.one v24 9 (.string ⟨#[97]⟩)
          have hr2 : Row (v24.alloc (.cells #[.string ⟨#[97]⟩] 9)) (v24.alloc (.cells #[.string ⟨#[97]⟩] 9)).heap.size (some ⟨v24.heap.size, 0, none⟩) 1 (strs [⟨#[97]⟩]) := by rw [World.size_alloc]; exact hr1
          have b := (Below.refl v24.heap.size v24).alloc (Nat.le_refl _) (.cells #[.string ⟨#[97]⟩] 9)
          replace HRo := Lib.hid (HRo.out.on b)
          replace HB := Lib.hid (next HB.out b)
          clear b
          have C := (By_any Ao (some ⟨v24.heap.size, 0, none⟩) 2 1 co 1 _ [⟨#[97]⟩] (v24.alloc (.cells #[.string ⟨#[97]⟩] 9)) HRo.out hr2 (by omega) (by omega) (by decide) (by decide)).mono fun _ _ k => k.rl (ks3 _) (n := 0) rfl
          replace C := Lib.hid C
          go_wp2_with fail
          with_reducible refine C.out.mono ?_
          rintro e v25 ⟨Ap, cp, rfl, r, hnp, hcp, b⟩
          clear C
          replace HRo := Lib.hid (HRo.out.on b)
          replace HB := Lib.hid (next HB.out b)
          have HRp := Lib.hid r
          clear r
          clear b
          clear HRo HRp
          clear hr1 hr2
          have C := set_rl ⟨#[97, 49, 97, 50]⟩ _ 2 set2 rfl (by decide) v25
          replace C := Lib.hid C
          go_wp2_with fail
          with_reducible refine C.out.mono ?_
          rintro e v26 ⟨Aq, cq, rfl, r, hnq, hcq, b⟩
          clear C
          replace HB := Lib.hid (next HB.out b)
          have HRq := Lib.hid r
          clear r
          clear b
          have C := (Without_any Aq none 2 0 cq 0 _ [] v26 HRq.out (Row.zero _ _ _) (by omega) (by omega) (by decide) (by decide)).mono fun _ _ k => k.rl (ks4 _) (n := 0) rfl
          replace C := Lib.hid C
          go_wp2_with fail
          with_reducible refine C.out.mono ?_
          rintro e v27 ⟨Ar, cr, rfl, r, hnr, hcr, b⟩
          clear C
          replace HRq := Lib.hid (HRq.out.on b)
          replace HB := Lib.hid (next HB.out b)
          have HRr := Lib.hid r
          clear r
          clear b
          clear HRq HRr
          have C := set_rl ⟨#[97, 49, 97, 50]⟩ _ 2 set2 rfl (by decide) v27
          replace C := Lib.hid C
          go_wp2_with fail
          with_reducible refine C.out.mono ?_
          rintro e v28 ⟨As, cs, rfl, r, hns, hcs, b⟩
          clear C
          replace HB := Lib.hid (next HB.out b)
          have HRs := Lib.hid r
          clear r
          clear b
          have C := Get_any As 2 cs [(bA, b1), (bA, b2)] ⟨#[97]⟩ v28 HRs.out (by omega)
          rw [show getL [(bA, b1), (bA, b2)] (⟨#[97]⟩ : ByteArray) = (⟨#[49]⟩ : ByteArray) from kg1] at C
          replace C := Lib.hid C
          go_wp2_with fail
          with_reducible refine C.out.mono ?_
          rintro e v29 ⟨rfl, b⟩
          clear C
          replace HRs := Lib.hid (HRs.out.on b)
          replace HB := Lib.hid (next HB.out b)
          clear b
          clear HRs
          have C := Get_any none 0 0 [] ⟨#[97]⟩ v29 ⟨rfl, fun h => by omega⟩ (by omega)
          rw [show getL [] (⟨#[97]⟩ : ByteArray) = (⟨#[]⟩ : ByteArray) from rfl] at C
          replace C := Lib.hid C
          go_wp2_with fail
          with_reducible refine C.out.mono ?_
          rintro e v30 ⟨rfl, b⟩
          clear C
          replace HB := Lib.hid (next HB.out b)
          clear b
          have C := set_rl ⟨#[97, 49]⟩ _ 1 set6 rfl (by decide) v30
          replace C := Lib.hid C
          go_wp2_with fail
          with_reducible refine C.out.mono ?_
          rintro e v31 ⟨At, ct, rfl, r, hnt, hct, b⟩
          clear C
          replace HB := Lib.hid (next HB.out b)
          have HRt := Lib.hid r
          clear r
          clear b
          have C := Compare_any none At 0 1 0 ct [] _ v31 ⟨rfl, fun h => by omega⟩ HRt.out (by omega) (by omega)
          rw [kcm1] at C
          replace C := Lib.hid C
          go_wp2_with fail
          with_reducible refine C.out.mono ?_
          rintro e v32 ⟨rfl, b⟩
          clear C
          replace HRt := Lib.hid (HRt.out.on b)
          replace HB := Lib.hid (next HB.out b)
          clear b
          clear HRt
          have C := set_rl ⟨#[97, 49, 98, 49]⟩ _ 2 kset5 rfl (by decide) v32
          replace C := Lib.hid C
          go_wp2_with fail
          with_reducible refine C.out.mono ?_
          rintro e v33 ⟨Au, cu, rfl, r, hnu, hcu, b⟩
          clear C
          replace HB := Lib.hid (next HB.out b)
          have HRu := Lib.hid r
          clear r
          clear b
          have C := set_rl ⟨#[97, 49]⟩ _ 1 set6 rfl (by decide) v33
          replace C := Lib.hid C
          go_wp2_with fail
          with_reducible refine C.out.mono ?_
          rintro e v34 ⟨Av, cv, rfl, r, hnv, hcv, b⟩
          clear C
          replace HRu := Lib.hid (HRu.out.on b)
          replace HB := Lib.hid (next HB.out b)
          have HRv := Lib.hid r
          clear r
          clear b
          have C := Compare_any Au Av 2 1 cu cv _ _ v34 HRu.out HRv.out (by omega) (by omega)
          rw [kcm2] at C
          replace C := Lib.hid C
          go_wp2_with fail
          with_reducible refine C.out.mono ?_
          rintro e v35 ⟨rfl, b⟩
          clear C
          replace HRu := Lib.hid (HRu.out.on b)
          replace HRv := Lib.hid (HRv.out.on b)
          replace HB := Lib.hid (next HB.out b)
          clear b
          clear HRu HRv
          have C := set_rl ⟨#[97, 50]⟩ _ 1 kset6 rfl (by decide) v35
          replace C := Lib.hid C
          go_wp2_with fail
          with_reducible refine C.out.mono ?_
          rintro e v36 ⟨Ax, cx, rfl, r, hnx, hcx, b⟩
          clear C
          replace HB := Lib.hid (next HB.out b)
          have HRx := Lib.hid r
          clear r
          clear b
          have C := set_rl ⟨#[98, 49]⟩ _ 1 kset7 rfl (by decide) v36
          replace C := Lib.hid C
          go_wp2_with fail
          with_reducible refine C.out.mono ?_
          rintro e v37 ⟨Ay, cy, rfl, r, hny, hcy, b⟩
          clear C
          replace HRx := Lib.hid (HRx.out.on b)
          replace HB := Lib.hid (next HB.out b)
          have HRy := Lib.hid r
          clear r
          clear b
          have C := Compare_any Ax Ay 1 1 cx cy _ _ v37 HRx.out HRy.out (by omega) (by omega)
          rw [kcm3] at C
          replace C := Lib.hid C
          go_wp2_with fail
          with_reducible refine C.out.mono ?_
          rintro e v38 ⟨rfl, b⟩
          clear C
          replace HRx := Lib.hid (HRx.out.on b)
          replace HRy := Lib.hid (HRy.out.on b)
          replace HB := Lib.hid (next HB.out b)
          clear b
          clear HRx HRy
          have C := set_rl ⟨#[97, 49]⟩ _ 1 set6 rfl (by decide) v38
          replace C := Lib.hid C
          go_wp2_with fail
          with_reducible refine C.out.mono ?_
          rintro e v39 ⟨Az, cz, rfl, r, hnz, hcz, b⟩
          clear C
          replace HB := Lib.hid (next HB.out b)
          have HRz := Lib.hid r
          clear r
          clear b
          have C := set_rl ⟨#[97, 50]⟩ _ 1 kset6 rfl (by decide) v39
          replace C := Lib.hid C
          go_wp2_with fail
          with_reducible refine C.out.mono ?_
          rintro e v40 ⟨Aw, cw, rfl, r, hnw, hcw, b⟩
          clear C
          replace HRz := Lib.hid (HRz.out.on b)
          replace HB := Lib.hid (next HB.out b)
          have HRw := Lib.hid r
          clear r
          clear b
          have C := Compare_any Az Aw 1 1 cz cw _ _ v40 HRz.out HRw.out (by omega) (by omega)
          rw [kcm4] at C
          replace C := Lib.hid C
          go_wp2_with fail
          with_reducible refine C.out.mono ?_
          rintro e v41 ⟨rfl, b⟩
          clear C
          replace HRz := Lib.hid (HRz.out.on b)
          replace HRw := Lib.hid (HRw.out.on b)
          replace HB := Lib.hid (next HB.out b)
          clear b
          clear HRz HRw
          have hbd : Below w.heap.size w v41.drew := HB.out.drew
          obtain ⟨l9, hl9⟩ : ∃ x, L9 = x := ⟨_, rfl⟩
          obtain ⟨l9c, hl9c⟩ : ∃ x, L9c = x := ⟨_, rfl⟩
          obtain ⟨lx, hlx⟩ : ∃ x, Lx = x := ⟨_, rfl⟩
          obtain ⟨l62, hl62⟩ : ∃ x, repB 110 62 = x := ⟨_, rfl⟩
          have ha1 := add_runL ⟨#[57]⟩ LG l9 (by rw [← HLG.out, ← hl9]; exact add9) (by rw [← HLG.out, repB_size]; decide)
          have ha2 := add_runL ⟨#[95, 57]⟩ l62 l9c (by rw [← hl62, ← hl9c]; exact add9c) (by rw [← hl62, repB_size]; decide)
          have ha3 := add_runL LG ⟨#[120]⟩ lx (by rw [← HLG.out, ← hlx]; exact addx) (by rw [← HLG.out, repB_size]; decide)
          have hx1 : LG.extract 0 62 = l62 := by rw [← HLG.out, ← hl62]; exact cut62
          have hx2 : (62 : Int) ≤ (LG.size : Int) := by rw [← HLG.out, repB_size]; decide
          have hq1 : (l9c.toList == l9c.toList) = true := beq_self_eq_true _
          have hq2 : (LG.toList == LG.toList) = true := beq_self_eq_true _
          have HC1 := Lib.hid (fun W => (show Calls Tryd.prog 31 #[.string ⟨#[]⟩] W fun e w' => e = .returned (.string ⟨#[95]⟩) ∧ Below W.heap.size W w' from by have h := Clean_any ⟨#[]⟩ W; rwa [kcl1] at h))
          have HC2 := Lib.hid (fun W => (show Calls Tryd.prog 31 #[.string ⟨#[195, 169]⟩] W fun e w' => e = .returned (.string ⟨#[95, 95]⟩) ∧ Below W.heap.size W w' from by have h := Clean_any ⟨#[195, 169]⟩ W; rwa [kcl2] at h))
          have HC3 := Lib.hid (fun W => (show Calls Tryd.prog 31 #[.string l9] W fun e w' => e = .returned (.string l9c) ∧ Below W.heap.size W w' from by have h := Clean_any L9 W; rwa [kcl3, hl9, hl9c] at h))
          have HC4 := Lib.hid (fun W => (show Calls Tryd.prog 31 #[.string lx] W fun e w' => e = .returned (.string LG) ∧ Below W.heap.size W w' from by have h := Clean_any Lx W; rwa [kcl4, hlx, HLG.out] at h))
          have HT := Lib.hid (fun W => (show Calls Tryd.prog 24 #[.slice none 0 0] W fun e w' => e = .returned (.string ⟨#[123, 125]⟩) ∧ Below W.heap.size W w' from by have h := Text_any none 0 0 [] W ⟨rfl, fun h => by omega⟩ (by omega) (fun x hx => by cases hx); rwa [ktx] at h))
          have HKy := Lib.hid (fun W => (show Calls Tryd.prog 22 #[.slice none 0 0] W fun e w' => e = .returned (.string ⟨#[]⟩) ∧ Below W.heap.size W w' from by have h := Key_any none 0 0 [] W ⟨rfl, fun h => by omega⟩ (by omega) (fun x hx => by cases hx); rwa [kky] at h))
          have HCh := Lib.hid (fun W => (show Calls Tryd.prog 25 #[.slice none 0 0] W fun e w' => e = .returned (.int .i64 0) ∧ Below W.heap.size W w' from by have h := Check_any none 0 0 [] W ⟨rfl, fun h => by omega⟩ (by omega); rwa [kch] at h))
          have HSt := Lib.hid (fun W => (Set_any none 0 0 [] ⟨#[120, 32, 121]⟩ ⟨#[49]⟩ W ⟨rfl, fun h => by omega⟩ (by omega) (by omega) (by omega)).mono fun _ _ k => k.rl (ks5 ⟨#[120, 32, 121]⟩) (n := 1) rfl)
          have HWk := Lib.hid (fun W => works_any W)
          clear hl9 hl9c hlx hl62 hadd
          go_wp2_with fail
          go_region_held3 (fun W => Below w.heap.size w W)
            (first | exact hbd | assumption)
            ((first
              | (go_at_call 31
                 first
                  | (with_reducible refine (HC1.out _).mono ?_
                     rintro e W1 ⟨rfl, b⟩
                     have h1 := next hbd b)
                  | (with_reducible refine (HC2.out _).mono ?_
                     rintro e W2 ⟨rfl, b⟩
                     have h2 := next h1 b)
                  | (with_reducible refine (HC3.out _).mono ?_
                     rintro e W3 ⟨rfl, b⟩
                     have h3 := next h2 b)
                  | (with_reducible refine (HC4.out _).mono ?_
                     rintro e W4 ⟨rfl, b⟩
                     have h4 := next h3 b))))
          clear hbd h1 h2 h3 HC1 HC2 HC3 HC4 ha1 ha2 ha3 hx1 hx2
          go_wp2_with fail
          with_reducible refine (HWk.out _).mono ?_
          rintro e W5 ⟨rfl, b⟩
          replace h4 := next h4 b
          clear b HWk
          go_wp2_with fail
          with_reducible refine (HT.out _).mono ?_
          rintro e W6 ⟨rfl, b⟩
          replace h4 := next h4 b
          clear b HT
          go_wp2_with fail
          with_reducible refine (HKy.out _).mono ?_
          rintro e W7 ⟨rfl, b⟩
          replace h4 := next h4 b
          clear b HKy
          go_wp2_with fail
          with_reducible refine (HCh.out _).mono ?_
          rintro e W8 ⟨rfl, b⟩
          replace h4 := next h4 b
          clear b HCh
          go_wp2_with fail
          with_reducible refine (HSt.out _).mono ?_
          rintro e W9 ⟨Az9, cz9, rfl, _, _, _, b⟩
          replace h4 := next h4 b
          clear b HSt
          go_wp2_with fail
          go_ret
          exact ⟨rfl, h4⟩
end Go.Proofs.YtdeohgfnlcbncaaDoor
