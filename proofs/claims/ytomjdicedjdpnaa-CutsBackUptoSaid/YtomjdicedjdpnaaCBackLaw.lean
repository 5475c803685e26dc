/- CutsBack, walked ('behind' of ten million bytes at most). -/
import Derived.Test.YtomjdicedjdpnaaCBackP
import Derived.Test.YtomjdicedjdpnaaCNamesLaw
import Derived.Test.YtomjdicedjdpnaaCPiecesLaw
namespace Go.Proofs.Ytomjdicedjdpnaa
open Go.RowKit

def barP : ByteArray := ⟨#[32, 124, 32]⟩
theorem barP_fine : 60 ∉ bl barP ∧ barP.size ≤ 3 ∧ barP ≠ ByteArray.empty := by decide
theorem piece_60 : ∀ i < 7, 60 ∉ bl (pieceL.getD i ByteArray.empty) := by decide +kernel
theorem fine_of {n t p : ByteArray} (hp : p ≠ ByteArray.empty) (h : idx (t ++ p) p = (t.size : Int)) : fineP (n, t, p) := ⟨hp, h⟩
theorem fine_nil {n p : ByteArray} (hp : p ≠ ByteArray.empty) : fineP (n, ⟨#[]⟩, p) := by
  refine ⟨hp, ?_⟩
  show idx ((⟨#[]⟩ : ByteArray) ++ p) p = 0
  rw [show ((⟨#[]⟩ : ByteArray) ++ p) = p from (show ByteArray.empty ++ p = p by simp)]
  exact Lib.index_self _
theorem set_len18 (l : List Lb) (n v : ByteArray) (k : Nat) (h : l.length ≤ k) : (setL l n v).length ≤ k + 1 := Nat.le_trans (set_len n v) (by omega)
theorem lt60_fails : lt60.size ≤ 1000000 ∧ ¬ okC (bl lt60) := by decide +kernel
theorem pat_lt {P : ByteArray} (h : IsPat P (mOf [])) : P = lt60 := bl_inj h
set_option maxRecDepth 100000 in
set_option maxHeartbeats 16000000 in
theorem CutsBack_in (A0 : Option Addr) (es : List ByteArray) (c0 : Nat) (A1 : Option Addr) (zs : List Int) (c1 : Nat) (bh : ByteArray) (w : World) (hr0 : Row w w.heap.size A0 es.length (strs es)) (hr1 : Row w w.heap.size A1 zs.length (ints .i64 zs)) (hu1 : ∀ x ∈ zs, (Lit.int .i64 x).wf = true) (hbh : bh.size ≤ 10000000) (hM : MX w) :
    Calls Try.prog 4 #[.slice A0 es.length c0, .slice A1 zs.length c1, .string bh] w fun e w' => e = .returned (.bool true) ∧ Below w.heap.size w w' := by
  obtain ⟨n, hn⟩ : ∃ n, es.length = n := ⟨_, rfl⟩
  obtain ⟨m, hm⟩ : ∃ m, zs.length = m := ⟨_, rfl⟩
  rw [hn] at hr0 ⊢
  rw [hm] at hr1 ⊢
  have HN := Lib.hid hn
  have HMz := Lib.hid hm
  have HU := Lib.hid hu1
  have HBH := Lib.hid hbh
  have C := Lib.hid (works_any w hM)
  have HM := Lib.hid hM
  have HR0 := Lib.hid hr0
  have HR1 := Lib.hid hr1
  clear hr0 hr1 hu1 hM hn hm hbh
  go_enter Try.func4, Try.ntmps4
  go_wp2_with fail
  with_reducible refine C.out.mono ?_
  rintro e w1 ⟨rfl, b1⟩
  have HB := Lib.hid b1
  replace HM := Lib.hid (HM.out.on b1)
  replace HR0 := Lib.hid (HR0.out.on b1)
  replace HR1 := Lib.hid (HR1.out.on b1)
  clear b1 C
  go_wp2_with fail
  go_loopw [7, 8, 9, 10] (fun pp ll q i v => ∃ (k : Nat) (l : List Pt3) (P L : ByteArray) (Aw : Option Addr) (nw cw : Nat), k ≤ n ∧ k ≤ 10 ∧ i = .int .i64 (k : Int) ∧ pp = .string P ∧ ll = .string L ∧ q = .slice Aw nw cw ∧ nw ≤ k ∧ nw ≤ cw ∧ cw ≤ 9223372036854775807 ∧ P.size ≤ 1 + 10 * k ∧ L.size ≤ 1 + 70 * k ∧ Hid (Made k l ∧ IsPat P (mOf l) ∧ L = lt60 ++ lineP l ByteArray.empty) ∧ Hid (RowL v v.heap.size Aw nw (wOf l)) ∧ Hid (Below w1.heap.size w1 v)) (fun _ _ _ i _ => 10 - (intOf i).toNat)
  case atStart => exact ⟨0, [], lt60, lt60, none, 0, 0, by omega, by omega, rfl, rfl, rfl, rfl, by omega, by omega, by omega, by decide, by decide, Lib.hid ⟨made_nil, isPat_nil, by simp [lineP]⟩, Lib.hid ⟨rfl, fun h => absurd h (by omega)⟩, Lib.hid (Below.refl _ _)⟩
  case round =>
    obtain ⟨k, l, P, L, Aw, nw, cw, hkn, hk10, rfl, rfl, rfl, rfl, hnk, hnc, hcm, hPs, hLs, HG, HW, HBw⟩ := hrel
    rename World => v
    by_cases h10 : k < 10
    · have d10 : (k : Int) < 10 := by omega
      have f10 : decide ((k : Int) < 10) = true := decide_eq_true d10
      by_cases hjn : k < n
      · have djn : (k : Int) < (n : Int) := by omega
        have fjn : decide ((k : Int) < (n : Int)) = true := decide_eq_true djn
        have g0 : (0 : Int) ≤ (k : Int) := by omega
        obtain ⟨b0, off, rfl, hb1, h1⟩ := HR0.out.2 (by omega)
        have hjl : k < es.length := by rw [HN.out]; exact hjn
        have a1 := (HBw.out.cell (p := ⟨b0, off + k, none⟩) hb1).trans ((h1 k hjn).trans (strs_get _ _ hjl))
        have HB0 := Lib.hid (Nat.lt_of_lt_of_le hb1 HBw.out.size)
        obtain ⟨x, hx⟩ : ∃ x, es.getD k ByteArray.empty = x := ⟨_, rfl⟩
        rw [hx] at a1
        obtain ⟨mm, hmm⟩ : ∃ mm : Nat, min (x.size : Int) 60 = (mm : Int) := ⟨min x.size 60, by omega⟩
        have hm2 : (mm : Int) ≤ (x.size : Int) := by omega
        have hm0 : (0 : Int) ≤ (mm : Int) := by omega
        obtain ⟨t, ht⟩ : ∃ t, x.extract 0 mm = t := ⟨_, rfl⟩
        have hts : t.size ≤ 60 := by rw [← ht, ByteArray.size_extract]; omega
        have hcv := fun W => conv_nm k (by omega) W
        obtain ⟨nm, hnm⟩ : ∃ z, nmB k = z := ⟨_, rfl⟩
        have nms : nm.size = 1 := by rw [← hnm]; rfl
        rw [hnm] at hcv
        have HNM := Lib.hid hnm
        have HK := Lib.hid (And.intro h10 hjn)
        clear h1 hx hb1 hnm hjl
        by_cases hkm : k < m
        · have dkm : (k : Int) < (m : Int) := by omega
          have fkm : decide ((k : Int) < (m : Int)) = true := decide_eq_true dkm
          obtain ⟨b2, of2, rfl, hb2, h2⟩ := HR1.out.2 (by omega)
          obtain ⟨z, hz⟩ : ∃ z, zs.getD k 0 = z := ⟨_, rfl⟩
          have hkl : k < zs.length := by rw [HMz.out]; exact hkm
          have hzm : z ∈ zs := by rw [← hz, List.getD_eq_getElem?_getD, List.getElem?_eq_getElem hkl]; exact List.getElem_mem _
          have a2 : v.cell? ⟨b2, of2 + k, none⟩ = some (.int .i64 z) := by
            rw [(HBw.out.cell (p := ⟨b2, of2 + k, none⟩) hb2).trans (h2 k hkm), ← hz]
            simp [ints, List.getD_eq_getElem?_getD, hkl]
          obtain ⟨p, hp⟩ : ∃ p, pieceL.getD (pcN z) ByteArray.empty = p := ⟨_, rfl⟩
          have C := Lib.hid (show Calls Try.prog 17 #[.int .i64 z] v fun e w' => e = .returned (.string p) ∧ Below v.heap.size v w' from hp ▸ piece_any z v (HU.out z hzm))
          have hpf := piece_fine _ (pcN_lt z)
          have hp6 := piece_60 _ (pcN_lt z)
          rw [hp] at hpf hp6
          have HP := Lib.hid (And.intro hp6 (And.intro hpf.1 hpf.2))
          have hps := hpf.1
          clear h2 hb2 hz hkl hzm hp hpf hp6
          go_wp2_with fail
          with_reducible refine C.out.mono ?_
          rintro e v2 ⟨rfl, b2'⟩
          have HBv := Lib.hid (next HBw.out b2')
          have HWv := Lib.hid (HW.out.on b2')
          have a3 := (b2'.cell (p := ⟨b0, off + k, none⟩) HB0.out).trans a1
          clear C b2' a1 a2 HW
          go_wp2_with fail
          go_quiet (fail)
          have HBq := Lib.hid (next HBv.out (Below.dn (Below.refl v2.heap.size v2) nq))
          have HWq := Lib.hid (HWv.out.on (Below.dn (Below.refl v2.heap.size v2) nq))
          obtain ⟨u, hu⟩ : ∃ u, v2.drewN nq = u := ⟨_, rfl⟩
          rw [hu] at HBq HWq ⊢
          clear hu a3 HBv HWv HB0
          obtain ⟨TP, hTP⟩ : ∃ z, t ++ p = z := ⟨_, rfl⟩
          have hTs : TP.size = t.size + p.size := by rw [← hTP, ByteArray.size_append]
          have q0 := add_runC _ _ _ hTP (by omega)
          have CI := Lib.hid (index_any TP p u (by omega) (HM.out.on HBq.out))
          by_cases hI : idx TP p = (t.size : Int)
          · rw [hI] at CI
            have b0' : ((t.size : Int) == (t.size : Int)) = true := beq_self_eq_true _
            have HFi : Hid (fineP (nmB k, t, p)) := Lib.hid (fine_of HP.out.2.2 (by rw [hTP]; exact hI))
            obtain ⟨s, hs⟩ : ∃ s, t = s := ⟨_, rfl⟩
            subst hs
            have hss := hts
            obtain ⟨P1, hP1⟩ : ∃ z, P ++ (⟨#[60]⟩ : ByteArray) = z := ⟨_, rfl⟩
            obtain ⟨P2, hP2⟩ : ∃ z, P1 ++ nm = z := ⟨_, rfl⟩
            obtain ⟨P3, hP3⟩ : ∃ z, P2 ++ (⟨#[62]⟩ : ByteArray) = z := ⟨_, rfl⟩
            obtain ⟨P4, hP4⟩ : ∃ z, P3 ++ p = z := ⟨_, rfl⟩
            obtain ⟨L1, hL1⟩ : ∃ z, L ++ t = z := ⟨_, rfl⟩
            obtain ⟨L2, hL2⟩ : ∃ z, L1 ++ p = z := ⟨_, rfl⟩
            have y1 : P1.size = P.size + 1 := by rw [← hP1, ByteArray.size_append]; rfl
            have y2 : P2.size = P1.size + nm.size := by rw [← hP2, ByteArray.size_append]
            have y3 : P3.size = P2.size + 1 := by rw [← hP3, ByteArray.size_append]; rfl
            have y4 : P4.size = P3.size + p.size := by rw [← hP4, ByteArray.size_append]
            have y5 : L1.size = L.size + (t).size := by rw [← hL1, ByteArray.size_append]
            have y6 : L2.size = L1.size + p.size := by rw [← hL2, ByteArray.size_append]
            have q1 := add_runC _ _ _ hP1 (by show P.size + 1 ≤ _; omega)
            have q2 := add_runC _ _ _ hP2 (by omega)
            have q3 := add_runC _ _ _ hP3 (by show P2.size + 1 ≤ _; omega)
            have q4 := add_runC _ _ _ hP4 (by omega)
            have q5 := add_runC _ _ _ hL1 (by omega)
            have q6 := add_runC _ _ _ hL2 (by omega)
            have z1 : P4.size ≤ 1 + 10 * (k + 1) := by omega
            have z2 : L2.size ≤ 1 + 70 * (k + 1) := by omega
            have HG2 : Hid (Made (k + 1) (l ++ [(nmB k, t, p)]) ∧ IsPat P4 (mOf (l ++ [(nmB k, t, p)])) ∧ L2 = lt60 ++ lineP (l ++ [(nmB k, t, p)]) ByteArray.empty) := Lib.hid (by
              refine ⟨made_snoc HG.out.1 HFi.out HP.out.1 HP.out.2.1 hss, ?_, ?_⟩
              · rw [mOf_snoc, ← hP4, ← hP3, ← hP2, ← hP1, ← HNM.out]
                exact isPat_snoc HG.out.2.1 _ _
              · rw [lineP_app, lineP_end l, ← hL2, ← hL1, HG.out.2.2]
                simp [lineP, ByteArray.append_assoc])
            have hal := (Below.refl u.heap.size u).alloc (Nat.le_refl _) (.cells #[.int .u8 (97 + (k : Int))] 5)
            have HBa := Lib.hid (next HBq.out hal)
            have CS := Lib.hid (Set_any Aw nw cw (wOf l) nm t _ (HWq.out.on hal) (by omega) hnc hcm)
            have hwl : (wOf l).length ≤ k := by have := HWq.out.1; omega
            have HWO : Hid (wOf (l ++ [(nmB k, t, p)]) = setL (wOf l) nm t) := Lib.hid (by rw [wOf_snoc (by omega), HNM.out])
            have HSL := Lib.hid (set_len18 (wOf l) nm t k hwl)
            clear hP1 hP2 hP3 hP4 hL1 hL2 y1 y2 y3 y4 y5 y6 hal HBq HWq hTP hTs hI hwl
            go_wp2_with fail
            with_reducible refine CI.out.mono ?_
            rintro e v4 ⟨rfl, rfl⟩
            go_wp2_with fail
            with_reducible refine CS.out.mono ?_
            rintro e v5 ⟨A5, c5, rfl, o5, b5⟩
            have HB5 := Lib.hid (next HBa.out b5)
            have hc5 := own_cap o5
            have HW5 : Hid (RowL v5 v5.heap.size A5 (setL (wOf l) nm t).length (wOf (l ++ [(nmB k, t, p)]))) := Lib.hid (by rw [HWO.out]; exact RowL.own o5)
            have hl5 := HSL.out
            obtain ⟨n5, hn5⟩ : ∃ z, (setL (wOf l) nm t).length = z := ⟨_, rfl⟩
            rw [hn5] at HW5 hl5 hc5 ⊢
            clear CI CS b5 o5 hn5
            go_wp2_with fail
            exact ⟨⟨k + 1, l ++ [(nmB k, t, p)], P4, L2, A5, n5, c5, HK.out.2, HK.out.1, by go_num, rfl, rfl, rfl, hl5, hc5.1, hc5.2, z1, z2, HG2, HW5, HB5⟩, by have := HK.out; simp [intOf]; omega⟩
          · obtain ⟨ii, hii⟩ : ∃ ii, idx TP p = ii := ⟨_, rfl⟩
            rw [hii] at CI hI
            have b0' : (ii == (t.size : Int)) = false := beq_eq_false_iff_ne.2 hI
            have HFi : Hid (fineP (nmB k, ⟨#[]⟩, p)) := Lib.hid (fine_nil HP.out.2.2)
            have hss : (⟨#[]⟩ : ByteArray).size ≤ 60 := by decide
            obtain ⟨P1, hP1⟩ : ∃ z, P ++ (⟨#[60]⟩ : ByteArray) = z := ⟨_, rfl⟩
            obtain ⟨P2, hP2⟩ : ∃ z, P1 ++ nm = z := ⟨_, rfl⟩
            obtain ⟨P3, hP3⟩ : ∃ z, P2 ++ (⟨#[62]⟩ : ByteArray) = z := ⟨_, rfl⟩
            obtain ⟨P4, hP4⟩ : ∃ z, P3 ++ p = z := ⟨_, rfl⟩
            obtain ⟨L1, hL1⟩ : ∃ z, L ++ (⟨#[]⟩ : ByteArray) = z := ⟨_, rfl⟩
            obtain ⟨L2, hL2⟩ : ∃ z, L1 ++ p = z := ⟨_, rfl⟩
            have y1 : P1.size = P.size + 1 := by rw [← hP1, ByteArray.size_append]; rfl
            have y2 : P2.size = P1.size + nm.size := by rw [← hP2, ByteArray.size_append]
            have y3 : P3.size = P2.size + 1 := by rw [← hP3, ByteArray.size_append]; rfl
            have y4 : P4.size = P3.size + p.size := by rw [← hP4, ByteArray.size_append]
            have y5 : L1.size = L.size + (⟨#[]⟩ : ByteArray).size := by rw [← hL1, ByteArray.size_append]
            have y6 : L2.size = L1.size + p.size := by rw [← hL2, ByteArray.size_append]
            have q1 := add_runC _ _ _ hP1 (by show P.size + 1 ≤ _; omega)
            have q2 := add_runC _ _ _ hP2 (by omega)
            have q3 := add_runC _ _ _ hP3 (by show P2.size + 1 ≤ _; omega)
            have q4 := add_runC _ _ _ hP4 (by omega)
            have q5 := add_runC _ _ _ hL1 (by omega)
            have q6 := add_runC _ _ _ hL2 (by omega)
            have z1 : P4.size ≤ 1 + 10 * (k + 1) := by omega
            have z2 : L2.size ≤ 1 + 70 * (k + 1) := by omega
            have HG2 : Hid (Made (k + 1) (l ++ [(nmB k, (⟨#[]⟩ : ByteArray), p)]) ∧ IsPat P4 (mOf (l ++ [(nmB k, (⟨#[]⟩ : ByteArray), p)])) ∧ L2 = lt60 ++ lineP (l ++ [(nmB k, (⟨#[]⟩ : ByteArray), p)]) ByteArray.empty) := Lib.hid (by
              refine ⟨made_snoc HG.out.1 HFi.out HP.out.1 HP.out.2.1 hss, ?_, ?_⟩
              · rw [mOf_snoc, ← hP4, ← hP3, ← hP2, ← hP1, ← HNM.out]
                exact isPat_snoc HG.out.2.1 _ _
              · rw [lineP_app, lineP_end l, ← hL2, ← hL1, HG.out.2.2]
                simp [lineP, ByteArray.append_assoc])
            have hal := (Below.refl u.heap.size u).alloc (Nat.le_refl _) (.cells #[.int .u8 (97 + (k : Int))] 5)
            have HBa := Lib.hid (next HBq.out hal)
            have CS := Lib.hid (Set_any Aw nw cw (wOf l) nm (⟨#[]⟩ : ByteArray) _ (HWq.out.on hal) (by omega) hnc hcm)
            have hwl : (wOf l).length ≤ k := by have := HWq.out.1; omega
            have HWO : Hid (wOf (l ++ [(nmB k, (⟨#[]⟩ : ByteArray), p)]) = setL (wOf l) nm (⟨#[]⟩ : ByteArray)) := Lib.hid (by rw [wOf_snoc (by omega), HNM.out])
            have HSL := Lib.hid (set_len18 (wOf l) nm (⟨#[]⟩ : ByteArray) k hwl)
            clear hP1 hP2 hP3 hP4 hL1 hL2 y1 y2 y3 y4 y5 y6 hal HBq HWq hTP hTs hI hwl
            go_wp2_with fail
            with_reducible refine CI.out.mono ?_
            rintro e v4 ⟨rfl, rfl⟩
            go_wp2_with fail
            with_reducible refine CS.out.mono ?_
            rintro e v5 ⟨A5, c5, rfl, o5, b5⟩
            have HB5 := Lib.hid (next HBa.out b5)
            have hc5 := own_cap o5
            have HW5 : Hid (RowL v5 v5.heap.size A5 (setL (wOf l) nm (⟨#[]⟩ : ByteArray)).length (wOf (l ++ [(nmB k, (⟨#[]⟩ : ByteArray), p)]))) := Lib.hid (by rw [HWO.out]; exact RowL.own o5)
            have hl5 := HSL.out
            obtain ⟨n5, hn5⟩ : ∃ z, (setL (wOf l) nm (⟨#[]⟩ : ByteArray)).length = z := ⟨_, rfl⟩
            rw [hn5] at HW5 hl5 hc5 ⊢
            clear CI CS b5 o5 hn5
            go_wp2_with fail
            exact ⟨⟨k + 1, l ++ [(nmB k, (⟨#[]⟩ : ByteArray), p)], P4, L2, A5, n5, c5, HK.out.2, HK.out.1, by go_num, rfl, rfl, rfl, hl5, hc5.1, hc5.2, z1, z2, HG2, HW5, HB5⟩, by have := HK.out; simp [intOf]; omega⟩
        · have dkm : ¬ (k : Int) < (m : Int) := by omega
          have fkm : decide ((k : Int) < (m : Int)) = false := decide_eq_false dkm
          obtain ⟨p, hp⟩ : ∃ p, (⟨#[32, 124, 32]⟩ : ByteArray) = p := ⟨_, rfl⟩
          have HP : Hid (60 ∉ bl p ∧ p.size ≤ 3 ∧ p ≠ ByteArray.empty) := Lib.hid (hp ▸ barP_fine)
          have hps := HP.out.2.1
          have HBv := HBw
          have HWv := HW
          have a3 := a1
          clear a1 HW
          go_wp2_with fail
          go_quiet (fail)
          have HBq := Lib.hid (next HBv.out (Below.dn (Below.refl v.heap.size v) nq))
          have HWq := Lib.hid (HWv.out.on (Below.dn (Below.refl v.heap.size v) nq))
          obtain ⟨u, hu⟩ : ∃ u, v.drewN nq = u := ⟨_, rfl⟩
          rw [hu] at HBq HWq ⊢
          clear hu a3 HBv HWv HB0
          obtain ⟨TP, hTP⟩ : ∃ z, t ++ p = z := ⟨_, rfl⟩
          have hTs : TP.size = t.size + p.size := by rw [← hTP, ByteArray.size_append]
          have q0 := add_runC _ _ _ hTP (by omega)
          have CI := Lib.hid (index_any TP p u (by omega) (HM.out.on HBq.out))
          by_cases hI : idx TP p = (t.size : Int)
          · rw [hI] at CI
            have b0' : ((t.size : Int) == (t.size : Int)) = true := beq_self_eq_true _
            have HFi : Hid (fineP (nmB k, t, p)) := Lib.hid (fine_of HP.out.2.2 (by rw [hTP]; exact hI))
            obtain ⟨s, hs⟩ : ∃ s, t = s := ⟨_, rfl⟩
            subst hs
            have hss := hts
            obtain ⟨P1, hP1⟩ : ∃ z, P ++ (⟨#[60]⟩ : ByteArray) = z := ⟨_, rfl⟩
            obtain ⟨P2, hP2⟩ : ∃ z, P1 ++ nm = z := ⟨_, rfl⟩
            obtain ⟨P3, hP3⟩ : ∃ z, P2 ++ (⟨#[62]⟩ : ByteArray) = z := ⟨_, rfl⟩
            obtain ⟨P4, hP4⟩ : ∃ z, P3 ++ p = z := ⟨_, rfl⟩
            obtain ⟨L1, hL1⟩ : ∃ z, L ++ t = z := ⟨_, rfl⟩
            obtain ⟨L2, hL2⟩ : ∃ z, L1 ++ p = z := ⟨_, rfl⟩
            have y1 : P1.size = P.size + 1 := by rw [← hP1, ByteArray.size_append]; rfl
            have y2 : P2.size = P1.size + nm.size := by rw [← hP2, ByteArray.size_append]
            have y3 : P3.size = P2.size + 1 := by rw [← hP3, ByteArray.size_append]; rfl
            have y4 : P4.size = P3.size + p.size := by rw [← hP4, ByteArray.size_append]
            have y5 : L1.size = L.size + (t).size := by rw [← hL1, ByteArray.size_append]
            have y6 : L2.size = L1.size + p.size := by rw [← hL2, ByteArray.size_append]
            have q1 := add_runC _ _ _ hP1 (by show P.size + 1 ≤ _; omega)
            have q2 := add_runC _ _ _ hP2 (by omega)
            have q3 := add_runC _ _ _ hP3 (by show P2.size + 1 ≤ _; omega)
            have q4 := add_runC _ _ _ hP4 (by omega)
            have q5 := add_runC _ _ _ hL1 (by omega)
            have q6 := add_runC _ _ _ hL2 (by omega)
            have z1 : P4.size ≤ 1 + 10 * (k + 1) := by omega
            have z2 : L2.size ≤ 1 + 70 * (k + 1) := by omega
            have HG2 : Hid (Made (k + 1) (l ++ [(nmB k, t, p)]) ∧ IsPat P4 (mOf (l ++ [(nmB k, t, p)])) ∧ L2 = lt60 ++ lineP (l ++ [(nmB k, t, p)]) ByteArray.empty) := Lib.hid (by
              refine ⟨made_snoc HG.out.1 HFi.out HP.out.1 HP.out.2.1 hss, ?_, ?_⟩
              · rw [mOf_snoc, ← hP4, ← hP3, ← hP2, ← hP1, ← HNM.out]
                exact isPat_snoc HG.out.2.1 _ _
              · rw [lineP_app, lineP_end l, ← hL2, ← hL1, HG.out.2.2]
                simp [lineP, ByteArray.append_assoc])
            have hal := (Below.refl u.heap.size u).alloc (Nat.le_refl _) (.cells #[.int .u8 (97 + (k : Int))] 5)
            have HBa := Lib.hid (next HBq.out hal)
            have CS := Lib.hid (Set_any Aw nw cw (wOf l) nm t _ (HWq.out.on hal) (by omega) hnc hcm)
            have hwl : (wOf l).length ≤ k := by have := HWq.out.1; omega
            have HWO : Hid (wOf (l ++ [(nmB k, t, p)]) = setL (wOf l) nm t) := Lib.hid (by rw [wOf_snoc (by omega), HNM.out])
            have HSL := Lib.hid (set_len18 (wOf l) nm t k hwl)
            clear hP1 hP2 hP3 hP4 hL1 hL2 y1 y2 y3 y4 y5 y6 hal HBq HWq hTP hTs hI hwl
            go_wp2_with fail
            with_reducible refine CI.out.mono ?_
            rintro e v4 ⟨rfl, rfl⟩
            go_wp2_with fail
            with_reducible refine CS.out.mono ?_
            rintro e v5 ⟨A5, c5, rfl, o5, b5⟩
            have HB5 := Lib.hid (next HBa.out b5)
            have hc5 := own_cap o5
            have HW5 : Hid (RowL v5 v5.heap.size A5 (setL (wOf l) nm t).length (wOf (l ++ [(nmB k, t, p)]))) := Lib.hid (by rw [HWO.out]; exact RowL.own o5)
            have hl5 := HSL.out
            obtain ⟨n5, hn5⟩ : ∃ z, (setL (wOf l) nm t).length = z := ⟨_, rfl⟩
            rw [hn5] at HW5 hl5 hc5 ⊢
            clear CI CS b5 o5 hn5
            go_wp2_with fail
            exact ⟨⟨k + 1, l ++ [(nmB k, t, p)], P4, L2, A5, n5, c5, HK.out.2, HK.out.1, by go_num, rfl, rfl, rfl, hl5, hc5.1, hc5.2, z1, z2, HG2, HW5, HB5⟩, by have := HK.out; simp [intOf]; omega⟩
          · obtain ⟨ii, hii⟩ : ∃ ii, idx TP p = ii := ⟨_, rfl⟩
            rw [hii] at CI hI
            have b0' : (ii == (t.size : Int)) = false := beq_eq_false_iff_ne.2 hI
            have HFi : Hid (fineP (nmB k, ⟨#[]⟩, p)) := Lib.hid (fine_nil HP.out.2.2)
            have hss : (⟨#[]⟩ : ByteArray).size ≤ 60 := by decide
            obtain ⟨P1, hP1⟩ : ∃ z, P ++ (⟨#[60]⟩ : ByteArray) = z := ⟨_, rfl⟩
            obtain ⟨P2, hP2⟩ : ∃ z, P1 ++ nm = z := ⟨_, rfl⟩
            obtain ⟨P3, hP3⟩ : ∃ z, P2 ++ (⟨#[62]⟩ : ByteArray) = z := ⟨_, rfl⟩
            obtain ⟨P4, hP4⟩ : ∃ z, P3 ++ p = z := ⟨_, rfl⟩
            obtain ⟨L1, hL1⟩ : ∃ z, L ++ (⟨#[]⟩ : ByteArray) = z := ⟨_, rfl⟩
            obtain ⟨L2, hL2⟩ : ∃ z, L1 ++ p = z := ⟨_, rfl⟩
            have y1 : P1.size = P.size + 1 := by rw [← hP1, ByteArray.size_append]; rfl
            have y2 : P2.size = P1.size + nm.size := by rw [← hP2, ByteArray.size_append]
            have y3 : P3.size = P2.size + 1 := by rw [← hP3, ByteArray.size_append]; rfl
            have y4 : P4.size = P3.size + p.size := by rw [← hP4, ByteArray.size_append]
            have y5 : L1.size = L.size + (⟨#[]⟩ : ByteArray).size := by rw [← hL1, ByteArray.size_append]
            have y6 : L2.size = L1.size + p.size := by rw [← hL2, ByteArray.size_append]
            have q1 := add_runC _ _ _ hP1 (by show P.size + 1 ≤ _; omega)
            have q2 := add_runC _ _ _ hP2 (by omega)
            have q3 := add_runC _ _ _ hP3 (by show P2.size + 1 ≤ _; omega)
            have q4 := add_runC _ _ _ hP4 (by omega)
            have q5 := add_runC _ _ _ hL1 (by omega)
            have q6 := add_runC _ _ _ hL2 (by omega)
            have z1 : P4.size ≤ 1 + 10 * (k + 1) := by omega
            have z2 : L2.size ≤ 1 + 70 * (k + 1) := by omega
            have HG2 : Hid (Made (k + 1) (l ++ [(nmB k, (⟨#[]⟩ : ByteArray), p)]) ∧ IsPat P4 (mOf (l ++ [(nmB k, (⟨#[]⟩ : ByteArray), p)])) ∧ L2 = lt60 ++ lineP (l ++ [(nmB k, (⟨#[]⟩ : ByteArray), p)]) ByteArray.empty) := Lib.hid (by
              refine ⟨made_snoc HG.out.1 HFi.out HP.out.1 HP.out.2.1 hss, ?_, ?_⟩
              · rw [mOf_snoc, ← hP4, ← hP3, ← hP2, ← hP1, ← HNM.out]
                exact isPat_snoc HG.out.2.1 _ _
              · rw [lineP_app, lineP_end l, ← hL2, ← hL1, HG.out.2.2]
                simp [lineP, ByteArray.append_assoc])
            have hal := (Below.refl u.heap.size u).alloc (Nat.le_refl _) (.cells #[.int .u8 (97 + (k : Int))] 5)
            have HBa := Lib.hid (next HBq.out hal)
            have CS := Lib.hid (Set_any Aw nw cw (wOf l) nm (⟨#[]⟩ : ByteArray) _ (HWq.out.on hal) (by omega) hnc hcm)
            have hwl : (wOf l).length ≤ k := by have := HWq.out.1; omega
            have HWO : Hid (wOf (l ++ [(nmB k, (⟨#[]⟩ : ByteArray), p)]) = setL (wOf l) nm (⟨#[]⟩ : ByteArray)) := Lib.hid (by rw [wOf_snoc (by omega), HNM.out])
            have HSL := Lib.hid (set_len18 (wOf l) nm (⟨#[]⟩ : ByteArray) k hwl)
            clear hP1 hP2 hP3 hP4 hL1 hL2 y1 y2 y3 y4 y5 y6 hal HBq HWq hTP hTs hI hwl
            go_wp2_with fail
            with_reducible refine CI.out.mono ?_
            rintro e v4 ⟨rfl, rfl⟩
            go_wp2_with fail
            with_reducible refine CS.out.mono ?_
            rintro e v5 ⟨A5, c5, rfl, o5, b5⟩
            have HB5 := Lib.hid (next HBa.out b5)
            have hc5 := own_cap o5
            have HW5 : Hid (RowL v5 v5.heap.size A5 (setL (wOf l) nm (⟨#[]⟩ : ByteArray)).length (wOf (l ++ [(nmB k, (⟨#[]⟩ : ByteArray), p)]))) := Lib.hid (by rw [HWO.out]; exact RowL.own o5)
            have hl5 := HSL.out
            obtain ⟨n5, hn5⟩ : ∃ z, (setL (wOf l) nm (⟨#[]⟩ : ByteArray)).length = z := ⟨_, rfl⟩
            rw [hn5] at HW5 hl5 hc5 ⊢
            clear CI CS b5 o5 hn5
            go_wp2_with fail
            exact ⟨⟨k + 1, l ++ [(nmB k, (⟨#[]⟩ : ByteArray), p)], P4, L2, A5, n5, c5, HK.out.2, HK.out.1, by go_num, rfl, rfl, rfl, hl5, hc5.1, hc5.2, z1, z2, HG2, HW5, HB5⟩, by have := HK.out; simp [intOf]; omega⟩
      · have djn : ¬ (k : Int) < (n : Int) := by omega
        have fjn : decide ((k : Int) < (n : Int)) = false := decide_eq_false djn
        by_cases hn0 : n = 0
        · subst hn0
          obtain rfl : k = 0 := by omega
          have hl0 : l = [] := List.eq_nil_of_length_eq_zero (made_len HG.out.1)
          subst hl0
          obtain rfl := pat_lt HG.out.2.1
          have C := Lib.hid (fails_yes lt60 lt60_fails.1 lt60_fails.2 v (HM.out.on HBw.out))
          go_wp2_with fail
          with_reducible refine C.out.mono ?_
          rintro e v2 ⟨rfl, b2⟩
          have HB9 := Lib.hid (next HB.out (next HBw.out b2))
          go_wp2_with fail
          go_ret
          exact ⟨rfl, HB9.out⟩
        · have n0 : ((n : Int) == 0) = false := by rw [beq_eq_false_iff_ne]; omega
          have hk0 : 0 < k := by omega
          have hb := HBH.out
          obtain ⟨LB, hLB⟩ : ∃ z, L ++ bh = z := ⟨_, rfl⟩
          obtain ⟨Q, hQ⟩ : ∃ z, P ++ (⟨#[60, 122, 62]⟩ : ByteArray) = z := ⟨_, rfl⟩
          have y1 : LB.size = L.size + bh.size := by rw [← hLB, ByteArray.size_append]
          have y2 : Q.size = P.size + 3 := by rw [← hQ, ByteArray.size_append]; rfl
          have q1 := add_runC _ _ _ hLB (by omega)
          have q2 := add_runC _ _ _ hQ (by show P.size + 3 ≤ _; omega)
          have hbc := back_cuts hk10 hk0 HG.out.1 (P := P) (Q := Q) (L := LB) (b := bh) HG.out.2.1 (by
            have h := isPat_snoc HG.out.2.1 zB ByteArray.empty
            rwa [show (((P ++ ⟨#[60]⟩) ++ zB) ++ ⟨#[62]⟩) ++ ByteArray.empty = Q by rw [← hQ]; simp only [ByteArray.append_empty, ByteArray.append_assoc]; rfl] at h) (by omega) (by omega) (by rw [← hLB, HG.out.2.2, lineP_end l bh, ByteArray.append_assoc])
          have HX := Lib.hid hbc
          have hwl : (wOf l).length ≤ 10 := by have := HW.out.1; omega
          have HL := Lib.hid (And.intro hwl (set_len18 (wOf l) zB bh 10 hwl))
          have HMv := Lib.hid (HM.out.on HBw.out)
          have C := Lib.hid ((lcut_any P LB (by omega) (by omega) v HMv.out).mono fun _ _ q => q.flat)
          have C2 := Lib.hid (fun u (h : MX u) => (lcut_any Q LB (by omega) (by omega) u h).mono fun _ _ q => q.flat)
          replace HB := Lib.hid (next HB.out HBw.out)
          clear hbc hwl y1 y2 hLB hQ hb HBw
          rw [HX.out.1] at C
          go_wp2_with fail
          with_reducible refine C.out.mono ?_
          rintro e v2 ⟨A2, n2, c2, rfl, b2, r2⟩
          replace HB := Lib.hid (next HB.out b2)
          replace HW := Lib.hid (HW.out.on b2)
          have HMv2 := Lib.hid (HMv.out.on b2)
          have HR2 := Lib.hid r2
          replace C := Lib.hid (C2.out v2 HMv2.out)
          rw [HX.out.2] at C
          clear b2 r2 C2
          go_wp2_with fail
          with_reducible refine C.out.mono ?_
          rintro e v3 ⟨A3, n3, c3, rfl, b3, r3⟩
          replace HB := Lib.hid (next HB.out b3)
          replace HW := Lib.hid (HW.out.on b3)
          replace HR2 := Lib.hid (HR2.out.on b3)
          have HR3 := Lib.hid r3
          replace C := Lib.hid (same_self A2 Aw n2 nw c2 cw (wOf l) v3 HR2.out HW.out (by have := HL.out.1; omega))
          clear b3 r3
          go_wp2_with fail
          with_reducible refine C.out.mono ?_
          rintro e v4 ⟨rfl, b4⟩
          replace HB := Lib.hid (next HB.out b4)
          replace HW := Lib.hid (HW.out.on b4)
          replace HR3 := Lib.hid (HR3.out.on b4)
          replace C := Lib.hid (show Calls Try.prog 19 #[.slice Aw nw cw, .string ⟨#[122]⟩, .string bh] v4 (LOut v4 (setL (wOf l) zB bh)) from Set_any Aw nw cw (wOf l) zB bh v4 HW.out (by omega) hnc hcm)
          clear b4
          go_wp2_with fail
          with_reducible refine C.out.mono ?_
          rintro e v5 ⟨A5, c5, rfl, o5, b5⟩
          replace HB := Lib.hid (next HB.out b5)
          replace HR3 := Lib.hid (HR3.out.on b5)
          have r5 := RowL.own o5
          replace C := Lib.hid (same_self A3 A5 n3 _ c3 c5 (setL (wOf l) zB bh) v5 HR3.out r5 (by have := HL.out.2; omega))
          clear b5 o5 r5
          go_wp2_with fail
          with_reducible refine C.out.mono ?_
          rintro e v6 ⟨rfl, b6⟩
          replace HB := Lib.hid (next HB.out b6)
          go_wp2_with fail
          go_ret
          exact ⟨rfl, HB.out⟩
    · have djn : ¬ (k : Int) < 10 := by omega
      have f10 : decide ((k : Int) < 10) = false := decide_eq_false djn
      by_cases hjn : k < n
      · have djn : (k : Int) < (n : Int) := by omega
        have fjn : decide ((k : Int) < (n : Int)) = true := decide_eq_true djn
        by_cases hn0 : n = 0
        · subst hn0
          obtain rfl : k = 0 := by omega
          have hl0 : l = [] := List.eq_nil_of_length_eq_zero (made_len HG.out.1)
          subst hl0
          obtain rfl := pat_lt HG.out.2.1
          have C := Lib.hid (fails_yes lt60 lt60_fails.1 lt60_fails.2 v (HM.out.on HBw.out))
          go_wp2_with fail
          with_reducible refine C.out.mono ?_
          rintro e v2 ⟨rfl, b2⟩
          have HB9 := Lib.hid (next HB.out (next HBw.out b2))
          go_wp2_with fail
          go_ret
          exact ⟨rfl, HB9.out⟩
        · have n0 : ((n : Int) == 0) = false := by rw [beq_eq_false_iff_ne]; omega
          have hk0 : 0 < k := by omega
          have hb := HBH.out
          obtain ⟨LB, hLB⟩ : ∃ z, L ++ bh = z := ⟨_, rfl⟩
          obtain ⟨Q, hQ⟩ : ∃ z, P ++ (⟨#[60, 122, 62]⟩ : ByteArray) = z := ⟨_, rfl⟩
          have y1 : LB.size = L.size + bh.size := by rw [← hLB, ByteArray.size_append]
          have y2 : Q.size = P.size + 3 := by rw [← hQ, ByteArray.size_append]; rfl
          have q1 := add_runC _ _ _ hLB (by omega)
          have q2 := add_runC _ _ _ hQ (by show P.size + 3 ≤ _; omega)
          have hbc := back_cuts hk10 hk0 HG.out.1 (P := P) (Q := Q) (L := LB) (b := bh) HG.out.2.1 (by
            have h := isPat_snoc HG.out.2.1 zB ByteArray.empty
            rwa [show (((P ++ ⟨#[60]⟩) ++ zB) ++ ⟨#[62]⟩) ++ ByteArray.empty = Q by rw [← hQ]; simp only [ByteArray.append_empty, ByteArray.append_assoc]; rfl] at h) (by omega) (by omega) (by rw [← hLB, HG.out.2.2, lineP_end l bh, ByteArray.append_assoc])
          have HX := Lib.hid hbc
          have hwl : (wOf l).length ≤ 10 := by have := HW.out.1; omega
          have HL := Lib.hid (And.intro hwl (set_len18 (wOf l) zB bh 10 hwl))
          have HMv := Lib.hid (HM.out.on HBw.out)
          have C := Lib.hid ((lcut_any P LB (by omega) (by omega) v HMv.out).mono fun _ _ q => q.flat)
          have C2 := Lib.hid (fun u (h : MX u) => (lcut_any Q LB (by omega) (by omega) u h).mono fun _ _ q => q.flat)
          replace HB := Lib.hid (next HB.out HBw.out)
          clear hbc hwl y1 y2 hLB hQ hb HBw
          rw [HX.out.1] at C
          go_wp2_with fail
          with_reducible refine C.out.mono ?_
          rintro e v2 ⟨A2, n2, c2, rfl, b2, r2⟩
          replace HB := Lib.hid (next HB.out b2)
          replace HW := Lib.hid (HW.out.on b2)
          have HMv2 := Lib.hid (HMv.out.on b2)
          have HR2 := Lib.hid r2
          replace C := Lib.hid (C2.out v2 HMv2.out)
          rw [HX.out.2] at C
          clear b2 r2 C2
          go_wp2_with fail
          with_reducible refine C.out.mono ?_
          rintro e v3 ⟨A3, n3, c3, rfl, b3, r3⟩
          replace HB := Lib.hid (next HB.out b3)
          replace HW := Lib.hid (HW.out.on b3)
          replace HR2 := Lib.hid (HR2.out.on b3)
          have HR3 := Lib.hid r3
          replace C := Lib.hid (same_self A2 Aw n2 nw c2 cw (wOf l) v3 HR2.out HW.out (by have := HL.out.1; omega))
          clear b3 r3
          go_wp2_with fail
          with_reducible refine C.out.mono ?_
          rintro e v4 ⟨rfl, b4⟩
          replace HB := Lib.hid (next HB.out b4)
          replace HW := Lib.hid (HW.out.on b4)
          replace HR3 := Lib.hid (HR3.out.on b4)
          replace C := Lib.hid (show Calls Try.prog 19 #[.slice Aw nw cw, .string ⟨#[122]⟩, .string bh] v4 (LOut v4 (setL (wOf l) zB bh)) from Set_any Aw nw cw (wOf l) zB bh v4 HW.out (by omega) hnc hcm)
          clear b4
          go_wp2_with fail
          with_reducible refine C.out.mono ?_
          rintro e v5 ⟨A5, c5, rfl, o5, b5⟩
          replace HB := Lib.hid (next HB.out b5)
          replace HR3 := Lib.hid (HR3.out.on b5)
          have r5 := RowL.own o5
          replace C := Lib.hid (same_self A3 A5 n3 _ c3 c5 (setL (wOf l) zB bh) v5 HR3.out r5 (by have := HL.out.2; omega))
          clear b5 o5 r5
          go_wp2_with fail
          with_reducible refine C.out.mono ?_
          rintro e v6 ⟨rfl, b6⟩
          replace HB := Lib.hid (next HB.out b6)
          go_wp2_with fail
          go_ret
          exact ⟨rfl, HB.out⟩
      · have djn : ¬ (k : Int) < (n : Int) := by omega
        have fjn : decide ((k : Int) < (n : Int)) = false := decide_eq_false djn
        by_cases hn0 : n = 0
        · subst hn0
          obtain rfl : k = 0 := by omega
          have hl0 : l = [] := List.eq_nil_of_length_eq_zero (made_len HG.out.1)
          subst hl0
          obtain rfl := pat_lt HG.out.2.1
          have C := Lib.hid (fails_yes lt60 lt60_fails.1 lt60_fails.2 v (HM.out.on HBw.out))
          go_wp2_with fail
          with_reducible refine C.out.mono ?_
          rintro e v2 ⟨rfl, b2⟩
          have HB9 := Lib.hid (next HB.out (next HBw.out b2))
          go_wp2_with fail
          go_ret
          exact ⟨rfl, HB9.out⟩
        · have n0 : ((n : Int) == 0) = false := by rw [beq_eq_false_iff_ne]; omega
          have hk0 : 0 < k := by omega
          have hb := HBH.out
          obtain ⟨LB, hLB⟩ : ∃ z, L ++ bh = z := ⟨_, rfl⟩
          obtain ⟨Q, hQ⟩ : ∃ z, P ++ (⟨#[60, 122, 62]⟩ : ByteArray) = z := ⟨_, rfl⟩
          have y1 : LB.size = L.size + bh.size := by rw [← hLB, ByteArray.size_append]
          have y2 : Q.size = P.size + 3 := by rw [← hQ, ByteArray.size_append]; rfl
          have q1 := add_runC _ _ _ hLB (by omega)
          have q2 := add_runC _ _ _ hQ (by show P.size + 3 ≤ _; omega)
          have hbc := back_cuts hk10 hk0 HG.out.1 (P := P) (Q := Q) (L := LB) (b := bh) HG.out.2.1 (by
            have h := isPat_snoc HG.out.2.1 zB ByteArray.empty
            rwa [show (((P ++ ⟨#[60]⟩) ++ zB) ++ ⟨#[62]⟩) ++ ByteArray.empty = Q by rw [← hQ]; simp only [ByteArray.append_empty, ByteArray.append_assoc]; rfl] at h) (by omega) (by omega) (by rw [← hLB, HG.out.2.2, lineP_end l bh, ByteArray.append_assoc])
          have HX := Lib.hid hbc
          have hwl : (wOf l).length ≤ 10 := by have := HW.out.1; omega
          have HL := Lib.hid (And.intro hwl (set_len18 (wOf l) zB bh 10 hwl))
          have HMv := Lib.hid (HM.out.on HBw.out)
          have C := Lib.hid ((lcut_any P LB (by omega) (by omega) v HMv.out).mono fun _ _ q => q.flat)
          have C2 := Lib.hid (fun u (h : MX u) => (lcut_any Q LB (by omega) (by omega) u h).mono fun _ _ q => q.flat)
          replace HB := Lib.hid (next HB.out HBw.out)
          clear hbc hwl y1 y2 hLB hQ hb HBw
          rw [HX.out.1] at C
          go_wp2_with fail
          with_reducible refine C.out.mono ?_
          rintro e v2 ⟨A2, n2, c2, rfl, b2, r2⟩
          replace HB := Lib.hid (next HB.out b2)
          replace HW := Lib.hid (HW.out.on b2)
          have HMv2 := Lib.hid (HMv.out.on b2)
          have HR2 := Lib.hid r2
          replace C := Lib.hid (C2.out v2 HMv2.out)
          rw [HX.out.2] at C
          clear b2 r2 C2
          go_wp2_with fail
          with_reducible refine C.out.mono ?_
          rintro e v3 ⟨A3, n3, c3, rfl, b3, r3⟩
          replace HB := Lib.hid (next HB.out b3)
          replace HW := Lib.hid (HW.out.on b3)
          replace HR2 := Lib.hid (HR2.out.on b3)
          have HR3 := Lib.hid r3
          replace C := Lib.hid (same_self A2 Aw n2 nw c2 cw (wOf l) v3 HR2.out HW.out (by have := HL.out.1; omega))
          clear b3 r3
          go_wp2_with fail
          with_reducible refine C.out.mono ?_
          rintro e v4 ⟨rfl, b4⟩
          replace HB := Lib.hid (next HB.out b4)
          replace HW := Lib.hid (HW.out.on b4)
          replace HR3 := Lib.hid (HR3.out.on b4)
          replace C := Lib.hid (show Calls Try.prog 19 #[.slice Aw nw cw, .string ⟨#[122]⟩, .string bh] v4 (LOut v4 (setL (wOf l) zB bh)) from Set_any Aw nw cw (wOf l) zB bh v4 HW.out (by omega) hnc hcm)
          clear b4
          go_wp2_with fail
          with_reducible refine C.out.mono ?_
          rintro e v5 ⟨A5, c5, rfl, o5, b5⟩
          replace HB := Lib.hid (next HB.out b5)
          replace HR3 := Lib.hid (HR3.out.on b5)
          have r5 := RowL.own o5
          replace C := Lib.hid (same_self A3 A5 n3 _ c3 c5 (setL (wOf l) zB bh) v5 HR3.out r5 (by have := HL.out.2; omega))
          clear b5 o5 r5
          go_wp2_with fail
          with_reducible refine C.out.mono ?_
          rintro e v6 ⟨rfl, b6⟩
          replace HB := Lib.hid (next HB.out b6)
          go_wp2_with fail
          go_ret
          exact ⟨rfl, HB.out⟩
/-- The same, as the shell asks. -/
theorem CutsBack_walk (A0 : Option Addr) (es : List ByteArray) (c0 : Nat) (A1 : Option Addr) (zs : List Int) (c1 : Nat) (bh : ByteArray) (w : World) (hr0 : Row w w.heap.size A0 es.length (strs es)) (_ : es.length ≤ c0) (_ : ∀ x ∈ es, x.size ≤ maxLen) (hr1 : Row w w.heap.size A1 zs.length (ints .i64 zs)) (_ : zs.length ≤ c1) (_ : c1 * 8 ≤ 140737488351232) (hu1 : ∀ x ∈ zs, (Lit.int .i64 x).wf = true) (_ : bh.size ≤ 140737488351232) (hb : bh.size ≤ 10000000) (hM : MX w) :
    Calls Try.prog 4 #[.slice A0 es.length c0, .slice A1 zs.length c1, .string bh] w fun e w' => e = .returned (.bool true) ∧ Below w.heap.size w w' :=
  CutsBack_in A0 es c0 A1 zs c1 bh w hr0 hr1 hu1 hb hM
end Go.Proofs.Ytomjdicedjdpnaa
