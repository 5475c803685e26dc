/- The laws' near. -/
import Derived.Test.YtdeohgfnlcbncaaDoorLArr
namespace Go.Proofs.YtdeohgfnlcbncaaDoor
open Go.RowKit Go.Shelf Go.Lib

theorem RowL.two' (w : World) (o : Obj) (e : TypeId) (x y : ByteArray) : RowL ((w.alloc o).alloc (.cells #[.string x, .string y] e)) ((w.alloc o).alloc (.cells #[.string x, .string y] e)).heap.size (some ⟨w.heap.size + 1, 0, none⟩) 1 [(x, y)] := by
  have h := RowL.one' (w.alloc o) e x y
  rw [World.size_alloc] at h ⊢
  rw [World.size_alloc] at h
  rw [World.size_alloc]
  exact h
set_option maxRecDepth 100000 in
set_option maxHeartbeats 4000000 in
theorem near_any (A : Option Addr) (l : List Int) (n c : Nat) (w : World) (hr : Row w w.heap.size A n (ints .i64 l)) (hn : n ≤ 140737488351232) (hu : ∀ x ∈ l, (Lit.int .i64 x).wf = true) :
    Calls Tryd.prog 20 #[.slice A n c] w (LOut w (nearTo (vOf l) 8)) := by
  obtain ⟨i0, hi0, hz0, hz1, hz2⟩ := info_partsL lb_info
  have HR := Lib.hid hr
  have hl : l.length = n := by have := hr.1; rwa [ints_len] at this
  have HL := Lib.hid hl
  have HU := Lib.hid hu
  clear hr hl hu
  go_enter Tryd.func20, Tryd.ntmps20
  go_wp2_with fail
  go_loopw [4] (fun p wr => ∃ k : Nat, k ≤ n ∧ p = .int .i64 (k : Int) ∧ Hid (Arr w.heap.size (vOf (l.take k)) wr) ∧ Hid (Below w.heap.size w wr)) (fun p _ => n - (intOf p).toNat)
  case atStart => exact ⟨0, by omega, rfl, Lib.hid ⟨rfl, _, _, heap_alloc_new w _, rfl⟩, Lib.hid ((Below.refl _ w).alloc (Nat.le_refl _) _)⟩
  case round =>
    obtain ⟨k, hk, rfl, HA, HB⟩ := hrel
    by_cases hlt : k < n
    · obtain ⟨b, off, hA, hbB, hc⟩ := HR.out.2 (by omega)
      subst hA
      have c1 := (HB.out.cell (p := ⟨b, off + k, none⟩) hbB).trans ((hc k hlt).trans (ints_get .i64 l k (by rw [HL.out]; exact hlt)))
      obtain ⟨x, hx⟩ : ∃ x, l.getD k 0 = x := ⟨_, rfl⟩
      rw [hx] at c1
      have hxw : (Lit.int .i64 x).wf = true := HU.out x (by rw [← hx, List.getD_eq_getElem?_getD, List.getElem?_eq_getElem (by rw [HL.out]; exact hlt)]; exact List.getElem_mem _)
      have HT : Hid (vOf (l.take (k + 1)) = stepV (vOf (l.take k)) x) := Lib.hid (by
        rw [List.take_add_one, List.getElem?_eq_getElem (by rw [HL.out]; exact hlt), Option.toList_some, vOf_snoc]
        rw [← hx, List.getD_eq_getElem?_getD, List.getElem?_eq_getElem (by rw [HL.out]; exact hlt)]; rfl)
      have hC := fun v : World => Bring_any x 40 v hxw (by omega) (by omega)
      obtain ⟨K, hK⟩ : ∃ K : Nat, x % 40 = (K : Int) := ⟨(x % 40).toNat, by omega⟩
      have hK40 : K < 40 := by omega
      rw [hK] at hC
      have HC := Lib.hid hC
      have HT2 : Hid (vOf (l.take (k + 1)) = (vOf (l.take k)).set (K % 8) ((K / 8 : Nat) : Int)) := Lib.hid (by rw [HT.out]; unfold stepV; rw [hK]; rfl)
      obtain ⟨r, hr⟩ : ∃ r, K % 8 = r := ⟨_, rfl⟩
      obtain ⟨q, hq⟩ : ∃ q, K / 8 = q := ⟨_, rfl⟩
      rw [hr, hq] at HT2
      have t1 : (K : Int).tmod 8 = (r : Int) := by rw [← hr]; exact (Int.ofNat_tmod K 8).symm
      have t2 : (K : Int).tdiv 8 = (q : Int) := by rw [← hq]; exact (Int.ofNat_tdiv K 8).symm
      have w1 : IntKind.i64.wrap (r : Int) = (r : Int) := by rw [IntKind.wrap_i64]; omega
      have w2 : IntKind.i64.wrap (q : Int) = (q : Int) := by rw [IntKind.wrap_i64]; omega
      have hr8 : r < 8 := by omega
      have p1 := HA.out.cell r hr8
      have p2 := HA.out.free r
      have HP := Lib.hid (HA.out.put r (q : Int))
      have HP2 := Lib.hid (HB.out.setCell (p := ⟨w.heap.size, r, none⟩) (Nat.le_refl _) (.int .i64 (q : Int)))
      have g0 : (0 : Int) ≤ (k : Int) := by omega
      have g1 : (k : Int) < (n : Int) := by omega
      have g2 : (0 : Int) ≤ (r : Int) := by omega
      have g3 : (r : Int) < 8 := by omega
      have f1 : decide ((k : Int) < (n : Int)) = true := decide_eq_true g1
      have HK := Lib.hid hlt
      clear hc hx hxw hC hK hK40 hr hq hlt
      go_wp2_with fail
      with_reducible refine (HC.out _).mono ?_
      rintro e v ⟨rfl, rfl⟩
      go_wp2_with fail
      exact ⟨⟨k + 1, HK.out, by go_num, Lib.hid (by rw [HT2.out]; exact HP.out), HP2⟩, by have := HK.out; simp [intOf]; omega⟩
    · obtain rfl : k = n := by omega
      have f1 : decide ((k : Int) < (k : Int)) = false := decide_eq_false (by omega)
      rw [List.take_of_length_le (by rw [HL.out]; exact Nat.le_refl _)] at HA
      have HV := Lib.hid (vOf_ok l)
      obtain ⟨V, hV⟩ : ∃ V, vOf l = V := ⟨_, rfl⟩
      rw [hV] at HA HV
      have HVe := Lib.hid hV
      have HB0 := Lib.hid (And.intro HB.out HA.out)
      clear hV
      rename World => wo
      go_wp2_with fail
      go_loopw [6, 7] (fun o p wr => ∃ (i m : Nat) (A : Option Addr) (c : Nat), i ≤ 8 ∧ o = .slice A m c ∧ p = .int .i64 (i : Int) ∧ Hid ((nearTo V i).length = m) ∧ Hid (wr.ownsRow (w.heap.size + 1) 25 2 (.slice A m c) m (cL (nearTo V i))) ∧ Hid (Arr w.heap.size V wr) ∧ Hid (Below w.heap.size w wr)) (fun _ p _ => 8 - (intOf p).toNat)
      case atStart => exact ⟨0, 0, none, 0, by omega, rfl, rfl, Lib.hid rfl, Lib.hid (World.ownsRow_nil _ _ _ _), HA, HB⟩
      case round =>
        obtain ⟨i, m, A1, c1, hi, rfl, rfl, HM, HO, HAr, HBr⟩ := hrel
        by_cases hi8 : i < 8
        · have f2 : decide ((i : Int) < 8) = true := decide_eq_true (by omega)
          have d1 := HAr.out.cell i hi8
          have hV := HV.out.2 (V.getD i 0) (by rw [List.getD_eq_getElem?_getD, List.getElem?_eq_getElem (by rw [HV.out.1]; exact hi8)]; exact List.getElem_mem _)
          obtain ⟨Z, hZ⟩ : ∃ Z : Nat, V.getD i 0 = (Z : Int) := ⟨(V.getD i 0).toNat, by omega⟩
          rw [hZ] at d1 hV
          have g0 : (0 : Int) ≤ (i : Int) := by omega
          have g1 : (i : Int) < 8 := by omega
          by_cases hzp : 0 < Z
          · have f3 : decide ((0 : Int) < (Z : Int)) = true := decide_eq_true (by omega)
            have HN : Hid (nearTo V (i + 1) = nearTo V i ++ [(nmI i, repV (Z : Int))]) := Lib.hid (by rw [← hZ]; exact nearTo_yes (by omega))
            have hRp := fun v : World => Tryd.strings_Repeat ⟨#[118]⟩ Z v (by omega) (by show 1 * Z ≤ _; omega)
            have hre : (⟨(Lib.repeatL (ByteArray.mk #[118]).data.toList Z).toArray⟩ : ByteArray) = repV (Z : Int) := rep_eq (Z : Int)
            rw [hre] at hRp
            have HRp := Lib.hid hRp
            have HZ4 := Lib.hid hV
            have wa : IntKind.i64.wrap (97 + (i : Int)) = 97 + (i : Int) := by rw [IntKind.wrap_i64]; omega
            have wb : IntKind.u8.wrap (97 + (i : Int)) = 97 + (i : Int) := by rw [IntKind.wrap_u8]; omega
            have hcv : ∀ (W : World) (M : Nat), W.cell? ⟨M, 0, none⟩ = some (.int .u8 (97 + (i : Int))) → (convert 44 9 (.slice (some ⟨M, 0, none⟩) 1 1)).run Tryd.prog W = .ok (.string (nmI i)) W := fun W M hc => by
              have h := conv_row (P := Tryd.prog) W 44 9 5 M 1 [97 + i] Tryd.underlying44 Tryd.underlying5 Tryd.underlying9 (Byt.cons (by omega) Byt.nil) (fun j hj => by
                have hj0 : j = 0 := by simpa using hj
                subst hj0
                rw [hc]; simp)
              exact h
            have hNs : w.heap.size < wr.heap.size := HAr.out.lt
            have hml : m ≤ 9 := by have := near_len V i; have := HM.out; omega
            have L0 : wr.drew.cell? ⟨w.heap.size, i, none⟩ = some (.int .i64 (Z : Int)) := d1
            have L1 : (wr.drew.alloc (.cells #[.int .u8 (97 + (i : Int))] 5)).cell? ⟨w.heap.size, i, none⟩ = some (.int .i64 (Z : Int)) := by
              rw [World.cell?_alloc_past _ _ _ (by show w.heap.size < wr.heap.size; exact hNs)]; exact d1
            have L2 : (wr.alloc (.cells #[.int .u8 (97 + (i : Int))] 5)).cell? ⟨w.heap.size, i, none⟩ = some (.int .i64 (Z : Int)) := L1
            have hcv1 := hcv (wr.alloc (.cells #[.int .u8 (97 + (i : Int))] 5)).drew wr.heap.size (by show (wr.alloc _).cell? _ = _; rw [World.cell?_alloc_at _ _ _ _ (by simp)]; rfl)
            have hcv3 := hcv (wr.drew.alloc (.cells #[.int .u8 (97 + (i : Int))] 5)) wr.heap.size (by rw [World.cell?_alloc_at _ _ _ _ (by simp)]; rfl)
            have HSM := Lib.hid (fun v (hb : Below (wr.drew.alloc (.cells #[.int .u8 (97 + (i : Int))] 5)).heap.size (wr.drew.alloc (.cells #[.int .u8 (97 + (i : Int))] 5)) v) => hcv v wr.heap.size ((hb.cell (p := ⟨wr.heap.size, 0, none⟩) (by rw [World.size_alloc]; exact Nat.lt_succ_self _)).trans (by rw [World.cell?_alloc_at _ _ _ _ (by simp)]; rfl)))
            have HSN := Lib.hid (fun v : World => hcv (v.alloc (.cells #[.int .u8 (97 + (i : Int))] 5)) v.heap.size (by rw [World.cell?_alloc_at _ _ _ _ (by simp)]; rfl))
            have HA1 : Hid (m + 1 ≤ 1000000000) := Lib.hid (by omega)
            have f4 : decide (0 < Z) = true := decide_eq_true hzp
            clear hRp hre hV hZ hcv
            go_wp2_with fail
            go_region_law ((first
              | (refine step_appL _ (by rfl) (.tmp 32) (.tmp 43) 22 (by rfl) (w.heap.size + 1) 25 i0 Tryd.underlying22 hi0 hz0 hz1 hz2 (.slice A1 m c1) m (cL (nearTo V i)) (by rfl) (by first | exact HOa.out _ | exact HOb.out _ _) _ _ 1 1 [(nmI i, repV (Z : Int))] (by rfl) (by first | exact RowL.one' _ _ _ _ | exact RowL.two' _ _ _ _ _) HA1.out (by first | exact HBa.out _ | exact HBb.out _ _) (m + 1) rfl ?_
                 intro A2 c2 w3 o3 gr3 b3)
              | (go_simp
                 go_at_call 29
                 with_reducible refine (HRp.out _).mono ?_
                 rintro e v ⟨rfl, bR⟩
                 have hbv : Below wr.heap.size wr v := by
                   first
                     | exact (Below.refl _ wr).drew.trans bR
                     | exact (((Below.refl _ wr).alloc (Nat.le_refl _) _).drew).trans (bR.mono (by show wr.heap.size ≤ (wr.alloc _).heap.size; rw [World.size_alloc]; exact Nat.le_succ _))
                 have HBV := Lib.hid hbv
                 clear hbv
                 have HOa : Hid (∀ u, (v.alloc u).ownsRow (w.heap.size + 1) 25 2 (.slice A1 m c1) m (cL (nearTo V i))) := Lib.hid (fun u => (own_onL HO.out HBV.out).alloc u)
                 have HOb : Hid (∀ u t, ((v.alloc u).alloc t).ownsRow (w.heap.size + 1) 25 2 (.slice A1 m c1) m (cL (nearTo V i))) := Lib.hid (fun u t => ((own_onL HO.out HBV.out).alloc u).alloc t)
                 have HBa : Hid (∀ u, w.heap.size + 1 ≤ (v.alloc u).heap.size) := Lib.hid (fun u => by have := HBV.out.size; rw [World.size_alloc]; omega)
                 have HBb : Hid (∀ u t, w.heap.size + 1 ≤ ((v.alloc u).alloc t).heap.size) := Lib.hid (fun u t => by have := HBV.out.size; rw [World.size_alloc, World.size_alloc]; omega)
                 have HFX : Hid (∀ X y, Below wr.heap.size wr X → Below (w.heap.size + 1) X y → Arr w.heap.size V y ∧ Below w.heap.size w y) := Lib.hid (fun X y hX hy => ⟨(HAr.out.on hX hNs).on hy (Nat.lt_succ_self _), (HBr.out.trans (hX.mono (Nat.le_of_lt hNs))).trans (hy.mono (Nat.le_succ _))⟩)
                 have HFa : Hid (∀ u y, Below (w.heap.size + 1) (v.alloc u) y → Arr w.heap.size V y ∧ Below w.heap.size w y) := Lib.hid (fun u y => HFX.out _ y (HBV.out.alloc HBV.out.size u))
                 have HFb : Hid (∀ u t y, Below (w.heap.size + 1) ((v.alloc u).alloc t) y → Arr w.heap.size V y ∧ Below w.heap.size w y) := Lib.hid (fun u t y => HFX.out _ y ((HBV.out.alloc HBV.out.size u).alloc (HBV.out.alloc HBV.out.size u).size t))
                 clear HFX
                 first
                   | (have hcv2 := HSM.out v ⟨bR.os, bR.tape, bR.output, bR.size, bR.block⟩)
                   | (have hcv2 := HSN.out v))))
            all_goals
              have hF : Arr w.heap.size V w3 ∧ Below w.heap.size w w3 := by
                first
                  | exact HFa.out _ _ b3
                  | exact HFb.out _ _ _ b3
              have HO3 : Hid (w3.ownsRow (w.heap.size + 1) 25 2 (.slice A2 (m + 1) c2) (m + 1) (cL (nearTo V (i + 1)))) := Lib.hid (by rw [HN.out, cL_app]; exact o3)
              have HM3 : Hid ((nearTo V (i + 1)).length = m + 1) := Lib.hid (by rw [HN.out, List.length_append, HM.out]; rfl)
              have HF3 := Lib.hid hF
              clear hF o3 gr3 b3
              go_wp2_with fail
              exact ⟨⟨i + 1, m + 1, A2, c2, by omega, rfl, by go_num, HM3, HO3, Lib.hid HF3.out.1, Lib.hid HF3.out.2⟩, by simp [intOf]; omega⟩
          · have f3 : decide ((0 : Int) < (Z : Int)) = false := decide_eq_false (by omega)
            have HN : Hid (nearTo V (i + 1) = nearTo V i) := Lib.hid (nearTo_no (by omega))
            clear hZ hV
            go_wp2_with fail
            exact ⟨⟨i + 1, m, A1, c1, by omega, rfl, by go_num, Lib.hid (by rw [HN.out]; exact HM.out), Lib.hid (by rw [HN.out]; exact HO.out), HAr, HBr⟩, by simp [intOf]; omega⟩
        · obtain rfl : i = 8 := by omega
          go_wp2_with fail
          go_ret
          refine ⟨A1, c1, ?_, ?_, HBr.out⟩
          · rw [HVe.out, HM.out]; rfl
          · rw [HVe.out, HM.out]; exact own_lowL (Nat.le_succ _) HO.out
end Go.Proofs.YtdeohgfnlcbncaaDoor
