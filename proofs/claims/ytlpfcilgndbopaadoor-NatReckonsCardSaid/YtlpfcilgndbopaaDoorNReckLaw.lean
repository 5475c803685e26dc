/- The law NatReckons, walked. -/
import Derived.Test.YtlpfcilgndbopaaDoorNDivLaw2
import Derived.Deep.RegionHeld3
namespace Go.Proofs.YtlpfcilgndbopaaDoor
open Go.RowKit

/-- The limbs that Add and Mul answer. -/
def addL (a b : List Int) : List Int := if chk2 a b = 0 then limbs (val a + val b) else []
def mulL (a b : List Int) : List Int := if chk2 a b = 0 then limbs (val a * val b) else []
theorem lim_addL (a b : List Int) : Lim (addL a b) := by unfold addL; split; exact lim_limbs _; exact Lim.nil
theorem lim_mulL (a b : List Int) : Lim (mulL a b) := by unfold mulL; split; exact lim_limbs _; exact Lim.nil
theorem lim_subL (a b : List Int) : Lim (subL a b) := by unfold subL; split; exact lim_limbs _; exact Lim.nil
theorem len80 {l : List Int} (hl : Lim l) (h : l.length ≤ 80) : (limbs (val l)).length ≤ 80 := by
  refine limbs_len ?_
  exact Nat.lt_of_lt_of_le (val_lt hl) (Nat.pow_le_pow_right (by decide) h)
theorem reck_lens {a b : List Int} (ha : a.length ≤ 80) (hb : b.length ≤ 80) (la : Lim a) (lb : Lim b) : (addL a b).length ≤ 1000 ∧ (subL a b).length ≤ 1000 ∧ (mulL a b).length ≤ 1000 := by
  have h1 := len80 la ha
  have h2 := len80 lb hb
  refine ⟨?_, ?_, ?_⟩
  · unfold addL; split
    · exact Nat.le_trans (add_len h1 h2) (by decide)
    · simp
  · unfold subL; split
    · refine Nat.le_trans (limbs_len (k := 80) ?_) (by decide)
      exact Nat.lt_of_le_of_lt (Nat.sub_le _ _) (Nat.lt_of_lt_of_le (val_lt la) (Nat.pow_le_pow_right (by decide) ha))
    · simp
  · unfold mulL; split
    · exact Nat.le_trans (mul_len h1 h2) (by decide)
    · simp

set_option maxRecDepth 100000 in
set_option maxHeartbeats 8000000 in
theorem NatReckons_walk (A0 : Option Addr) (l0 : List Int) (c0 : Nat) (A1 : Option Addr) (l1 : List Int) (c1 : Nat) (a2 : Int) (w : World)
    (hr0 : Row w w.heap.size A0 l0.length (ints .u32 l0)) (hc0 : l0.length ≤ c0) (hs0 : c0 * 4 ≤ 140737488351232) (hu0 : ∀ x ∈ l0, (Lit.int .u32 x).wf = true)
    (hr1 : Row w w.heap.size A1 l1.length (ints .u32 l1)) (hc1 : l1.length ≤ c1) (hs1 : c1 * 4 ≤ 140737488351232) (hu1 : ∀ x ∈ l1, (Lit.int .u32 x).wf = true)
    (w2 : (Lit.int .u64 a2).wf = true) (ht : Tab w) :
    Calls Tryd.prog 3 #[.slice A0 l0.length c0, .slice A1 l1.length c1, .int .u64 a2] w fun e w' => e = .returned (.bool true) ∧ Below w.heap.size w w' := by
  obtain ⟨nn, rfl, hnn⟩ := wf_u64 w2
  obtain ⟨n0, hn0⟩ : ∃ n, l0.length = n := ⟨_, rfl⟩
  obtain ⟨n1, hn1⟩ : ∃ n, l1.length = n := ⟨_, rfl⟩
  obtain ⟨a, ha⟩ : ∃ a, l0.take 80 = a := ⟨_, rfl⟩
  obtain ⟨b, hb⟩ : ∃ b, l1.take 80 = b := ⟨_, rfl⟩
  obtain ⟨p0, hp0⟩ : ∃ p, a.length = p := ⟨_, rfl⟩
  obtain ⟨p1, hp1⟩ : ∃ p, b.length = p := ⟨_, rfl⟩
  have hmin0 : min n0 80 = p0 := by rw [← hp0, ← ha, List.length_take, hn0, Nat.min_comm]
  have hmin1 : min n1 80 = p1 := by rw [← hp1, ← hb, List.length_take, hn1, Nat.min_comm]
  have hra : Row w w.heap.size A0 p0 (ints .u32 a) := by
    have h := Row.takeI hr0 (k := p0) (by omega)
    rwa [show l0.take p0 = a by rw [← ha, ← hmin0, ← hn0, Nat.min_comm, List.take_eq_take_min (i := 80)]] at h
  have hrb : Row w w.heap.size A1 p1 (ints .u32 b) := by
    have h := Row.takeI hr1 (k := p1) (by omega)
    rwa [show l1.take p1 = b by rw [← hb, ← hmin1, ← hn1, Nat.min_comm, List.take_eq_take_min (i := 80)]] at h
  have hla : Lim a := ha ▸ (lim_of_wf hu0).take 80
  have hlb : Lim b := hb ▸ (lim_of_wf hu1).take 80
  have HK0 := Lib.hid (fun (w' : World) (k : Below w.heap.size w w') => newK _ (Copy_any A0 p0 c0 _ a w' (hra.on k) (by omega)) hp0)
  have HK1 := Lib.hid (fun (w' : World) (k : Below w.heap.size w w') => newK _ (Copy_any A1 p1 c1 _ b w' (hrb.on k) (by omega)) hp1)
  have HR0 := Lib.hid (fun (w' : World) (k : Below w.heap.size w w') => hra.on k)
  have HR1 := Lib.hid (fun (w' : World) (k : Below w.heap.size w w') => hrb.on k)
  have HT := Lib.hid ht
  have HU := Lib.hid (And.intro hla hlb)
  have HQl := Lib.hid (reck_lens (a := a) (b := b) (by omega) (by omega) hla hlb)
  have HP : Hid (p0 ≤ 80 ∧ p1 ≤ 80) := Lib.hid (by omega)
  have hcc0 : c0 ≤ 9223372036854775807 := by omega
  have hcc1 : c1 ≤ 9223372036854775807 := by omega
  have hnc0 : n0 ≤ c0 := by omega
  have hnc1 : n1 ≤ c1 := by omega
  have hpc0 : p0 ≤ c0 := by omega
  have hpc1 : p1 ≤ c1 := by omega
  rw [hn0, hn1]
  obtain ⟨K, hK⟩ : ∃ K, smallOk a = K := ⟨_, rfl⟩
  obtain ⟨S, hS⟩ : ∃ S : Nat, (if K = true then val a else 0) = S := ⟨_, rfl⟩
  obtain ⟨Kc, hKc⟩ : ∃ x, chk a = x := ⟨_, rfl⟩
  obtain ⟨Km, hKm⟩ : ∃ x, cmpE a b = x := ⟨_, rfl⟩
  obtain ⟨Ke, hKe⟩ : ∃ x, chk2 a b = x := ⟨_, rfl⟩
  obtain ⟨Ks, hKs⟩ : ∃ x, subE a b = x := ⟨_, rfl⟩
  have HSK := Lib.hid (And.intro hS hK)
  have HCM := Lib.hid (And.intro hKc (And.intro hKm (And.intro hKe hKs)))
  clear hKc hKm hKe hKs
  clear hS hK
  have i0 : min (n0 : Int) 80 = (p0 : Int) := by omega
  have i1 : min (n1 : Int) 80 = (p1 : Int) := by omega
  have j0 : (p0 : Int) ≤ (c0 : Int) := by omega
  have j1 : (p1 : Int) ≤ (c1 : Int) := by omega
  have k0 : (0 : Int) ≤ (p0 : Int) := by omega
  have k1 : (0 : Int) ≤ (p1 : Int) := by omega
  clear hra hrb hr0 hr1 hc0 hc1 hs0 hs1 hu0 hu1 w2 ht hla hlb hmin0 hmin1 hn0 hn1 ha hb hp0 hp1
  go_enter Tryd.func3, Tryd.ntmps3
  go_wp2_with fail
  go_quiet (fail)
  all_goals
    have b0 : ∀ q, Below w.heap.size w (w.drewN q) := fun q => ⟨rfl, rfl, rfl, Nat.le_refl _, fun _ _ => rfl⟩
    go_wp2_with fail
    with_reducible refine (HK0.out _ (b0 _)).mono ?_
    rintro e w1 ⟨B0, d0, rfl, rx, b1⟩
    replace b1 := next (b0 _) b1
    go_wp2_with fail
    with_reducible refine (HK1.out w1 b1).mono ?_
    rintro e W ⟨B1, d1, rfl, ry, b2⟩
    replace rx := rx.on b2
    have bW := next b1 b2
    have HX := Lib.hid (fun (w' : World) (b : Below W.heap.size W w') => And.intro (rx.on b) (ry.on b))
    have HBW := Lib.hid bW
    have C := Small_any B0 p0 d0 _ a W rx HU.out.1
    rw [HSK.out.2, HSK.out.1] at C
    clear b0 b1 b2 bW ry
    go_wp2_with fail
    with_reducible refine (C).mono ?_
    rintro e w' ⟨rfl, rfl⟩
    clear C rx
    have C := rSmall_any A0 p0 c0 _ a W (HR0.out W HBW.out) HU.out.1
    rw [HSK.out.2, HSK.out.1] at C
    go_wp2_with fail
    with_reducible refine (C).mono ?_
    rintro e w' ⟨rfl, rfl⟩
    clear C
    have bz := Below.refl W.heap.size W
    have C : Calls Tryd.prog 15 #[.slice B0 p0 d0, .slice B1 p1 d1] W _ := outW (l := addL a b) (x := Ke) (HCM.out.2.2.1 ▸ Add_any B0 B1 p0 d0 p1 d1 a b W (HX.out W bz).1 (HX.out W bz).2 HU.out.1 HU.out.2)
    go_wp2_with fail
    with_reducible refine (C).mono ?_
    rintro e w3 ⟨Ba, ka, ea, rfl, la, oa, na⟩
    clear C
    have Ha : ∀ k, (Value.slice Ba ka ea).ownBlock = some k → k < w3.heap.size := fun k hk => own_below oa k hk
    have basea := bz.size
    replace na := next bz na
    have C : Calls Tryd.prog 16 #[.slice A0 p0 c0, .slice A1 p1 c1] w3 _ := outW (l := addL a b) (x := Ke) (HCM.out.2.2.1 ▸ rAdd_any A0 A1 p0 c0 p1 c1 a b w3 (HR0.out w3 (next HBW.out na)) (HR1.out w3 (next HBW.out na)) HU.out.1 HU.out.2)
    go_wp2_with fail
    with_reducible refine (C).mono ?_
    rintro e w4 ⟨Ca, qa, fa, rfl, va, ta, ua⟩
    clear C
    have ra := Row.own ta
    replace oa := own_on oa ua
    have za := ua.size
    replace ua := next na ua
    have C : Calls Tryd.prog 17 #[.slice B0 p0 d0, .slice B1 p1 d1] w4 _ := outW (l := subL a b) (x := Ks) (HCM.out.2.2.2 ▸ Sub_any B0 B1 p0 d0 p1 d1 a b w4 (HX.out w4 ua).1 (HX.out w4 ua).2 HU.out.1 HU.out.2)
    go_wp2_with fail
    with_reducible refine (C).mono ?_
    rintro e w5 ⟨Bs, ks, es, rfl, ls, os, ns⟩
    clear C
    have Hs : ∀ k, (Value.slice Bs ks es).ownBlock = some k → k < w5.heap.size := fun k hk => own_below os k hk
    have bases := ua.size
    replace ra := ra.on ns
    replace oa := own_on oa ns
    have ys0 := ns.size
    have wbs := ua.size
    replace ns := next ua ns
    have C : Calls Tryd.prog 18 #[.slice A0 p0 c0, .slice A1 p1 c1] w5 _ := outW (l := subL a b) (x := Ks) (HCM.out.2.2.2 ▸ rSub_any A0 A1 p0 c0 p1 c1 a b w5 (HR0.out w5 (next HBW.out ns)) (HR1.out w5 (next HBW.out ns)) HU.out.1 HU.out.2)
    go_wp2_with fail
    with_reducible refine (C).mono ?_
    rintro e w6 ⟨Cs, qs, fs, rfl, vs, ts, us⟩
    clear C
    have rs := Row.own ts
    replace ra := ra.on us
    replace oa := own_on oa us
    replace os := own_on os us
    have zs := us.size
    replace us := next ns us
    have C : Calls Tryd.prog 19 #[.slice B0 p0 d0, .slice B1 p1 d1] w6 _ := outW (l := mulL a b) (x := Ke) (HCM.out.2.2.1 ▸ Mul_any B0 B1 p0 d0 p1 d1 a b w6 (HX.out w6 us).1 (HX.out w6 us).2 HU.out.1 HU.out.2)
    go_wp2_with fail
    with_reducible refine (C).mono ?_
    rintro e w7 ⟨Bm, km, em, rfl, lm, om, nm⟩
    clear C
    have Hm : ∀ k, (Value.slice Bm km em).ownBlock = some k → k < w7.heap.size := fun k hk => own_below om k hk
    have basem := us.size
    replace ra := ra.on nm
    replace rs := rs.on nm
    replace oa := own_on oa nm
    replace os := own_on os nm
    have ym0 := nm.size
    have wbm := us.size
    replace nm := next us nm
    have C : Calls Tryd.prog 20 #[.slice A0 p0 c0, .slice A1 p1 c1] w7 _ := outW (l := mulL a b) (x := Ke) (HCM.out.2.2.1 ▸ rMul_any A0 A1 p0 c0 p1 c1 a b w7 (HR0.out w7 (next HBW.out nm)) (HR1.out w7 (next HBW.out nm)) HU.out.1 HU.out.2)
    go_wp2_with fail
    with_reducible refine (C).mono ?_
    rintro e w8 ⟨Cm, qm, fm, rfl, vm, tm, um⟩
    clear C
    have rm := Row.own tm
    replace ra := ra.on um
    replace rs := rs.on um
    replace oa := own_on oa um
    replace os := own_on os um
    replace om := own_on om um
    have zm := um.size
    replace um := next nm um
    go_wp2_with fail
    with_reducible refine (ofG nn w8 hnn).mono ?_
    rintro e w9 ⟨F1, g1, h1, rfl, G1, x1⟩
    replace ra := ra.on x1
    replace rs := rs.on x1
    replace rm := rm.on x1
    replace oa := own_on oa x1
    replace os := own_on os x1
    replace om := own_on om x1
    replace x1 := next um x1
    have C := newK _ (rOf_any (nn : Int) w9 (by omega) (by omega)) rfl
    rw [Int.toNat_natCast] at C
    go_wp2_with fail
    with_reducible refine (C).mono ?_
    rintro e w10 ⟨F2, h2, rfl, G2, x2⟩
    clear C
    replace G1 := G1.on x2
    replace ra := ra.on x2
    replace rs := rs.on x2
    replace rm := rm.on x2
    replace oa := own_on oa x2
    replace os := own_on os x2
    replace om := own_on om x2
    replace x2 := next x1 x2
    have hg1 : g1 ≤ 2 := G1.1 ▸ of_small hnn
    have C := eqSame (c := h1) (c' := h2) G1.2 G2 (lim_limbs nn) (by omega)
    go_wp2_with fail
    with_reducible refine (C).mono ?_
    rintro e w11 ⟨rfl, x3⟩
    clear C G1 G2
    replace ra := ra.on x3
    replace rs := rs.on x3
    replace rm := rm.on x3
    replace oa := own_on oa x3
    replace os := own_on os x3
    replace om := own_on om x3
    replace x3 := next x2 x3
    have C := Check_any B0 p0 d0 _ a w11 (HX.out w11 x3).1
    rw [HCM.out.1] at C
    go_wp2_with fail
    with_reducible refine (C).mono ?_
    rintro e w' ⟨rfl, rfl⟩
    clear C
    have C := rCheck_any A0 p0 c0 _ a w11 (HR0.out w11 (next HBW.out x3))
    rw [HCM.out.1] at C
    go_wp2_with fail
    with_reducible refine (C).mono ?_
    rintro e w' ⟨rfl, rfl⟩
    clear C
    have C := Cmp_any B0 B1 p0 d0 p1 d1 _ a b w11 (HX.out w11 x3).1 (HX.out w11 x3).2 HU.out.1 HU.out.2
    rw [HCM.out.2.1] at C
    go_wp2_with fail
    with_reducible refine (C).mono ?_
    rintro e w' ⟨rfl, rfl⟩
    clear C
    have C := rCmp_any A0 A1 p0 c0 p1 c1 _ a b w11 (HR0.out w11 (next HBW.out x3)) (HR1.out w11 (next HBW.out x3)) HU.out.1 HU.out.2
    rw [HCM.out.2.1] at C
    replace C := C.mono (R' := fun e w' => e = .returned (.int .i64 Km) ∧ Below w11.heap.size w11 w') (by rintro e w' ⟨rfl, j, rfl⟩; exact ⟨rfl, rfl, rfl, rfl, Nat.le_refl _, fun _ _ => rfl⟩)
    go_wp2_with fail
    with_reducible refine (C).mono ?_
    rintro e w12 ⟨rfl, x4⟩
    clear C
    replace ra := ra.on x4
    replace rs := rs.on x4
    replace rm := rm.on x4
    replace oa := own_on oa x4
    replace os := own_on os x4
    replace om := own_on om x4
    replace x4 := next x3 x4
    have C := eqSame (c := ea) (c' := fa) (Row.own oa) ra (lim_addL _ _) (la ▸ HQl.out.1)
    go_wp2_with fail
    with_reducible refine (C).mono ?_
    rintro e w13 ⟨rfl, ya⟩
    clear C
    replace rs := rs.on ya
    replace rm := rm.on ya
    replace oa := own_on oa ya
    replace os := own_on os ya
    replace om := own_on om ya
    replace ya := next x4 ya
    have C := eqSame (c := es) (c' := fs) (Row.own os) rs (lim_subL _ _) (ls ▸ HQl.out.2.1)
    go_wp2_with fail
    with_reducible refine (C).mono ?_
    rintro e w14 ⟨rfl, ys⟩
    clear C
    replace rm := rm.on ys
    replace oa := own_on oa ys
    replace os := own_on os ys
    replace om := own_on om ys
    replace ys := next ya ys
    have C := eqSame (c := em) (c' := fm) (Row.own om) rm (lim_mulL _ _) (lm ▸ HQl.out.2.2)
    go_wp2_with fail
    with_reducible refine (C).mono ?_
    rintro e w15 ⟨rfl, ym⟩
    clear C
    replace oa := own_on oa ym
    replace os := own_on os ym
    replace om := own_on om ym
    replace ym := next ys ym
    have hka : ka ≤ 1000 := la ▸ HQl.out.1
    have hks : ks ≤ 1000 := ls ▸ HQl.out.2.1
    have hkm : km ≤ 1000 := lm ▸ HQl.out.2.2
    have HHa := Lib.hid Ha
    have HHs := Lib.hid Hs
    clear Ha Hs Hm la ls lm va vs vm
    go_wp2_with fail
    go_loopw [25] (fun i wr => ∃ (k : Nat) (s : List Int), k ≤ ka ∧ i = .int .i64 k ∧ wr.ownsRow W.heap.size 34 1 (.slice Ba ka ea) ka (ints .u32 s) ∧ wr.ownsRow w4.heap.size 34 1 (.slice Bs ks es) ks (ints .u32 (subL a b)) ∧ wr.ownsRow w6.heap.size 34 1 (.slice Bm km em) km (ints .u32 (mulL a b)) ∧ Below W.heap.size W wr) (fun i _ => ka - (intOf i).toNat)
    case atStart => exact ⟨0, _, Nat.zero_le _, rfl, oa, os, om, ym⟩
    case round =>
      obtain ⟨k, s, hk, rfl, o1, ps, pm, hb⟩ := hrel
      rename World => wra
      by_cases hlt : k < ka
      · rcases own_forms o1 with ⟨e1, h0', e2⟩ | ⟨g, e1, hbg, hgl⟩
        · omega
        rw [e1] at o1
        have hfz := o1.frozenAt k
        have hcell := o1.cellAt k (by omega)
        have hl := o1.1
        rw [ints_len, Nat.mul_one] at hl
        rw [ints_get _ _ _ (by omega)] at hcell
        have hS := own_zero o1 k
        have hgB := HHa.out g (by rw [e1]; rfl)
        have cs := own_apart ps hS.2 (fun j hj e => by injection e with e; have := (ps.lt j hj).1; omega)
        have cm := own_apart pm hS.2 (fun j hj e => by injection e with e; have := (pm.lt j hj).1; omega)
        have hbb := hb.grown hS.2 hb.size (fun j hj => by injection hj with hj; omega)
        have HS := Lib.hid (And.intro hS.1 (And.intro cs (And.intro cm hbb)))
        have hlt' : (k : Int) < (ka : Int) := by omega
        have hk1 : k + 1 ≤ ka := by omega
        clear o1 hb hl hS hbb ps cs pm cm
        subst e1
        go_wp2_with fail
        refine ⟨⟨k + 1, _, hk1, by go_num, HS.out.1, HS.out.2.1, HS.out.2.2.1, HS.out.2.2.2⟩, ?_⟩
        simp [intOf]
        omega
      · have hnlt : ¬ (k : Int) < (ka : Int) := by omega
        clear o1 hlt hk oa os om ym
        go_wp2_with fail
        go_loopw [26] (fun i wr => ∃ (k : Nat) (s : List Int), k ≤ ks ∧ i = .int .i64 k ∧ wr.ownsRow w4.heap.size 34 1 (.slice Bs ks es) ks (ints .u32 s) ∧ wr.ownsRow w6.heap.size 34 1 (.slice Bm km em) km (ints .u32 (mulL a b)) ∧ Below W.heap.size W wr) (fun i _ => ks - (intOf i).toNat)
        case atStart => exact ⟨0, _, Nat.zero_le _, rfl, ps, pm, hb⟩
        case round =>
          obtain ⟨k, s, hk, rfl, o1, pm, hb⟩ := hrel
          rename World => wrs
          by_cases hlt : k < ks
          · rcases own_forms o1 with ⟨e1, h0', e2⟩ | ⟨g, e1, hbg, hgl⟩
            · omega
            rw [e1] at o1
            have hfz := o1.frozenAt k
            have hcell := o1.cellAt k (by omega)
            have hl := o1.1
            rw [ints_len, Nat.mul_one] at hl
            rw [ints_get _ _ _ (by omega)] at hcell
            have hS := own_zero o1 k
            have hgB := HHs.out g (by rw [e1]; rfl)
            have cm := own_apart pm hS.2 (fun j hj e => by injection e with e; have := (pm.lt j hj).1; omega)
            have hbb := hb.grown hS.2 hb.size (fun j hj => by injection hj with hj; omega)
            have HS := Lib.hid (And.intro hS.1 (And.intro cm hbb))
            have hlt' : (k : Int) < (ks : Int) := by omega
            have hk1 : k + 1 ≤ ks := by omega
            clear o1 hb hl hS hbb pm cm
            subst e1
            go_wp2_with fail
            refine ⟨⟨k + 1, _, hk1, by go_num, HS.out.1, HS.out.2.1, HS.out.2.2⟩, ?_⟩
            simp [intOf]
            omega
          · have hnlt : ¬ (k : Int) < (ks : Int) := by omega
            clear o1 hlt hk 
            go_wp2_with fail
            go_loopw [27] (fun i wr => ∃ (k : Nat) (s : List Int), k ≤ km ∧ i = .int .i64 k ∧ wr.ownsRow w6.heap.size 34 1 (.slice Bm km em) km (ints .u32 s) ∧ Below W.heap.size W wr) (fun i _ => km - (intOf i).toNat)
            case atStart => exact ⟨0, _, Nat.zero_le _, rfl, pm, hb⟩
            case round =>
              obtain ⟨k, s, hk, rfl, o1, hb⟩ := hrel
              rename World => wrm
              by_cases hlt : k < km
              · rcases own_forms o1 with ⟨e1, h0', e2⟩ | ⟨g, e1, hbg, hgl⟩
                · omega
                rw [e1] at o1
                have hfz := o1.frozenAt k
                have hcell := o1.cellAt k (by omega)
                have hl := o1.1
                rw [ints_len, Nat.mul_one] at hl
                rw [ints_get _ _ _ (by omega)] at hcell
                have hS := own_zero o1 k
                have hbb := hb.grown hS.2 hb.size (fun j hj => by injection hj with hj; omega)
                have HS := Lib.hid (And.intro hS.1 hbb)
                have hlt' : (k : Int) < (km : Int) := by omega
                have hk1 : k + 1 ≤ km := by omega
                clear o1 hb hl hS hbb 
                subst e1
                go_wp2_with fail
                refine ⟨⟨k + 1, _, hk1, by go_num, HS.out.1, HS.out.2⟩, ?_⟩
                simp [intOf]
                omega
              · have hnlt : ¬ (k : Int) < (km : Int) := by omega
                clear o1 hlt hk 
                have C := same_any B0 A0 p0 p0 d0 c0 _ _ a a wrm (HX.out wrm hb).1 (HR0.out wrm (next HBW.out hb)) (by omega)
                rw [decide_eq_true rfl] at C
                go_wp2_with fail
                with_reducible refine C.mono ?_
                rintro e wy ⟨rfl, c1'⟩
                have hb2 := next hb c1'
                clear C
                have C := same_any B1 A1 p1 p1 d1 c1 _ _ b b wy (HX.out wy hb2).2 (HR1.out wy (next HBW.out hb2)) (by omega)
                rw [decide_eq_true rfl] at C
                go_wp2_with fail
                with_reducible refine C.mono ?_
                rintro e wz ⟨rfl, c2'⟩
                have hb3 := next hb2 c2'
                clear C
                go_wp2_with fail
                with_reducible refine (works_any wz (HT.out.below (next HBW.out hb3))).mono ?_
                rintro e wf ⟨rfl, c3'⟩
                go_wp2
                go_ret
                exact ⟨rfl, next HBW.out (next hb3 c3')⟩
end Go.Proofs.YtlpfcilgndbopaaDoor
