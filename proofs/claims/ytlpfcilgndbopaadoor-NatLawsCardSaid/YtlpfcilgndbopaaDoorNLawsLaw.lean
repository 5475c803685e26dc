/- The law NatLaws, walked. -/
import Derived.Test.YtlpfcilgndbopaaDoorNOrderLaw
namespace Go.Proofs.YtlpfcilgndbopaaDoor
open Go.RowKit

set_option maxRecDepth 100000 in
set_option maxHeartbeats 4000000 in
theorem NatLaws_walk (A0 : Option Addr) (l0 : List Int) (c0 : Nat) (A1 : Option Addr) (l1 : List Int) (c1 : Nat) (A2 : Option Addr) (l2 : List Int) (c2 : Nat) (w : World)
    (hr0 : Row w w.heap.size A0 l0.length (ints .u32 l0)) (hc0 : l0.length ≤ c0) (hs0 : c0 * 4 ≤ 140737488351232) (hu0 : ∀ x ∈ l0, (Lit.int .u32 x).wf = true)
    (hr1 : Row w w.heap.size A1 l1.length (ints .u32 l1)) (hc1 : l1.length ≤ c1) (hs1 : c1 * 4 ≤ 140737488351232) (hu1 : ∀ x ∈ l1, (Lit.int .u32 x).wf = true)
    (hr2 : Row w w.heap.size A2 l2.length (ints .u32 l2)) (hc2 : l2.length ≤ c2) (hs2 : c2 * 4 ≤ 140737488351232) (hu2 : ∀ x ∈ l2, (Lit.int .u32 x).wf = true)
    (ht : Tab w) :
    Calls Tryd.prog 6 #[.slice A0 l0.length c0, .slice A1 l1.length c1, .slice A2 l2.length c2] w fun e w' => e = .returned (.bool true) ∧ Below w.heap.size w w' := by
  have HWk := Lib.hid (works_any w ht)
  have H0 := Lib.hid (fun (w' : World) (b : Below w.heap.size w w') => nearG (hr0.on b) (lim_of_wf hu0) hc0 hs0)
  have L0 := Lib.hid (near_len (lim_of_wf hu0))
  have H1 := Lib.hid (fun (w' : World) (b : Below w.heap.size w w') => nearG (hr1.on b) (lim_of_wf hu1) hc1 hs1)
  have L1 := Lib.hid (near_len (lim_of_wf hu1))
  have H2 := Lib.hid (fun (w' : World) (b : Below w.heap.size w w') => nearG (hr2.on b) (lim_of_wf hu2) hc2 hs2)
  have L2 := Lib.hid (near_len (lim_of_wf hu2))
  obtain ⟨X, hX⟩ : ∃ V, nearV l0 = V := ⟨_, rfl⟩
  rw [hX] at H0 L0
  obtain ⟨n0, hn0⟩ : ∃ n, l0.length = n := ⟨_, rfl⟩
  rw [hn0] at H0 ⊢
  clear ht hX hn0 hr0 hc0 hs0 hu0
  obtain ⟨Y, hY⟩ : ∃ V, nearV l1 = V := ⟨_, rfl⟩
  rw [hY] at H1 L1
  obtain ⟨n1, hn1⟩ : ∃ n, l1.length = n := ⟨_, rfl⟩
  rw [hn1] at H1 ⊢
  clear hY hn1 hr1 hc1 hs1 hu1
  obtain ⟨Z, hZ⟩ : ∃ V, nearV l2 = V := ⟨_, rfl⟩
  rw [hZ] at H2 L2
  obtain ⟨n2, hn2⟩ : ∃ n, l2.length = n := ⟨_, rfl⟩
  rw [hn2] at H2 ⊢
  clear hZ hn2 hr2 hc2 hs2 hu2
  have LAB := Lib.hid (add_len L0.out L1.out)
  have LBA := Lib.hid (add_len L1.out L0.out)
  have LABC := Lib.hid (add_len LAB.out (Nat.le_succ_of_le L2.out))
  have LBC := Lib.hid (add_len L1.out L2.out)
  have LABC2 := Lib.hid (add_len (Nat.le_succ_of_le L0.out) LBC.out)
  have LM := Lib.hid (mul_len L0.out L1.out)
  have LN := Lib.hid (mul_len L1.out L0.out)
  have LO := Lib.hid (mul_len L0.out LBC.out)
  have LQ := Lib.hid (mul_len L0.out L2.out)
  have LS := Lib.hid (add_len LM.out LQ.out)
  have LU := Lib.hid (mul_len LM.out L2.out)
  have LW := Lib.hid (mul_len L1.out L2.out)
  have LAW := Lib.hid (mul_len L0.out LW.out)
  go_enter Tryd.func6, Tryd.ntmps6
  go_wp2_with fail
  with_reducible refine HWk.out.mono ?_
  rintro e w1 ⟨rfl, b1⟩
  go_wp2_with fail
  with_reducible refine (H0.out w1 b1).mono ?_
  rintro e w2 ⟨B0, k0, d0, rfl, m0, g0, b2⟩
  replace b2 := next b1 b2
  clear b1
  go_wp2_with fail
  with_reducible refine (H1.out w2 b2).mono ?_
  rintro e w3 ⟨B1, k1, d1, rfl, m1, g1, b3⟩
  replace g0 := g0.on b3
  replace b3 := next b2 b3
  clear b2
  go_wp2_with fail
  with_reducible refine (H2.out w3 b3).mono ?_
  rintro e w4 ⟨B2, k2, d2, rfl, m2, g2, b4⟩
  replace g0 := g0.on b4
  replace g1 := g1.on b4
  replace b4 := next b3 b4
  clear b3
  go_wp2_with fail
  with_reducible refine (addG (c := d0) (c' := d1) g0 g1 (by omega) (by omega)).mono ?_
  rintro e w5 ⟨B3, k3, d3, rfl, g3, b5⟩
  replace g0 := g0.on b5
  replace g1 := g1.on b5
  replace g2 := g2.on b5
  replace b5 := next b4 b5
  clear b4
  have m3 := g3.1 ▸ LAB.out
  go_wp2_with fail
  with_reducible refine (addG (c := d1) (c' := d0) g1 g0 (by omega) (by omega)).mono ?_
  rintro e w6 ⟨B4, k4, d4, rfl, g4, b6⟩
  replace g0 := g0.on b6
  replace g1 := g1.on b6
  replace g2 := g2.on b6
  replace g3 := g3.on b6
  replace b6 := next b5 b6
  clear b5
  have m4 := g4.1 ▸ LBA.out
  go_wp2_with fail
  with_reducible refine (addG (c := d3) (c' := d2) g3 g2 (by omega) (by omega)).mono ?_
  rintro e w7 ⟨B5, k5, d5, rfl, g5, b7⟩
  replace g0 := g0.on b7
  replace g1 := g1.on b7
  replace g2 := g2.on b7
  replace g3 := g3.on b7
  replace g4 := g4.on b7
  replace b7 := next b6 b7
  clear b6
  have m5 := g5.1 ▸ LABC.out
  go_wp2_with fail
  with_reducible refine (addG (c := d1) (c' := d2) g1 g2 (by omega) (by omega)).mono ?_
  rintro e w8 ⟨B6, k6, d6, rfl, g6, b8⟩
  replace g0 := g0.on b8
  replace g1 := g1.on b8
  replace g2 := g2.on b8
  replace g3 := g3.on b8
  replace g4 := g4.on b8
  replace g5 := g5.on b8
  replace b8 := next b7 b8
  clear b7
  have m6 := g6.1 ▸ LBC.out
  go_wp2_with fail
  with_reducible refine (addG (c := d0) (c' := d6) g0 g6 (by omega) (by omega)).mono ?_
  rintro e w9 ⟨B7, k7, d7, rfl, g7, b9⟩
  replace g0 := g0.on b9
  replace g1 := g1.on b9
  replace g2 := g2.on b9
  replace g3 := g3.on b9
  replace g4 := g4.on b9
  replace g5 := g5.on b9
  replace g6 := g6.on b9
  replace b9 := next b8 b9
  clear b8
  have m7 := g7.1 ▸ LABC2.out
  go_wp2_with fail
  with_reducible refine (subG (c := d3) (c' := d1) g3 g1 (by omega) (by omega) (Nat.le_add_left _ _)).mono ?_
  rintro e w10 ⟨B8, k8, d8, rfl, g8, b10⟩
  replace g0 := g0.on b10
  replace g1 := g1.on b10
  replace g2 := g2.on b10
  replace g3 := g3.on b10
  replace g4 := g4.on b10
  replace g5 := g5.on b10
  replace g6 := g6.on b10
  replace g7 := g7.on b10
  replace b10 := next b9 b10
  clear b9
  rw [Nat.add_sub_cancel] at g8
  have m8 := g8.1 ▸ L0.out
  go_wp2_with fail
  with_reducible refine (mulG (c := d0) (c' := d1) g0 g1 (by omega) (by omega)).mono ?_
  rintro e w11 ⟨B9, k9, d9, rfl, g9, b11⟩
  replace g0 := g0.on b11
  replace g1 := g1.on b11
  replace g2 := g2.on b11
  replace g3 := g3.on b11
  replace g4 := g4.on b11
  replace g5 := g5.on b11
  replace g6 := g6.on b11
  replace g7 := g7.on b11
  replace g8 := g8.on b11
  replace b11 := next b10 b11
  clear b10
  have m9 := g9.1 ▸ LM.out
  go_wp2_with fail
  with_reducible refine (mulG (c := d1) (c' := d0) g1 g0 (by omega) (by omega)).mono ?_
  rintro e w12 ⟨B10, k10, d10, rfl, g10, b12⟩
  replace g0 := g0.on b12
  replace g1 := g1.on b12
  replace g2 := g2.on b12
  replace g3 := g3.on b12
  replace g4 := g4.on b12
  replace g5 := g5.on b12
  replace g6 := g6.on b12
  replace g7 := g7.on b12
  replace g8 := g8.on b12
  replace g9 := g9.on b12
  replace b12 := next b11 b12
  clear b11
  have m10 := g10.1 ▸ LN.out
  go_wp2_with fail
  with_reducible refine (mulG (c := d0) (c' := d6) g0 g6 (by omega) (by omega)).mono ?_
  rintro e w13 ⟨B11, k11, d11, rfl, g11, b13⟩
  replace g0 := g0.on b13
  replace g1 := g1.on b13
  replace g2 := g2.on b13
  replace g3 := g3.on b13
  replace g4 := g4.on b13
  replace g5 := g5.on b13
  replace g6 := g6.on b13
  replace g7 := g7.on b13
  replace g8 := g8.on b13
  replace g9 := g9.on b13
  replace g10 := g10.on b13
  replace b13 := next b12 b13
  clear b12
  have m11 := g11.1 ▸ LO.out
  go_wp2_with fail
  with_reducible refine (mulG (c := d0) (c' := d2) g0 g2 (by omega) (by omega)).mono ?_
  rintro e w14 ⟨B12, k12, d12, rfl, g12, b14⟩
  replace g0 := g0.on b14
  replace g1 := g1.on b14
  replace g2 := g2.on b14
  replace g3 := g3.on b14
  replace g4 := g4.on b14
  replace g5 := g5.on b14
  replace g6 := g6.on b14
  replace g7 := g7.on b14
  replace g8 := g8.on b14
  replace g9 := g9.on b14
  replace g10 := g10.on b14
  replace g11 := g11.on b14
  replace b14 := next b13 b14
  clear b13
  have m12 := g12.1 ▸ LQ.out
  go_wp2_with fail
  with_reducible refine (addG (c := d9) (c' := d12) g9 g12 (by omega) (by omega)).mono ?_
  rintro e w15 ⟨B13, k13, d13, rfl, g13, b15⟩
  replace g0 := g0.on b15
  replace g1 := g1.on b15
  replace g2 := g2.on b15
  replace g3 := g3.on b15
  replace g4 := g4.on b15
  replace g5 := g5.on b15
  replace g6 := g6.on b15
  replace g7 := g7.on b15
  replace g8 := g8.on b15
  replace g9 := g9.on b15
  replace g10 := g10.on b15
  replace g11 := g11.on b15
  replace g12 := g12.on b15
  replace b15 := next b14 b15
  clear b14
  have m13 := g13.1 ▸ LS.out
  go_wp2_with fail
  with_reducible refine (mulG (c := d9) (c' := d2) g9 g2 (by omega) (by omega)).mono ?_
  rintro e w16 ⟨B14, k14, d14, rfl, g14, b16⟩
  replace g0 := g0.on b16
  replace g1 := g1.on b16
  replace g2 := g2.on b16
  replace g3 := g3.on b16
  replace g4 := g4.on b16
  replace g5 := g5.on b16
  replace g6 := g6.on b16
  replace g7 := g7.on b16
  replace g8 := g8.on b16
  replace g9 := g9.on b16
  replace g10 := g10.on b16
  replace g11 := g11.on b16
  replace g12 := g12.on b16
  replace g13 := g13.on b16
  replace b16 := next b15 b16
  clear b15
  have m14 := g14.1 ▸ LU.out
  go_wp2_with fail
  with_reducible refine (mulG (c := d1) (c' := d2) g1 g2 (by omega) (by omega)).mono ?_
  rintro e w17 ⟨B15, k15, d15, rfl, g15, b17⟩
  replace g0 := g0.on b17
  replace g1 := g1.on b17
  replace g2 := g2.on b17
  replace g3 := g3.on b17
  replace g4 := g4.on b17
  replace g5 := g5.on b17
  replace g6 := g6.on b17
  replace g7 := g7.on b17
  replace g8 := g8.on b17
  replace g9 := g9.on b17
  replace g10 := g10.on b17
  replace g11 := g11.on b17
  replace g12 := g12.on b17
  replace g13 := g13.on b17
  replace g14 := g14.on b17
  replace b17 := next b16 b17
  clear b16
  have m15 := g15.1 ▸ LW.out
  go_wp2_with fail
  with_reducible refine (mulG (c := d0) (c' := d15) g0 g15 (by omega) (by omega)).mono ?_
  rintro e w18 ⟨B16, k16, d16, rfl, g16, b18⟩
  replace g0 := g0.on b18
  replace g1 := g1.on b18
  replace g2 := g2.on b18
  replace g3 := g3.on b18
  replace g4 := g4.on b18
  replace g5 := g5.on b18
  replace g6 := g6.on b18
  replace g7 := g7.on b18
  replace g8 := g8.on b18
  replace g9 := g9.on b18
  replace g10 := g10.on b18
  replace g11 := g11.on b18
  replace g12 := g12.on b18
  replace g13 := g13.on b18
  replace g14 := g14.on b18
  replace g15 := g15.on b18
  replace b18 := next b17 b18
  clear b17
  have m16 := g16.1 ▸ LAW.out
  have E := eqG (c := d3) (c' := d4) g3 g4 (by omega)
  rw [decide_eq_true (Nat.add_comm X Y)] at E
  go_wp2_with fail
  with_reducible refine (E).mono ?_
  rintro e w19 ⟨rfl, b19⟩
  replace g0 := g0.on b19
  replace g1 := g1.on b19
  replace g2 := g2.on b19
  replace g3 := g3.on b19
  replace g4 := g4.on b19
  replace g5 := g5.on b19
  replace g6 := g6.on b19
  replace g7 := g7.on b19
  replace g8 := g8.on b19
  replace g9 := g9.on b19
  replace g10 := g10.on b19
  replace g11 := g11.on b19
  replace g12 := g12.on b19
  replace g13 := g13.on b19
  replace g14 := g14.on b19
  replace g15 := g15.on b19
  replace g16 := g16.on b19
  replace b19 := next b18 b19
  clear b18
  clear E
  have E := eqG (c := d5) (c' := d7) g5 g7 (by omega)
  rw [decide_eq_true (Nat.add_assoc X Y Z)] at E
  go_wp2_with fail
  with_reducible refine (E).mono ?_
  rintro e w20 ⟨rfl, b20⟩
  replace g0 := g0.on b20
  replace g1 := g1.on b20
  replace g2 := g2.on b20
  replace g3 := g3.on b20
  replace g4 := g4.on b20
  replace g5 := g5.on b20
  replace g6 := g6.on b20
  replace g7 := g7.on b20
  replace g8 := g8.on b20
  replace g9 := g9.on b20
  replace g10 := g10.on b20
  replace g11 := g11.on b20
  replace g12 := g12.on b20
  replace g13 := g13.on b20
  replace g14 := g14.on b20
  replace g15 := g15.on b20
  replace g16 := g16.on b20
  replace b20 := next b19 b20
  clear b19
  clear E
  have E := eqG (c := d8) (c' := d0) g8 g0 (by omega)
  rw [decide_eq_true (rfl)] at E
  go_wp2_with fail
  with_reducible refine (E).mono ?_
  rintro e w21 ⟨rfl, b21⟩
  replace g0 := g0.on b21
  replace g1 := g1.on b21
  replace g2 := g2.on b21
  replace g3 := g3.on b21
  replace g4 := g4.on b21
  replace g5 := g5.on b21
  replace g6 := g6.on b21
  replace g7 := g7.on b21
  replace g8 := g8.on b21
  replace g9 := g9.on b21
  replace g10 := g10.on b21
  replace g11 := g11.on b21
  replace g12 := g12.on b21
  replace g13 := g13.on b21
  replace g14 := g14.on b21
  replace g15 := g15.on b21
  replace g16 := g16.on b21
  replace b21 := next b20 b21
  clear b20
  clear E
  have E := eqG (c := d9) (c' := d10) g9 g10 (by omega)
  rw [decide_eq_true (Nat.mul_comm X Y)] at E
  go_wp2_with fail
  with_reducible refine (E).mono ?_
  rintro e w22 ⟨rfl, b22⟩
  replace g0 := g0.on b22
  replace g1 := g1.on b22
  replace g2 := g2.on b22
  replace g3 := g3.on b22
  replace g4 := g4.on b22
  replace g5 := g5.on b22
  replace g6 := g6.on b22
  replace g7 := g7.on b22
  replace g8 := g8.on b22
  replace g9 := g9.on b22
  replace g10 := g10.on b22
  replace g11 := g11.on b22
  replace g12 := g12.on b22
  replace g13 := g13.on b22
  replace g14 := g14.on b22
  replace g15 := g15.on b22
  replace g16 := g16.on b22
  replace b22 := next b21 b22
  clear b21
  clear E
  have E := eqG (c := d11) (c' := d13) g11 g13 (by omega)
  rw [decide_eq_true (Nat.mul_add X Y Z)] at E
  go_wp2_with fail
  with_reducible refine (E).mono ?_
  rintro e w23 ⟨rfl, b23⟩
  replace g0 := g0.on b23
  replace g1 := g1.on b23
  replace g2 := g2.on b23
  replace g3 := g3.on b23
  replace g4 := g4.on b23
  replace g5 := g5.on b23
  replace g6 := g6.on b23
  replace g7 := g7.on b23
  replace g8 := g8.on b23
  replace g9 := g9.on b23
  replace g10 := g10.on b23
  replace g11 := g11.on b23
  replace g12 := g12.on b23
  replace g13 := g13.on b23
  replace g14 := g14.on b23
  replace g15 := g15.on b23
  replace g16 := g16.on b23
  replace b23 := next b22 b23
  clear b22
  clear E
  have E := eqG (c := d14) (c' := d16) g14 g16 (by omega)
  rw [decide_eq_true (Nat.mul_assoc X Y Z)] at E
  go_wp2_with fail
  with_reducible refine (E).mono ?_
  rintro e w24 ⟨rfl, b24⟩
  replace g0 := g0.on b24
  replace g1 := g1.on b24
  replace g2 := g2.on b24
  replace g3 := g3.on b24
  replace g4 := g4.on b24
  replace g5 := g5.on b24
  replace g6 := g6.on b24
  replace g7 := g7.on b24
  replace g8 := g8.on b24
  replace g9 := g9.on b24
  replace g10 := g10.on b24
  replace g11 := g11.on b24
  replace g12 := g12.on b24
  replace g13 := g13.on b24
  replace g14 := g14.on b24
  replace g15 := g15.on b24
  replace g16 := g16.on b24
  replace b24 := next b23 b24
  clear b23
  clear E
  go_wp2
  go_ret
  exact ⟨rfl, b24⟩
end Go.Proofs.YtlpfcilgndbopaaDoor
