/- The law NatSmall, walked. -/
import Derived.Test.YtlpfcilgndbopaaDoorNLawKit
namespace Go.Proofs.YtlpfcilgndbopaaDoor
open Go.RowKit

set_option maxRecDepth 100000 in
set_option maxHeartbeats 2000000 in
theorem NatSmall_walk (a0 a1 : Int) (w : World) (w0 : (Lit.int .u64 a0).wf = true) (w1 : (Lit.int .u64 a1).wf = true) (ht : Tab w) :
    Calls Tryd.prog 10 #[.int .u64 a0, .int .u64 a1] w fun e w' => e = .returned (.bool true) ∧ Below w.heap.size w w' := by
  obtain ⟨n, rfl, hn⟩ := wf_u64 w0
  obtain ⟨m, rfl, hm⟩ := wf_u64 w1
  have HWk := Lib.hid (works_any w ht)
  clear ht w0 w1
  obtain ⟨n1, hn1⟩ : ∃ x : Nat, n / 2 = x := ⟨_, rfl⟩
  obtain ⟨m1, hm1⟩ : ∃ x : Nat, m / 2 = x := ⟨_, rfl⟩
  obtain ⟨nh, hnh⟩ : ∃ x : Nat, n / 4294967296 = x := ⟨_, rfl⟩
  obtain ⟨mh, hmh⟩ : ∃ x : Nat, m / 4294967296 = x := ⟨_, rfl⟩
  have e1 : (n : Int) / 2 = (n1 : Int) := by omega
  have e2 : (m : Int) / 2 = (m1 : Int) := by omega
  have e3 : (n : Int) / 4294967296 = (nh : Int) := by omega
  have e4 : (m : Int) / 4294967296 = (mh : Int) := by omega
  have hnh' : nh < 4294967296 := by omega
  have hmh' : mh < 4294967296 := by omega
  have HM : nh * mh < 18446744073709551616 := by
    have h1 : nh * mh ≤ 4294967295 * 4294967295 := Nat.mul_le_mul (by omega) (by omega)
    omega
  obtain ⟨P, hP⟩ : ∃ P : Nat, nh * mh = P := ⟨_, rfl⟩
  have e6 : (nh : Int) * (mh : Int) = (P : Int) := by rw [← hP]; simp
  rw [hP] at HM
  obtain ⟨S, hS⟩ : ∃ S : Nat, n1 + m1 = S := ⟨_, rfl⟩
  have e5 : (n1 : Int) + (m1 : Int) = (S : Int) := by omega
  have hS' : S < 18446744073709551616 := by omega
  have hn1' : n1 < 18446744073709551616 := by omega
  have hm1' : m1 < 18446744073709551616 := by omega
  have HPS := Lib.hid (And.intro hP hS)
  clear hP hS hn1 hm1 hnh hmh
  go_enter Tryd.func10, Tryd.ntmps10
  go_wp2_with fail
  with_reducible refine HWk.out.mono ?_
  rintro e w1 ⟨rfl, b1⟩
  go_wp2_with fail
  with_reducible refine (ofG n w1 hn).mono ?_
  rintro e w2 ⟨A1, k1, c1, rfl, g1, b2⟩
  replace b2 := next b1 b2
  go_wp2_with fail
  with_reducible refine (ofG m w2 hm).mono ?_
  rintro e w3 ⟨A2, k2, c2, rfl, g2, b3⟩
  replace g1 := g1.on b3
  replace b3 := next b2 b3
  have K1 : k1 ≤ 2 := g1.1 ▸ of_small hn
  have K2 : k2 ≤ 2 := g2.1 ▸ of_small hm
  go_wp2_with fail
  with_reducible refine (smallG g1 K1).mono ?_
  rintro e w' ⟨rfl, rfl⟩
  go_wp2_with fail
  with_reducible refine (ofG n1 _ hn1').mono ?_
  rintro e w4 ⟨A4, k4, c4, rfl, g4, b4⟩
  replace g1 := g1.on b4
  replace g2 := g2.on b4
  replace b4 := next b3 b4
  go_wp2_with fail
  with_reducible refine (ofG m1 _ hm1').mono ?_
  rintro e w5 ⟨A5, k5, c5, rfl, g5, b5⟩
  replace g1 := g1.on b5
  replace g2 := g2.on b5
  replace g4 := g4.on b5
  replace b5 := next b4 b5
  have K4 : k4 ≤ 2 := g4.1 ▸ of_small hn1'
  have K5 : k5 ≤ 2 := g5.1 ▸ of_small hm1'
  go_wp2_with fail
  with_reducible refine (addG g4 g5 (by omega) (by omega)).mono ?_
  rintro e w6 ⟨A6, k6, c6, rfl, g6, b6⟩
  replace g1 := g1.on b6
  replace g2 := g2.on b6
  replace b6 := next b5 b6
  clear g4 g5 b1 b2 b3 b4 b5
  go_wp2_with fail
  with_reducible refine (ofG nh _ (by omega)).mono ?_
  rintro e w7 ⟨A7, k7, c7, rfl, g7, b7⟩
  replace g1 := g1.on b7
  replace g2 := g2.on b7
  replace g6 := g6.on b7
  replace b7 := next b6 b7
  go_wp2_with fail
  with_reducible refine (ofG mh _ (by omega)).mono ?_
  rintro e w8 ⟨A8, k8, c8, rfl, g8, b8⟩
  replace g1 := g1.on b8
  replace g2 := g2.on b8
  replace g6 := g6.on b8
  replace g7 := g7.on b8
  replace b8 := next b7 b8
  have K7 : k7 ≤ 2 := g7.1 ▸ of_small (by omega)
  have K8 : k8 ≤ 2 := g8.1 ▸ of_small (by omega)
  go_wp2_with fail
  with_reducible refine (mulG g7 g8 (by omega) (by omega)).mono ?_
  rintro e w9 ⟨A9, k9, c9, rfl, g9, b9⟩
  replace g1 := g1.on b9
  replace g2 := g2.on b9
  replace g6 := g6.on b9
  replace b9 := next b8 b9
  rw [HPS.out.1] at g9
  rw [HPS.out.2] at g6
  clear g7 g8 b6 b7 b8
  go_wp2_with fail
  with_reducible refine (ofG S _ hS').mono ?_
  rintro e w10 ⟨A10, k10, c10, rfl, g10, b10⟩
  replace g1 := g1.on b10
  replace g2 := g2.on b10
  replace g6 := g6.on b10
  replace g9 := g9.on b10
  replace b10 := next b9 b10
  have K6 : k6 ≤ 2 := g6.1 ▸ of_small hS'
  have K9 : k9 ≤ 2 := g9.1 ▸ of_small HM
  have E1 := eqG (c := c6) (c' := c10) g6 g10 (by omega)
  rw [decide_eq_true rfl] at E1
  go_wp2_with fail
  with_reducible refine E1.mono ?_
  rintro e w11 ⟨rfl, b11⟩
  replace g1 := g1.on b11
  replace g2 := g2.on b11
  replace g9 := g9.on b11
  replace b11 := next b10 b11
  clear E1 g6 g10 b9 b10
  go_wp2_with fail
  with_reducible refine (ofG P _ HM).mono ?_
  rintro e w12 ⟨A12, k12, c12, rfl, g12, b12⟩
  replace g1 := g1.on b12
  replace g2 := g2.on b12
  replace g9 := g9.on b12
  replace b12 := next b11 b12
  have E1 := eqG (c := c9) (c' := c12) g9 g12 (by omega)
  rw [decide_eq_true rfl] at E1
  go_wp2_with fail
  with_reducible refine E1.mono ?_
  rintro e w13 ⟨rfl, b13⟩
  replace g1 := g1.on b13
  replace g2 := g2.on b13
  replace b13 := next b12 b13
  clear E1 g9 g12 b11 b12
  by_cases hm0 : m = 0
  · have hm0' : ((m : Int) == 0) = true := by simp; omega
    go_wp2
    go_ret
    exact ⟨rfl, b13⟩
  · have hm0' : ((m : Int) == 0) = false := by simp; omega
    have hm0z : ¬ (m : Int) = 0 := by omega
    obtain ⟨q, hq⟩ : ∃ q, n / m = q := ⟨_, rfl⟩
    obtain ⟨r, hr⟩ : ∃ r, n % m = r := ⟨_, rfl⟩
    have e7 : (n : Int).tdiv (m : Int) = (q : Int) := by rw [← hq]; rfl
    have e8 : (n : Int).tmod (m : Int) = (r : Int) := by rw [← hr]; rfl
    have e9 : (n : Int) / (m : Int) = (q : Int) := by rw [← hq]; simp
    have e10 : (n : Int) % (m : Int) = (r : Int) := by rw [← hr]; simp
    have hq' : q < 18446744073709551616 := by rw [← hq]; exact Nat.lt_of_le_of_lt (Nat.div_le_self _ _) hn
    have hr' : r < 18446744073709551616 := by rw [← hr]; exact Nat.lt_of_le_of_lt (Nat.mod_le _ _) hn
    have D := divG (c := c1) (c' := c2) g1 g2 (by omega) (by omega) hm0
    rw [hq, hr] at D
    clear hq hr
    go_wp2_with fail
    with_reducible refine D.mono ?_
    rintro e w14 ⟨A14, k14, c14, A15, k15, c15, rfl, g14, g15, b14⟩
    replace g1 := g1.on b14
    replace g2 := g2.on b14
    replace b14 := next b13 b14
    clear D b13
    have K14 : k14 ≤ 2 := g14.1 ▸ of_small hq'
    have K15 : k15 ≤ 2 := g15.1 ▸ of_small hr'
    go_wp2_with fail
    with_reducible refine (ofG q _ hq').mono ?_
    rintro e w16 ⟨A16, k16, c16, rfl, g16, b16⟩
    replace g1 := g1.on b16
    replace g2 := g2.on b16
    replace g14 := g14.on b16
    replace g15 := g15.on b16
    replace b16 := next b14 b16
    have E1 := eqG (c := c14) (c' := c16) g14 g16 (by omega)
    rw [decide_eq_true rfl] at E1
    go_wp2_with fail
    with_reducible refine E1.mono ?_
    rintro e w17 ⟨rfl, b17⟩
    replace g1 := g1.on b17
    replace g2 := g2.on b17
    replace g15 := g15.on b17
    replace b17 := next b16 b17
    clear E1 g14 g16 b14 b16
    go_wp2_with fail
    with_reducible refine (ofG r _ hr').mono ?_
    rintro e w18 ⟨A18, k18, c18, rfl, g18, b18⟩
    replace g1 := g1.on b18
    replace g2 := g2.on b18
    replace g15 := g15.on b18
    replace b18 := next b17 b18
    have E1 := eqG (c := c15) (c' := c18) g15 g18 (by omega)
    rw [decide_eq_true rfl] at E1
    go_wp2_with fail
    with_reducible refine E1.mono ?_
    rintro e w19 ⟨rfl, b19⟩
    replace g1 := g1.on b19
    replace g2 := g2.on b19
    replace b19 := next b18 b19
    clear E1 g15 g18 b17 b18
    have C := cmpG (c := c1) (c' := c2) g1 g2 (by omega) (by omega)
    by_cases hlt : n < m
    · have hc : cmpI n m = -1 := by rw [cmpI, if_pos hlt]
      have hlt' : (n : Int) < (m : Int) := by omega
      rw [hc] at C
      clear hc hlt
      go_wp2_with fail
      with_reducible refine C.mono ?_
      rintro e w20 ⟨rfl, rfl⟩
      go_wp2
      go_ret
      exact ⟨by simp [hlt'], b19⟩
    · obtain ⟨z, hz⟩ : ∃ z, cmpI n m = z := ⟨_, rfl⟩
      have hz0 : ¬ z < 0 := by rw [← hz, cmpI, if_neg hlt]; split <;> omega
      have hlt' : ¬ (n : Int) < (m : Int) := by omega
      rw [hz] at C
      clear hz hlt
      go_wp2_with fail
      with_reducible refine C.mono ?_
      rintro e w20 ⟨rfl, rfl⟩
      go_wp2
      go_ret
      exact ⟨by simp; omega, b19⟩
end Go.Proofs.YtlpfcilgndbopaaDoor
