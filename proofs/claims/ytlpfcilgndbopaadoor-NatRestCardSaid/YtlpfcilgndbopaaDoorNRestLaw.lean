/- The law NatRest, walked. -/
import Derived.Test.YtlpfcilgndbopaaDoorNOrderLaw
namespace Go.Proofs.YtlpfcilgndbopaaDoor
open Go.RowKit

theorem gcd_one {X Y : Nat} (h : Y ≠ 0) : Nat.gcd (X / Nat.gcd X Y) (Y / Nat.gcd X Y) = 1 := by
  rw [Nat.gcd_div (Nat.gcd_dvd_left X Y) (Nat.gcd_dvd_right X Y)]
  exact Nat.div_self (Nat.gcd_pos_of_pos_right X (Nat.pos_of_ne_zero h))
theorem limbs_one : limbs 1 = [1] := limbs_small (by decide) (by decide)
theorem le_limbs {X Y k : Nat} (h : X ≤ Y) (hY : (limbs Y).length ≤ k) : (limbs X).length ≤ k := by
  refine limbs_len ?_
  have h1 := val_lt (lim_limbs Y)
  rw [val_limbs] at h1
  exact Nat.lt_of_le_of_lt h (Nat.lt_of_lt_of_le h1 (Nat.pow_le_pow_right (by decide) hY))
theorem cmpI_less {X Y : Nat} (h : X < Y) : cmpI X Y = -1 := by rw [cmpI, if_pos h]
set_option maxRecDepth 100000 in
set_option maxHeartbeats 4000000 in
theorem NatRest_walk (A0 : Option Addr) (l0 : List Int) (c0 : Nat) (A1 : Option Addr) (l1 : List Int) (c1 : Nat) (w : World)
    (hr0 : Row w w.heap.size A0 l0.length (ints .u32 l0)) (hc0 : l0.length ≤ c0) (hs0 : c0 * 4 ≤ 140737488351232) (hu0 : ∀ x ∈ l0, (Lit.int .u32 x).wf = true)
    (hr1 : Row w w.heap.size A1 l1.length (ints .u32 l1)) (hc1 : l1.length ≤ c1) (hs1 : c1 * 4 ≤ 140737488351232) (hu1 : ∀ x ∈ l1, (Lit.int .u32 x).wf = true)
    (ht : Tab w) :
    Calls Tryd.prog 7 #[.slice A0 l0.length c0, .slice A1 l1.length c1] w fun e w' => e = .returned (.bool true) ∧ Below w.heap.size w w' := by
  have HWk := Lib.hid (works_any w ht)
  have H0 := Lib.hid (fun (w' : World) (b : Below w.heap.size w w') => nearG (hr0.on b) (lim_of_wf hu0) hc0 hs0)
  have L0 := Lib.hid (near_len (lim_of_wf hu0))
  have H1 := Lib.hid (fun (w' : World) (b : Below w.heap.size w w') => nearG (hr1.on b) (lim_of_wf hu1) hc1 hs1)
  have L1 := Lib.hid (near_len (lim_of_wf hu1))
  obtain ⟨X, hX⟩ : ∃ V, nearV l0 = V := ⟨_, rfl⟩
  rw [hX] at H0 L0
  obtain ⟨n0, hn0⟩ : ∃ n, l0.length = n := ⟨_, rfl⟩
  rw [hn0] at H0 ⊢
  clear ht hX hn0 hr0 hc0 hs0 hu0
  obtain ⟨Y, hY⟩ : ∃ V, nearV l1 = V := ⟨_, rfl⟩
  rw [hY] at H1 L1
  obtain ⟨n1, hn1⟩ : ∃ n, l1.length = n := ⟨_, rfl⟩
  rw [hn1] at H1 ⊢
  clear hY hn1 hr1 hc1 hs1 hu1
  go_enter Tryd.func7, Tryd.ntmps7
  go_wp2_with fail
  with_reducible refine HWk.out.mono ?_
  rintro e w1 ⟨rfl, b1⟩
  go_wp2_with fail
  with_reducible refine (H0.out w1 b1).mono ?_
  rintro e w2 ⟨B0, k0, d0, rfl, m0, g0, b2⟩
  replace b2 := next b1 b2
  clear b1
  go_wp2_with fail
  with_reducible refine (H1.out w2 b2).mono ?_
  rintro e w3 ⟨B1, k1, d1, rfl, m1, g1, b3⟩
  replace g0 := g0.on b3
  replace b3 := next b2 b3
  clear b2
  by_cases hk1 : k1 = 0
  · subst hk1
    have hY : Y = 0 := by
      have h1 := val_lt (lim_limbs Y)
      rw [val_limbs, g1.1] at h1
      simpa using h1
    go_wp2_with fail
    with_reducible refine (gcdG (c := d0) (c' := d1) g0 g1 (by omega) (by omega)).mono ?_
    rintro e w4 ⟨B3, k3, d3, rfl, g3, b4⟩
    replace g0 := g0.on b4
    replace g1 := g1.on b4
    replace b4 := next b3 b4
    clear b3
    rw [hY, Nat.gcd_zero_right] at g3
    have m3 := g3.1 ▸ L0.out
    have E := eqG (c := d3) (c' := d0) g3 g0 (by omega)
    rw [decide_eq_true (rfl)] at E
    go_wp2_with fail
    with_reducible refine (E).mono ?_
    rintro e w5 ⟨rfl, b5⟩
    replace g0 := g0.on b5
    replace g1 := g1.on b5
    replace g3 := g3.on b5
    replace b5 := next b4 b5
    clear b4
    clear E
    go_wp2
    go_ret
    exact ⟨rfl, b5⟩
  · have hz : ((k1 : Int) == 0) = false := by simp; omega
    have hY : Y ≠ 0 := by rintro rfl; have := g1.1; rw [limbs_zero] at this; exact hk1 this.symm
    have HD := Lib.hid (le_limbs (Nat.div_le_self X Y) L0.out)
    have HRm := Lib.hid (le_limbs (Nat.mod_le X Y) L0.out)
    have HMq := Lib.hid (mul_len HD.out L1.out)
    have HGp := Lib.hid (Nat.gcd_pos_of_pos_right X (Nat.pos_of_ne_zero hY))
    have HG := Lib.hid (le_limbs (Nat.gcd_le_right X (Nat.pos_of_ne_zero hY)) L1.out)
    have HE1 : Hid (X / Y * Y + X % Y = X) := Lib.hid (by rw [Nat.mul_comm]; exact Nat.div_add_mod X Y)
    go_wp2_with fail
    with_reducible refine (divG (c := d0) (c' := d1) g0 g1 (by omega) (by omega) hY).mono ?_
    rintro e w4 ⟨B3, k3, d3, B4, k4, d4, rfl, g3, g4, b4⟩
    replace g0 := g0.on b4
    replace g1 := g1.on b4
    replace b4 := next b3 b4
    clear b3
    have m3 := g3.1 ▸ HD.out
    have m4 := g4.1 ▸ HRm.out
    go_wp2_with fail
    with_reducible refine (mulG (c := d3) (c' := d1) g3 g1 (by omega) (by omega)).mono ?_
    rintro e w5 ⟨B5, k5, d5, rfl, g5, b5⟩
    replace g0 := g0.on b5
    replace g1 := g1.on b5
    replace g3 := g3.on b5
    replace g4 := g4.on b5
    replace b5 := next b4 b5
    clear b4
    have m5 := g5.1 ▸ HMq.out
    go_wp2_with fail
    with_reducible refine (addG (c := d5) (c' := d4) g5 g4 (by omega) (by omega)).mono ?_
    rintro e w6 ⟨B6, k6, d6, rfl, g6, b6⟩
    replace g0 := g0.on b6
    replace g1 := g1.on b6
    replace g3 := g3.on b6
    replace g4 := g4.on b6
    replace g5 := g5.on b6
    replace b6 := next b5 b6
    clear b5
    rw [HE1.out] at g6
    have m6 := g6.1 ▸ L0.out
    go_wp2_with fail
    with_reducible refine (gcdG (c := d0) (c' := d1) g0 g1 (by omega) (by omega)).mono ?_
    rintro e w7 ⟨B7, k7, d7, rfl, g7, b7⟩
    replace g0 := g0.on b7
    replace g1 := g1.on b7
    replace g3 := g3.on b7
    replace g4 := g4.on b7
    replace g5 := g5.on b7
    replace g6 := g6.on b7
    replace b7 := next b6 b7
    clear b6
    have m7 := g7.1 ▸ HG.out
    have hk7 : ((k7 : Int) == 0) = false := by
      simp
      rintro rfl
      have := g7.1
      rw [limbs_pos (Nat.pos_iff_ne_zero.1 HGp.out)] at this
      simp at this
    have E := eqG (c := d6) (c' := d0) g6 g0 (by omega)
    rw [decide_eq_true (rfl)] at E
    go_wp2_with fail
    with_reducible refine (E).mono ?_
    rintro e w8 ⟨rfl, b8⟩
    replace g0 := g0.on b8
    replace g1 := g1.on b8
    replace g3 := g3.on b8
    replace g4 := g4.on b8
    replace g5 := g5.on b8
    replace g6 := g6.on b8
    replace g7 := g7.on b8
    replace b8 := next b7 b8
    clear b7
    clear E
    have C := cmpG (c := d4) (c' := d1) g4 g1 (by omega) (by omega)
    rw [cmpI_less (Nat.mod_lt X (Nat.pos_of_ne_zero hY))] at C
    go_wp2_with fail
    with_reducible refine C.mono ?_
    rintro e w' ⟨rfl, rfl⟩
    clear C
    go_wp2_with fail
    with_reducible refine (divG (c := d0) (c' := d7) g0 g7 (by omega) (by omega) (Nat.pos_iff_ne_zero.1 HGp.out)).mono ?_
    rintro e w9 ⟨B8, k8, d8, B9, k9, d9, rfl, g8, g9, b9⟩
    replace g0 := g0.on b9
    replace g1 := g1.on b9
    replace g3 := g3.on b9
    replace g4 := g4.on b9
    replace g5 := g5.on b9
    replace g6 := g6.on b9
    replace g7 := g7.on b9
    replace b9 := next b8 b9
    clear b8
    rw [Nat.mod_eq_zero_of_dvd (Nat.gcd_dvd_left X Y)] at g9
    obtain rfl : k9 = 0 := by have := g9.1; rw [limbs_zero] at this; exact this.symm
    have m8 := g8.1 ▸ le_limbs (Nat.div_le_self X (Nat.gcd X Y)) L0.out
    go_wp2_with fail
    with_reducible refine (divG (c := d1) (c' := d7) g1 g7 (by omega) (by omega) (Nat.pos_iff_ne_zero.1 HGp.out)).mono ?_
    rintro e w10 ⟨B10, k10, d10, B11, k11, d11, rfl, g10, g11, b10⟩
    replace g0 := g0.on b10
    replace g1 := g1.on b10
    replace g3 := g3.on b10
    replace g4 := g4.on b10
    replace g5 := g5.on b10
    replace g6 := g6.on b10
    replace g7 := g7.on b10
    replace g8 := g8.on b10
    replace g9 := g9.on b10
    replace b10 := next b9 b10
    clear b9
    rw [Nat.mod_eq_zero_of_dvd (Nat.gcd_dvd_right X Y)] at g11
    obtain rfl : k11 = 0 := by have := g11.1; rw [limbs_zero] at this; exact this.symm
    have m10 := g10.1 ▸ le_limbs (Nat.div_le_self Y (Nat.gcd X Y)) L1.out
    go_wp2_with fail
    with_reducible refine (gcdG (c := d8) (c' := d10) g8 g10 (by omega) (by omega)).mono ?_
    rintro e w11 ⟨B12, k12, d12, rfl, g12, b11⟩
    replace g0 := g0.on b11
    replace g1 := g1.on b11
    replace g3 := g3.on b11
    replace g4 := g4.on b11
    replace g5 := g5.on b11
    replace g6 := g6.on b11
    replace g7 := g7.on b11
    replace g8 := g8.on b11
    replace g9 := g9.on b11
    replace g10 := g10.on b11
    replace g11 := g11.on b11
    replace b11 := next b10 b11
    clear b10
    rw [gcd_one hY] at g12
    have r12 := g12.2
    rw [limbs_one] at r12
    obtain rfl : k12 = 1 := by have := g12.1; rw [limbs_one] at this; exact this.symm
    go_wp2_with fail
    with_reducible refine (same_any B12 (some ⟨w11.heap.size, 0, none⟩) 1 1 d12 1 _ _ [1] [1] _ (r12.grew _) (Row.lits w11 34 #[.int .u32 1] 1 _ rfl rfl) (by decide)).mono ?_
    rintro e wz ⟨rfl, bz⟩
    replace bz := next_alloc b11 bz
    go_wp2
    go_ret
    exact ⟨rfl, bz⟩
end Go.Proofs.YtlpfcilgndbopaaDoor
