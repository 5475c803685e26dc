/- The law NatOrder, walked. -/
import Derived.Test.YtlpfcilgndbopaaDoorNLawKit
namespace Go.Proofs.YtlpfcilgndbopaaDoor
open Go.RowKit

def nearV (l : List Int) : Nat := val (l.take 16)
theorem near_len {l : List Int} (h : Lim l) : (limbs (nearV l)).length ≤ 16 := by
  refine limbs_len ?_
  have h1 := val_lt (h.take 16)
  have h2 : (l.take 16).length ≤ 16 := by rw [List.length_take]; omega
  exact Nat.lt_of_lt_of_le h1 (Nat.pow_le_pow_right (by decide) h2)
/-- near, of an argument. -/
theorem nearG {A : Option Addr} {l : List Int} {c : Nat} {w : World} (hr : Row w w.heap.size A l.length (ints .u32 l)) (hl : Lim l) (hc : l.length ≤ c) (hs : c * 4 ≤ 140737488351232) :
    Calls Tryd.prog 38 #[.slice A l.length c] w fun e w' => ∃ B m d, e = .returned (.slice B m d) ∧ m ≤ 16 ∧ Got w' (nearV l) m B ∧ Below w.heap.size w w' := by
  refine (newK _ (near_any A l.length c _ l w hr hl (by omega) hc (by omega)) rfl).mono ?_
  rintro e w' ⟨B, d, rfl, r, b⟩
  exact ⟨B, _, d, rfl, near_len hl, ⟨rfl, r⟩, b⟩
theorem lim_of_wf {l : List Int} (h : ∀ x ∈ l, (Lit.int .u32 x).wf = true) : Lim l := fun x hx => by
  simpa [Lit.wf, IntKind.min, IntKind.max, IntKind.signed, IntKind.bits] using h x hx
theorem add_len {X Y k : Nat} (hX : (limbs X).length ≤ k) (hY : (limbs Y).length ≤ k) : (limbs (X + Y)).length ≤ k + 1 := by
  refine limbs_len ?_
  have h1 := val_lt (lim_limbs X)
  have h2 := val_lt (lim_limbs Y)
  rw [val_limbs] at h1 h2
  have h3 : 4294967296 ^ (limbs X).length ≤ 4294967296 ^ k := Nat.pow_le_pow_right (by decide) hX
  have h4 : 4294967296 ^ (limbs Y).length ≤ 4294967296 ^ k := Nat.pow_le_pow_right (by decide) hY
  rw [Nat.pow_succ]
  omega
theorem mul_len {X Y k j : Nat} (hX : (limbs X).length ≤ k) (hY : (limbs Y).length ≤ j) : (limbs (X * Y)).length ≤ k + j := by
  refine limbs_len ?_
  have h1 := val_lt (lim_limbs X)
  have h2 := val_lt (lim_limbs Y)
  rw [val_limbs] at h1 h2
  have h3 : 4294967296 ^ (limbs X).length ≤ 4294967296 ^ k := Nat.pow_le_pow_right (by decide) hX
  have h4 : 4294967296 ^ (limbs Y).length ≤ 4294967296 ^ j := Nat.pow_le_pow_right (by decide) hY
  rw [Nat.pow_add]
  exact Nat.mul_lt_mul'' (by omega) (by omega)

theorem subX {A A' : Option Addr} {n c n' c' X Y : Nat} {w : World} (h : Got w X n A) (h' : Got w Y n' A') (hn : n ≤ 64) (hn' : n' ≤ 64) :
    Calls Tryd.prog 17 #[.slice A n c, .slice A' n' c'] w fun e w' => ∃ B m d, e = .returned (.tuple #[.slice B m d, .int .i64 (if X < Y then 9 else 0)]) ∧ Below w.heap.size w w' := by
  have hx := chk2_limbs (X := X) (Y := Y) (by rw [h.1]; exact hn) (by rw [h'.1]; exact hn')
  have hE : subE (limbs X) (limbs Y) = if X < Y then 9 else 0 := by rw [subE, if_neg (by rw [hx]; simp), val_limbs, val_limbs]
  refine (outK _ ⟨hE, rfl⟩ (Sub_any A A' n c n' c' _ _ w h.2 h'.2 (lim_limbs X) (lim_limbs Y)) rfl).mono ?_
  rintro e w' ⟨B, d, rfl, r, b⟩
  exact ⟨B, _, d, rfl, b⟩
theorem ord_facts (X Y Z : Nat) : ∃ (T T' S M : Int) (bb zz : Bool), cmpI X Y = T ∧ cmpI Y X = T' ∧ decide (X = Y) = bb ∧ (if X < Y then (9 : Int) else 0) = S ∧ cmpI (X + Z) (Y + Z) = T ∧ cmpI (X * Z) (Y * Z) = M ∧ decide (Z = 0) = zz ∧
    ((T = -1 ∧ T' = 1 ∧ bb = false ∧ S = 9) ∨ (T = 0 ∧ T' = 0 ∧ bb = true ∧ S = 0) ∨ (T = 1 ∧ T' = -1 ∧ bb = false ∧ S = 0)) ∧ ((zz = true ∧ M = 0) ∨ (zz = false ∧ M = T)) := by
  refine ⟨_, _, _, _, _, _, rfl, rfl, rfl, rfl, ?_, rfl, rfl, ?_, ?_⟩
  · simp only [cmpI, Nat.add_lt_add_iff_right]
  · rcases Nat.lt_trichotomy X Y with h | h | h
    · left
      simp only [cmpI, if_pos h, if_neg (show ¬ Y < X by omega)]
      simp; omega
    · right; left
      subst h
      simp [cmpI]
    · right; right
      simp only [cmpI, if_pos h, if_neg (show ¬ X < Y by omega)]
      simp; omega
  · by_cases hz : Z = 0
    · left
      subst hz
      simp [cmpI]
    · right
      have hp : 0 < Z := by omega
      refine ⟨by simp [hz], ?_⟩
      simp only [cmpI, Nat.mul_lt_mul_right hp]
set_option maxRecDepth 100000 in
set_option maxHeartbeats 2000000 in
theorem NatOrder_walk (A0 : Option Addr) (l0 : List Int) (c0 : Nat) (A1 : Option Addr) (l1 : List Int) (c1 : Nat) (A2 : Option Addr) (l2 : List Int) (c2 : Nat) (w : World)
    (hr0 : Row w w.heap.size A0 l0.length (ints .u32 l0)) (hc0 : l0.length ≤ c0) (hs0 : c0 * 4 ≤ 140737488351232) (hu0 : ∀ x ∈ l0, (Lit.int .u32 x).wf = true)
    (hr1 : Row w w.heap.size A1 l1.length (ints .u32 l1)) (hc1 : l1.length ≤ c1) (hs1 : c1 * 4 ≤ 140737488351232) (hu1 : ∀ x ∈ l1, (Lit.int .u32 x).wf = true)
    (hr2 : Row w w.heap.size A2 l2.length (ints .u32 l2)) (hc2 : l2.length ≤ c2) (hs2 : c2 * 4 ≤ 140737488351232) (hu2 : ∀ x ∈ l2, (Lit.int .u32 x).wf = true) (ht : Tab w) :
    Calls Tryd.prog 8 #[.slice A0 l0.length c0, .slice A1 l1.length c1, .slice A2 l2.length c2] w fun e w' => e = .returned (.bool true) ∧ Below w.heap.size w w' := by
  have HWk := Lib.hid (works_any w ht)
  have H0 := Lib.hid (fun (w' : World) (b : Below w.heap.size w w') => nearG (hr0.on b) (lim_of_wf hu0) hc0 hs0)
  have H1 := Lib.hid (fun (w' : World) (b : Below w.heap.size w w') => nearG (hr1.on b) (lim_of_wf hu1) hc1 hs1)
  have H2 := Lib.hid (fun (w' : World) (b : Below w.heap.size w w') => nearG (hr2.on b) (lim_of_wf hu2) hc2 hs2)
  have L0 := Lib.hid (near_len (lim_of_wf hu0))
  have L1 := Lib.hid (near_len (lim_of_wf hu1))
  have L2 := Lib.hid (near_len (lim_of_wf hu2))
  clear ht hr0 hr1 hr2 hc0 hc1 hc2 hs0 hs1 hs2 hu0 hu1 hu2
  obtain ⟨X, hX⟩ : ∃ X, nearV l0 = X := ⟨_, rfl⟩
  obtain ⟨Y, hY⟩ : ∃ Y, nearV l1 = Y := ⟨_, rfl⟩
  obtain ⟨Z, hZ⟩ : ∃ Z, nearV l2 = Z := ⟨_, rfl⟩
  rw [hX] at H0 L0
  rw [hY] at H1 L1
  rw [hZ] at H2 L2
  clear hX hY hZ
  obtain ⟨n0, hn0⟩ : ∃ n, l0.length = n := ⟨_, rfl⟩
  obtain ⟨n1, hn1⟩ : ∃ n, l1.length = n := ⟨_, rfl⟩
  obtain ⟨n2, hn2⟩ : ∃ n, l2.length = n := ⟨_, rfl⟩
  rw [hn0] at H0 ⊢
  rw [hn1] at H1 ⊢
  rw [hn2] at H2 ⊢
  clear hn0 hn1 hn2
  have LP := Lib.hid (add_len L0.out L2.out)
  have LQ := Lib.hid (add_len L1.out L2.out)
  have LR := Lib.hid (mul_len L0.out L2.out)
  have LS := Lib.hid (mul_len L1.out L2.out)
  obtain ⟨T, T', S, M, bb, zz, f1, f2, f3, f4, f5, f6, f7, hT, hM⟩ := ord_facts X Y Z
  have HF := Lib.hid (And.intro f1 (And.intro f2 (And.intro f3 (And.intro f4 (And.intro f5 (And.intro f6 f7))))))
  clear f1 f2 f3 f4 f5 f6 f7
  go_enter Tryd.func8, Tryd.ntmps8
  go_wp2_with fail
  with_reducible refine HWk.out.mono ?_
  rintro e w1 ⟨rfl, b1⟩
  go_wp2_with fail
  with_reducible refine (H0.out w1 b1).mono ?_
  rintro e w2 ⟨B0, k0, d0, rfl, m0, g0, b2⟩
  replace b2 := next b1 b2
  go_wp2_with fail
  with_reducible refine (H1.out w2 b2).mono ?_
  rintro e w3 ⟨B1, k1, d1, rfl, m1, g1, b3⟩
  replace g0 := g0.on b3
  replace b3 := next b2 b3
  go_wp2_with fail
  with_reducible refine (H2.out w3 b3).mono ?_
  rintro e w4 ⟨B2, k2, d2, rfl, m2, g2, b4⟩
  replace g0 := g0.on b4
  replace g1 := g1.on b4
  replace b4 := next b3 b4
  clear b1 b2 b3
  have C1 := cmpG (c := d0) (c' := d1) g0 g1 (by omega) (by omega)
  rw [HF.out.1] at C1
  go_wp2_with fail
  with_reducible refine C1.mono ?_
  rintro e w' ⟨rfl, rfl⟩
  have C2 := subX (c := d0) (c' := d1) g0 g1 (by omega) (by omega)
  rw [HF.out.2.2.2.1] at C2
  clear C1
  go_wp2_with fail
  with_reducible refine C2.mono ?_
  rintro e w5 ⟨B5, k5, d5, rfl, b5⟩
  replace g0 := g0.on b5
  replace g1 := g1.on b5
  replace g2 := g2.on b5
  replace b5 := next b4 b5
  clear C2 b4
  have C := addG (c := d0) (c' := d2) g0 g2 (by omega) (by omega)
  go_wp2_with fail
  with_reducible refine C.mono ?_
  rintro e w6 ⟨B6, k6, d6, rfl, g6, b6⟩
  have m6 : k6 ≤ 17 := g6.1 ▸ LP.out
  replace g0 := g0.on b6
  replace g1 := g1.on b6
  replace g2 := g2.on b6
  replace b6 := next b5 b6
  clear C b5
  have C := addG (c := d1) (c' := d2) g1 g2 (by omega) (by omega)
  go_wp2_with fail
  with_reducible refine C.mono ?_
  rintro e w7 ⟨B7, k7, d7, rfl, g7, b7⟩
  have m7 : k7 ≤ 17 := g7.1 ▸ LQ.out
  replace g0 := g0.on b7
  replace g1 := g1.on b7
  replace g2 := g2.on b7
  replace g6 := g6.on b7
  replace b7 := next b6 b7
  clear C b6
  have C := mulG (c := d0) (c' := d2) g0 g2 (by omega) (by omega)
  go_wp2_with fail
  with_reducible refine C.mono ?_
  rintro e w8 ⟨B8, k8, d8, rfl, g8, b8⟩
  have m8 : k8 ≤ 32 := g8.1 ▸ LR.out
  replace g0 := g0.on b8
  replace g1 := g1.on b8
  replace g2 := g2.on b8
  replace g6 := g6.on b8
  replace g7 := g7.on b8
  replace b8 := next b7 b8
  clear C b7
  have C := mulG (c := d1) (c' := d2) g1 g2 (by omega) (by omega)
  go_wp2_with fail
  with_reducible refine C.mono ?_
  rintro e w9 ⟨B9, k9, d9, rfl, g9, b9⟩
  have m9 : k9 ≤ 32 := g9.1 ▸ LS.out
  replace g0 := g0.on b9
  replace g1 := g1.on b9
  replace g2 := g2.on b9
  replace g6 := g6.on b9
  replace g7 := g7.on b9
  replace g8 := g8.on b9
  replace b9 := next b8 b9
  clear C b8
  have C1 := cmpG (c := d1) (c' := d0) g1 g0 (by omega) (by omega)
  rw [HF.out.2.1] at C1
  have HC1 := Lib.hid C1
  have HE := Lib.hid (fun (w' : World) (b : Below w9.heap.size w9 w') => eqG (c := d0) (c' := d1) (g0.on b) (g1.on b) (by omega))
  rw [HF.out.2.2.1] at HE
  have HC2 := Lib.hid (fun (w' : World) (b : Below w9.heap.size w9 w') => cmpG (c := d6) (c' := d7) (g6.on b) (g7.on b) (by omega) (by omega))
  rw [HF.out.2.2.2.2.1] at HC2
  have HC3 := Lib.hid (fun (w' : World) (b : Below w9.heap.size w9 w') => cmpG (c := d8) (c' := d9) (g8.on b) (g9.on b) (by omega) (by omega))
  rw [HF.out.2.2.2.2.2.1] at HC3
  have hkz : zz = true ↔ k2 = 0 := by
    rw [← HF.out.2.2.2.2.2.2, decide_eq_true_eq, ← g2.1]
    refine ⟨fun h => by rw [h, limbs_zero]; rfl, fun h => ?_⟩
    by_cases h0 : Z = 0
    · exact h0
    · rw [limbs_pos h0] at h; simp at h
  have HB9 := Lib.hid b9
  clear C1 g0 g1 g2 g6 g7 g8 g9 b9 HF HWk H0 H1 H2
  rcases hT with ⟨rfl, rfl, rfl, rfl⟩ | ⟨rfl, rfl, rfl, rfl⟩ | ⟨rfl, rfl, rfl, rfl⟩
  all_goals
    rcases hM with ⟨rfl, rfl⟩ | ⟨rfl, rfl⟩
    all_goals
      first
        | (have hk0 : ((k2 : Int) == 0) = true := by simp at hkz ⊢; exact hkz)
        | (have hk0 : ((k2 : Int) == 0) = false := by simp at hkz ⊢; exact hkz)
      clear hkz
      go_wp2_with fail
      with_reducible refine HC1.out.mono ?_
      rintro e w' ⟨rfl, rfl⟩
      go_wp2_with fail
      with_reducible refine (HE.out w9 (Below.refl _ _)).mono ?_
      rintro e w10 ⟨rfl, b10⟩
      go_wp2_with fail
      with_reducible refine (HC2.out w10 b10).mono ?_
      rintro e w' ⟨rfl, rfl⟩
      go_wp2_with fail
      with_reducible refine (HC3.out w10 b10).mono ?_
      rintro e w' ⟨rfl, rfl⟩
      go_wp2
      go_ret
      exact ⟨rfl, next HB9.out b10⟩
end Go.Proofs.YtlpfcilgndbopaaDoor
