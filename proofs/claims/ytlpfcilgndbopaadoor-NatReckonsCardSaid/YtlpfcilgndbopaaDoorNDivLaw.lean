/- The law NatDivides, walked. -/
import Derived.Test.YtlpfcilgndbopaaDoorNOrderLaw
namespace Go.Proofs.YtlpfcilgndbopaaDoor
open Go.RowKit

theorem cmpR_self (l : List Int) : (cmpR l l == 0) = true := by
  rw [cmpR, if_neg (Nat.lt_irrefl _), if_neg (Nat.lt_irrefl _), cmpI_eq]; simp
/-- Eq of two slices that read alike. -/
theorem eqSame {A A' : Option Addr} {n c n' c' : Nat} {l : List Int} {w : World} (h : Row w w.heap.size A n (ints .u32 l)) (h' : Row w w.heap.size A' n' (ints .u32 l)) (hl : Lim l) (hn : n ≤ 1000) :
    Calls Tryd.prog 21 #[.slice A n c, .slice A' n' c'] w fun e w' => e = .returned (.bool true) ∧ Below w.heap.size w w' := by
  have := Eq_any A A' n c n' c' _ _ _ w h h' hl hl (by omega)
  rw [cmpR_self] at this
  refine this.mono ?_
  rintro e w' ⟨rfl, k, rfl⟩
  exact ⟨rfl, rfl, rfl, rfl, Nat.le_refl _, fun _ _ => rfl⟩
theorem lim_quo (a b : List Int) : Lim (quoL a b) := by unfold quoL; split; exact lim_limbs _; exact Lim.nil
theorem lim_rest (a b : List Int) : Lim (restL a b) := by unfold restL; split; exact lim_limbs _; exact Lim.nil
theorem lim_gcd (a b : List Int) : Lim (gcdL a b) := by unfold gcdL; split; exact lim_limbs _; exact Lim.nil
/-- a is what may be, or the error says which. -/
def divNil (a : List Int) : Int := if chk a = 0 then 21 else chk a
theorem divE_nil (a : List Int) : divE a [] = divNil a := by
  unfold divE divNil chk2
  by_cases h : chk a = 0
  · rw [h]; rfl
  · rw [if_pos h, if_neg h, if_pos h]

set_option maxRecDepth 100000 in
set_option maxHeartbeats 2000000 in
theorem NatDivides_great (A0 : Option Addr) (l0 : List Int) (c0 : Nat) (A1 : Option Addr) (n1 c1 : Nat) (w : World)
    (hr0 : Row w w.heap.size A0 l0.length (ints .u32 l0)) (hu0 : Lim l0) (hg : 12 < l0.length ∨ 12 < n1) (ht : Tab w) :
    Calls Tryd.prog 4 #[.slice A0 l0.length c0, .slice A1 n1 c1] w fun e w' => e = .returned (.bool true) ∧ Below w.heap.size w w' := by
  have hD := divK _ _ ⟨divE_nil l0, rfl, rfl⟩ (Div_any A0 none l0.length c0 0 0 l0 [] w hr0 (Row.zero _ _ _) hu0 Lim.nil) rfl rfl
  have HC := Lib.hid (fun (w' : World) (b : Below w.heap.size w w') => rCheck_any A0 l0.length c0 _ l0 w' (hr0.on b))
  have HWk := Lib.hid (fun (w' : World) (b : Below w.heap.size w w') => works_any w' (ht.below b))
  obtain ⟨E, hE⟩ : ∃ E, chk l0 = E := ⟨_, rfl⟩
  have hN : divNil l0 = if E = 0 then 21 else E := by rw [divNil, hE]
  rw [hN] at hD
  rw [hE] at HC
  have HD := Lib.hid hD
  obtain ⟨n0, hn0⟩ : ∃ n, l0.length = n := ⟨_, rfl⟩
  rw [hn0] at HD HC hg ⊢
  clear hD hr0 hu0 ht hN hE hn0
  have hgg : (12 : Int) < (n0 : Int) ∨ ¬ (12 : Int) < (n0 : Int) ∧ (12 : Int) < (n1 : Int) := by omega
  clear hg
  have hEE : (E = 0) ∨ (E ≠ 0) := by omega
  rcases hgg with hg | ⟨hg, hg'⟩
  all_goals
    rcases hEE with h0 | h0
    · subst h0
      rw [if_pos rfl] at HD
      go_enter Tryd.func4, Tryd.ntmps4
      go_wp2_with fail
      with_reducible refine HD.out.mono ?_
      rintro e w1 ⟨B1, d1, B2, d2, rfl, r1, r2, b1⟩
      go_wp2_with fail
      with_reducible refine (HC.out w1 b1).mono ?_
      rintro e w' ⟨rfl, rfl⟩
      go_wp2_with fail
      with_reducible refine (HWk.out w1 b1).mono ?_
      rintro e w2 ⟨rfl, b2⟩
      go_wp2
      go_ret
      exact ⟨rfl, next b1 b2⟩
    · rw [if_neg h0] at HD
      have e1 : (E == 0) = false := beq_eq_false_iff_ne.2 h0
      have e2 : (E != 0) = true := by simp [h0]
      go_enter Tryd.func4, Tryd.ntmps4
      go_wp2_with fail
      with_reducible refine HD.out.mono ?_
      rintro e w1 ⟨B1, d1, B2, d2, rfl, r1, r2, b1⟩
      go_wp2_with fail
      with_reducible refine (HC.out w1 b1).mono ?_
      rintro e w' ⟨rfl, rfl⟩
      go_wp2_with fail
      with_reducible refine (HWk.out w1 b1).mono ?_
      rintro e w2 ⟨rfl, b2⟩
      go_wp2
      go_ret
      exact ⟨rfl, next b1 b2⟩
end Go.Proofs.YtlpfcilgndbopaaDoor
