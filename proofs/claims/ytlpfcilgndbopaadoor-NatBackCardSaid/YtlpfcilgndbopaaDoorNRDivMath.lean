/- The document's division, in numbers. No world in it. -/
import Derived.Test.YtlpfcilgndbopaaDoorNTimes
namespace Go.Proofs.YtlpfcilgndbopaaDoor
open Go.RowKit

theorem rdiv_more {A D k m : Nat} (hD : 0 < D) (hm : m = k + 1) (h : D * 2 ^ k ≤ A % (D * 2 ^ m)) :
    A % (D * 2 ^ m) - D * 2 ^ k = A % (D * 2 ^ k) ∧ A / (D * 2 ^ m) * 2 ^ m + 2 ^ k = A / (D * 2 ^ k) * 2 ^ k := by
  obtain ⟨E, hE⟩ : ∃ E, E = D * 2 ^ k := ⟨_, rfl⟩
  have hE0 : 0 < E := by rw [hE]; exact Nat.mul_pos hD (Nat.two_pow_pos k)
  have e2 : D * 2 ^ m = E * 2 := by rw [hm, Nat.pow_succ, ← Nat.mul_assoc, hE]
  rw [e2, ← hE] at h ⊢
  have h1 : A % (E * 2) < E * 2 := Nat.mod_lt _ (by omega)
  have h2 := Nat.div_add_mod A (E * 2)
  have e : A = E * (2 * (A / (E * 2)) + 1) + (A % (E * 2) - E) := by
    have : E * (2 * (A / (E * 2)) + 1) = E * 2 * (A / (E * 2)) + E := by rw [Nat.mul_add, Nat.mul_one, Nat.mul_assoc]
    omega
  have h3 : A / E = 2 * (A / (E * 2)) + 1 := by
    conv => lhs; rw [e]
    rw [Nat.mul_add_div hE0, Nat.div_eq_of_lt (show A % (E * 2) - E < E by omega), Nat.add_zero]
  have h4 : A % E = A % (E * 2) - E := by
    conv => lhs; rw [e]
    rw [Nat.mul_add_mod, Nat.mod_eq_of_lt (by omega)]
  refine ⟨h4.symm, ?_⟩
  rw [h3, hm, Nat.pow_succ, Nat.add_mul, Nat.one_mul, Nat.mul_comm 2 (A / (E * 2)), Nat.mul_assoc, Nat.mul_comm 2]
theorem rdiv_less {A D k m : Nat} (hD : 0 < D) (hm : m = k + 1) (h : A % (D * 2 ^ m) < D * 2 ^ k) :
    A % (D * 2 ^ m) = A % (D * 2 ^ k) ∧ A / (D * 2 ^ m) * 2 ^ m = A / (D * 2 ^ k) * 2 ^ k := by
  obtain ⟨E, hE⟩ : ∃ E, E = D * 2 ^ k := ⟨_, rfl⟩
  have hE0 : 0 < E := by rw [hE]; exact Nat.mul_pos hD (Nat.two_pow_pos k)
  have e2 : D * 2 ^ m = E * 2 := by rw [hm, Nat.pow_succ, ← Nat.mul_assoc, hE]
  rw [e2, ← hE] at h ⊢
  have h2 := Nat.div_add_mod A (E * 2)
  have e : A = E * (2 * (A / (E * 2))) + A % (E * 2) := by
    have : E * (2 * (A / (E * 2))) = E * 2 * (A / (E * 2)) := by rw [Nat.mul_assoc]
    omega
  have h3 : A / E = 2 * (A / (E * 2)) := by
    conv => lhs; rw [e]
    rw [Nat.mul_add_div hE0, Nat.div_eq_of_lt h, Nat.add_zero]
  have h4 : A % E = A % (E * 2) := by
    conv => lhs; rw [e]
    rw [Nat.mul_add_mod, Nat.mod_eq_of_lt h]
  refine ⟨h4.symm, ?_⟩
  rw [h3, hm, Nat.pow_succ, Nat.mul_comm 2 (A / (E * 2)), Nat.mul_assoc, Nat.mul_comm 2]
theorem rdiv_first {A D m : Nat} (hD : 0 < D) (h : A < D * 2 ^ m) : A % (D * 2 ^ m) = A ∧ A / (D * 2 ^ m) * 2 ^ m = 0 := by
  exact ⟨Nat.mod_eq_of_lt h, by rw [Nat.div_eq_of_lt h, Nat.zero_mul]⟩
theorem rdiv_start {A D m : Nat} (hD : 0 < D) (h : blen A ≤ blen D - 1 + m) : A < D * 2 ^ m := by
  have h1 := blen_lt A
  have h2 := blen_le (n := D) (by omega)
  have h3 : 2 ^ blen A ≤ 2 ^ (blen D - 1 + m) := Nat.pow_le_pow_right (by omega) h
  rw [Nat.pow_add] at h3
  have h4 : 2 ^ (blen D - 1) * 2 ^ m ≤ D * 2 ^ m := Nat.mul_le_mul_right _ h2
  omega
end Go.Proofs.YtlpfcilgndbopaaDoor
