/- Times a power of two, limb by limb. No world in it. -/
import Derived.Test.YtlpfcilgndbopaaDoorNRBits
namespace Go.Proofs.YtlpfcilgndbopaaDoor
open Go.RowKit

/-- A limb that has only low bits, or one that has none of them: the sum. -/
theorem or_low {c r : Nat} (hc : c < 2 ^ r) (u : Nat) : c ||| 2 ^ r * u = c + 2 ^ r * u := by
  rw [Nat.or_comm, ← Nat.two_pow_add_eq_or_of_lt hc, Nat.add_comm]
/-- One limb of the product. -/
theorem times_limb {c x r : Nat} (hc : c < 2 ^ r) (hr : r < 32) (hx : x < 4294967296) :
    x * 2 ^ r / 4294967296 < 2 ^ r ∧ c ||| (x * 2 ^ r % 4294967296) = c + x * 2 ^ r % 4294967296 ∧ c + x * 2 ^ r % 4294967296 < 4294967296 := by
  have h1 : x * 2 ^ r / 4294967296 < 2 ^ r := by
    rw [Nat.div_lt_iff_lt_mul (by omega), Nat.mul_comm (2 ^ r)]
    exact Nat.mul_lt_mul_of_pos_right hx (Nat.two_pow_pos r)
  have e : (4294967296 : Nat) = 2 ^ r * 2 ^ (32 - r) := by rw [← Nat.pow_add, show r + (32 - r) = 32 by omega]
  have h2 : x * 2 ^ r % 4294967296 = 2 ^ r * (x % 2 ^ (32 - r)) := by
    rw [e, Nat.mul_comm x, Nat.mul_mod_mul_left]
  have h3 := or_low hc (x % 2 ^ (32 - r))
  rw [← h2] at h3
  refine ⟨h1, h3, ?_⟩
  rw [← h3]
  have hp : 2 ^ r < 2 ^ 32 := Nat.pow_lt_pow_right (by omega) hr
  exact Nat.or_lt_two_pow (n := 32) (by omega) (by have := Nat.mod_lt (x * 2 ^ r) (show 0 < 4294967296 by omega); omega)
theorem times_step {P : List Int} {a : List Int} {i q r N : Nat} {c x : Int} {X : Nat} (hP : Lim P) (hN : P.length = N) (hiq : i + q + 1 < N) (hc : P.getD (i + q) 0 = c) (hc1 : c.toNat < 2 ^ r) (hz : ∀ j, i + q < j → P.getD j 0 = 0) (hr : r < 32)
    (hx : a.getD i 0 = x) (hxl : 0 ≤ x ∧ x ≤ 4294967295) (hX : X = x.toNat * 2 ^ r) (hv : val P = low a i * 2 ^ (32 * q + r)) :
    let P1 := (P.set (i + q) (c + ((X % 4294967296 : Nat) : Int))).set (i + q + 1) ((X / 4294967296 : Nat) : Int)
    P1.length = N ∧ Lim P1 ∧ val P1 = low a (i + 1) * 2 ^ (32 * q + r) ∧ P1.getD (i + 1 + q) 0 = ((X / 4294967296 : Nat) : Int) ∧ X / 4294967296 < 2 ^ r ∧ (∀ j, i + 1 + q < j → P1.getD j 0 = 0) := by
  have hcl := hP.at (i + q)
  rw [hc] at hcl
  have hxn : x.toNat < 4294967296 := by omega
  have ht := times_limb hc1 hr hxn
  rw [← hX] at ht
  have hp : (2 : Nat) ^ r < 2 ^ 32 := Nat.pow_lt_pow_right (by omega) hr
  refine ⟨by simp [hN], lim_set (lim_set hP (by omega) (by omega)) (by omega) (by omega), ?_, ?_, ht.1, ?_⟩
  · have h1 := val_set P (i + q) (c + ((X % 4294967296 : Nat) : Int)) (by omega)
    have h2 := val_set (P.set (i + q) (c + ((X % 4294967296 : Nat) : Int))) (i + q + 1) ((X / 4294967296 : Nat) : Int) (by simp; omega)
    have h3 : (P.set (i + q) (c + ((X % 4294967296 : Nat) : Int))).getD (i + q + 1) 0 = 0 := by
      rw [List.getD_eq_getElem?_getD, List.getElem?_set_ne (by omega), ← List.getD_eq_getElem?_getD]
      exact hz _ (by omega)
    rw [h3] at h2
    rw [hc, show (c + ((X % 4294967296 : Nat) : Int)).toNat = c.toNat + X % 4294967296 from toNat_more c _ hcl.1, Nat.mul_add] at h1
    rw [Int.toNat_natCast] at h2
    have h4 : 4294967296 ^ (i + q) * (X % 4294967296) + 4294967296 ^ (i + q + 1) * (X / 4294967296) = 4294967296 ^ (i + q) * X := by
      rw [Nat.pow_succ, Nat.mul_assoc, ← Nat.mul_add, Nat.mod_add_div]
    have h5 : 4294967296 ^ (i + q) * X = 4294967296 ^ i * x.toNat * 2 ^ (32 * q + r) := by
      rw [hX, Nat.pow_add, Nat.pow_add, pow32 q]
      simp only [Nat.mul_assoc, Nat.mul_comm, Nat.mul_left_comm]
    rw [low_succ, hx, Nat.add_mul, ← h5, ← hv]
    rw [Int.toNat_zero, Nat.mul_zero, Nat.add_zero] at h2
    omega
  · rw [show i + 1 + q = i + q + 1 by omega, List.getD_eq_getElem?_getD, List.getElem?_set_self (by simp; omega)]
    rfl
  · intro j hj
    rw [List.getD_eq_getElem?_getD, List.getElem?_set_ne (by omega), List.getElem?_set_ne (by omega), ← List.getD_eq_getElem?_getD]
    exact hz j (by omega)
end Go.Proofs.YtlpfcilgndbopaaDoor
