/- nat.fill: the bits of a number from one on. No walk yet: the facts on limbs. -/
import Derived.Test.YtlpfcilgndbopaaDoorNWord
namespace Go.Proofs.YtlpfcilgndbopaaDoor
open Go.RowKit

theorem cut_val (a : List Int) (k : Nat) : ∃ m, val a = low a (k + 1) + 4294967296 ^ (k + 1) * m := by
  refine ⟨val (a.drop (k + 1)), ?_⟩
  unfold low
  by_cases hk : k + 1 ≤ a.length
  · have := val_append (a.take (k + 1)) (a.drop (k + 1))
    rw [List.take_append_drop, List.length_take, Nat.min_eq_left hk] at this
    exact this
  · rw [List.take_of_length_le (by omega), List.drop_eq_nil_of_le (by omega)]
    exact (Nat.add_zero _).symm
theorem limb_quo (V L x p m : Nat) (hp : 0 < p) (h1 : L < p) (hx : x ≤ 4294967295) (hm : V = L + p * x + p * 4294967296 * m) : x = V / p % 4294967296 := by
  have hm2 : V = L + p * (x + 4294967296 * m) := by rw [hm, Nat.mul_add, Nat.mul_assoc, Nat.add_assoc]
  rw [hm2, Nat.add_mul_div_left _ _ hp, Nat.div_eq_of_lt h1, Nat.zero_add, Nat.add_mul_mod_self_left, Nat.mod_eq_of_lt (by omega)]
/-- The limb at a place, by the value. -/
theorem limb_val {a : List Int} (ha : Lim a) (k : Nat) : (a.getD k 0).toNat = val a / 4294967296 ^ k % 4294967296 := by
  obtain ⟨m, hm⟩ := cut_val a k
  rw [low_succ, Nat.pow_succ] at hm
  exact limb_quo _ _ _ _ m (Nat.pow_pos (by decide)) (low_lt ha k) (getD_nat ha k).2 hm
theorem pair_quo (V l : Nat) (hl : l < 32) : (V % 4294967296 + 4294967296 * (V / 4294967296 % 4294967296)) / 2 ^ l % 4294967296 = V / 2 ^ l % 4294967296 := by
  obtain ⟨m, hm⟩ : ∃ m, V = (V % 4294967296 + 4294967296 * (V / 4294967296 % 4294967296)) + 18446744073709551616 * m := ⟨V / 18446744073709551616, by omega⟩
  have e : 18446744073709551616 * m = 2 ^ l * (4294967296 * (2 ^ (32 - l) * m)) := by
    have e1 : 2 ^ l * 2 ^ (32 - l) = 4294967296 := by rw [← Nat.pow_add, show l + (32 - l) = 32 by omega]
    rw [Nat.mul_left_comm, ← Nat.mul_assoc (2 ^ l), e1, ← Nat.mul_assoc]
  rw [e] at hm
  generalize V % 4294967296 + 4294967296 * (V / 4294967296 % 4294967296) = U at *
  rw [hm, Nat.add_mul_div_left _ _ (Nat.pow_pos (by decide)), Nat.add_mul_mod_self_left]
/-- Two limbs side by side, shifted: a limb of the shifted value. -/
theorem pair_val {a : List Int} (ha : Lim a) (k l : Nat) (hl : l < 32) :
    ((a.getD k 0).toNat + 4294967296 * (a.getD (k + 1) 0).toNat) / 2 ^ l % 4294967296 = val a / 4294967296 ^ k / 2 ^ l % 4294967296 := by
  rw [limb_val ha k, limb_val ha (k + 1), show 4294967296 ^ (k + 1) = 4294967296 ^ k * 4294967296 from Nat.pow_succ .., ← Nat.div_div_eq_div_mul]
  exact pair_quo _ l hl
end Go.Proofs.YtlpfcilgndbopaaDoor
