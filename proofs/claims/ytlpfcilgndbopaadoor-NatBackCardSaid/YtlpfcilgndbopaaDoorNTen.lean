/- nat.tenfold: ten times a number, and a digit, in place. -/
import Derived.Test.YtlpfcilgndbopaaDoorNRSmall
namespace Go.Proofs.YtlpfcilgndbopaaDoor
open Go.RowKit

theorem ten_alg (V p L r z d q x : Nat) (h : V + p * z = 10 * L + r) (e : d + 4294967296 * q = 10 * x + z) : V + p * d + p * (4294967296 * q) = 10 * (L + p * x) + r := by
  have e2 : p * (d + 4294967296 * q) = p * (10 * x + z) := by rw [e]
  rw [Nat.mul_add, Nat.mul_add, Nat.mul_left_comm p 10 x] at e2
  omega
theorem mod_div_nat (t : Nat) : ((t : Int) % 4294967296).toNat + 4294967296 * ((t : Int) / 4294967296).toNat = t := by
  have e2 : (((t : Nat) : Int) % 4294967296).toNat = t % 4294967296 := by omega
  have e3 : (((t : Nat) : Int) / 4294967296).toNat = t / 4294967296 := by omega
  rw [e2, e3]
  exact Nat.mod_add_div t 4294967296
theorem ten_limb (x z : Int) (hx : 0 ≤ x) (hz : 0 ≤ z) : ((x * 10 + z) % 4294967296).toNat + 4294967296 * ((x * 10 + z) / 4294967296).toNat = 10 * x.toNat + z.toNat := by
  have e : x * 10 + z = ((10 * x.toNat + z.toNat : Nat) : Int) := by omega
  rw [e]
  exact mod_div_nat _
theorem ten_step {a s : List Int} {k r : Nat} {z : Int} (ha : Lim a) (hz : 0 ≤ z) (hs : s.length = k) (h : val s + 4294967296 ^ k * z.toNat = 10 * low a k + r) :
    val (s ++ [(a.getD k 0 * 10 + z) % 4294967296]) + 4294967296 ^ (k + 1) * ((a.getD k 0 * 10 + z) / 4294967296).toNat = 10 * low a (k + 1) + r := by
  rw [val_append, val_one, hs, low_succ, Nat.pow_succ, Nat.mul_assoc]
  exact ten_alg _ _ _ _ _ _ _ _ h (ten_limb _ z (ha.at k).1 hz)
/-- The limbs behind the loop, the carry laid behind them where there is one, are the one list of the value. -/
theorem ten_end {s : List Int} {v r n : Nat} {z : Int} (hs : s.length = n) (hl : Lim s) (hn : (limbs v).length = n) (hz : 0 ≤ z ∧ z ≤ 9) (h : val s + 4294967296 ^ n * z.toNat = 10 * v + r) :
    (z = 0 → limbs (10 * v + r) = s) ∧ (0 < z → limbs (10 * v + r) = s ++ [z]) := by
  refine ⟨fun h0 => ?_, fun h0 => ?_⟩
  · subst h0
    have hv : val s = 10 * v + r := by simpa using h
    rw [← hv]
    refine limbs_val hl ?_
    intro e
    have hne : 0 < n := by
      rcases Nat.eq_zero_or_pos n with h1 | h1
      · rw [h1] at hs
        rw [List.eq_nil_of_length_eq_zero hs] at e
        cases e
      · exact h1
    obtain ⟨m, rfl⟩ : ∃ m, n = m + 1 := ⟨n - 1, by omega⟩
    have hlow := low_succ s m
    rw [low_all (by omega)] at hlow
    rw [getLast_at hs hne, Nat.add_sub_cancel] at e
    injection e with e
    rw [e] at hlow
    have h3 := low_lt hl m
    have h4 := limbs_long (n := v) (k := m) (by omega)
    simp at hlow
    omega
  · have hv : val (s ++ [z]) = 10 * v + r := by rw [val_append, val_one, hs]; exact h
    rw [← hv]
    refine limbs_val (hl.app (Lim.one hz.1 (by omega))) ?_
    unfold Top
    rw [List.getLast?_append]
    intro e
    simp at e
    omega
end Go.Proofs.YtlpfcilgndbopaaDoor
