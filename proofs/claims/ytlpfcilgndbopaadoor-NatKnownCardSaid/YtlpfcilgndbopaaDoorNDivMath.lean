/- Division by bits, in numbers and limbs. No world in it. -/
import Derived.Test.YtlpfcilgndbopaaDoorNTenW
namespace Go.Proofs.YtlpfcilgndbopaaDoor
open Go.RowKit

/-- What the rest is behind one bit more. -/
theorem div_less {A D m k X : Nat} (hD : 0 < D) (hm : m = k + 1) (hX : A / 2 ^ m = X) (hlt : 2 * (X % D) + A / 2 ^ k % 2 < D) :
    2 * (X % D) + A / 2 ^ k % 2 = A / 2 ^ k % D ∧ X / D * 2 ^ m = A / 2 ^ k / D * 2 ^ k := by
  have hT : A / 2 ^ k = 2 * X + A / 2 ^ k % 2 := by
    rw [← hX, hm, Nat.pow_succ, ← Nat.div_div_eq_div_mul]
    omega
  generalize A / 2 ^ k = T at *
  have hXD := Nat.div_add_mod X D
  have e : T = D * (2 * (X / D)) + (2 * (X % D) + T % 2) := by
    have : D * (2 * (X / D)) = 2 * (D * (X / D)) := by rw [Nat.mul_left_comm]
    omega
  have h1 : T / D = 2 * (X / D) := by
    conv => lhs; rw [e]
    rw [Nat.mul_add_div hD, Nat.div_eq_of_lt hlt, Nat.add_zero]
  have h2 : T % D = 2 * (X % D) + T % 2 := by
    conv => lhs; rw [e]
    rw [Nat.mul_add_mod, Nat.mod_eq_of_lt hlt]
  refine ⟨h2.symm, ?_⟩
  rw [h1, hm, Nat.pow_succ, Nat.mul_comm 2, Nat.mul_assoc, Nat.mul_comm 2]
theorem div_more {A D m k X : Nat} (hD : 0 < D) (hm : m = k + 1) (hX : A / 2 ^ m = X) (hge : D ≤ 2 * (X % D) + A / 2 ^ k % 2) :
    2 * (X % D) + A / 2 ^ k % 2 - D = A / 2 ^ k % D ∧ X / D * 2 ^ m + 2 ^ k = A / 2 ^ k / D * 2 ^ k := by
  have hT : A / 2 ^ k = 2 * X + A / 2 ^ k % 2 := by
    rw [← hX, hm, Nat.pow_succ, ← Nat.div_div_eq_div_mul]
    omega
  generalize A / 2 ^ k = T at *
  have hXD := Nat.div_add_mod X D
  have hr : X % D < D := Nat.mod_lt _ hD
  have hlt : 2 * (X % D) + T % 2 - D < D := by omega
  have e : T = D * (2 * (X / D) + 1) + (2 * (X % D) + T % 2 - D) := by
    have : D * (2 * (X / D) + 1) = 2 * (D * (X / D)) + D := by rw [Nat.mul_add, Nat.mul_left_comm, Nat.mul_one]
    omega
  have h1 : T / D = 2 * (X / D) + 1 := by
    conv => lhs; rw [e]
    rw [Nat.mul_add_div hD, Nat.div_eq_of_lt hlt, Nat.add_zero]
  have h2 : T % D = 2 * (X % D) + T % 2 - D := by
    conv => lhs; rw [e]
    rw [Nat.mul_add_mod, Nat.mod_eq_of_lt hlt]
  refine ⟨h2.symm, ?_⟩
  rw [h1, hm, Nat.pow_succ, Nat.add_mul, Nat.one_mul, Nat.mul_comm 2 (X / D), Nat.mul_assoc, Nat.mul_comm 2]
/-- Ahead of the first bit. -/
theorem div_first {A D f : Nat} (hD : 0 < D) (h : A < 2 ^ (f + (blen D - 1))) : A / 2 ^ f < D ∧ A / 2 ^ f % D = A / 2 ^ f ∧ A / 2 ^ f / D * 2 ^ f = 0 := by
  have h1 : A / 2 ^ f < D := by
    have h2 := blen_le (n := D) (by omega)
    have h3 : A / 2 ^ f < 2 ^ (blen D - 1) := by
      rw [Nat.div_lt_iff_lt_mul (Nat.two_pow_pos f), ← Nat.pow_add, Nat.add_comm]
      exact h
    omega
  exact ⟨h1, Nat.mod_eq_of_lt h1, by rw [Nat.div_eq_of_lt h1, Nat.zero_mul]⟩
/-- A limb of a value. -/
theorem limb_val' {a : List Int} (ha : Lim a) (i : Nat) : (a.getD i 0).toNat = val a / 4294967296 ^ i % 4294967296 := by
  have h1 : ∀ n, n = a.length → val a / 4294967296 ^ i % 4294967296 = (a.getD i 0).toNat := by
    intro n hn
    by_cases hi : i < a.length
    · have hs : val a = low a (i + 1) + 4294967296 ^ (i + 1) * val (a.drop (i + 1)) := by
        unfold low
        have := val_append (a.take (i + 1)) (a.drop (i + 1))
        rw [List.take_append_drop, List.length_take, Nat.min_eq_left (by omega)] at this
        exact this
      rw [hs, low_succ, Nat.pow_succ, Nat.mul_assoc, Nat.add_assoc, ← Nat.mul_add, Nat.add_mul_div_left _ _ (Nat.pow_pos (by omega)), Nat.div_eq_of_lt (low_lt ha i), Nat.zero_add]
      have := ha.at i
      omega
    · have hv := val_lt ha
      have hle : 4294967296 ^ a.length ≤ 4294967296 ^ i := Nat.pow_le_pow_right (by omega) (by omega)
      rw [Nat.div_eq_of_lt (by omega), List.getD_eq_getElem?_getD, List.getElem?_eq_none (by omega)]
      rfl
  exact (h1 _ rfl).symm
/-- The bit of a number, out of its limb. -/
theorem bit_val {a : List Int} (ha : Lim a) (k : Nat) : (a.getD (k / 32) 0).toNat / 2 ^ (k % 32) % 2 = val a / 2 ^ k % 2 := by
  rw [limb_val' ha]
  have hk : val a / 2 ^ k = val a / 4294967296 ^ (k / 32) / 2 ^ (k % 32) := by
    rw [Nat.div_div_eq_div_mul, pow32, ← Nat.pow_add, show 32 * (k / 32) + k % 32 = k by omega]
  rw [hk]
  generalize val a / 4294967296 ^ (k / 32) = T
  have e : (4294967296 : Nat) = 2 ^ (k % 32) * 2 ^ (32 - k % 32) := by
    rw [← Nat.pow_add, show k % 32 + (32 - k % 32) = 32 by omega]
  rw [e, Nat.mod_mul_right_div_self, show 32 - k % 32 = (31 - k % 32) + 1 by omega, Nat.pow_succ, Nat.mul_comm (2 ^ (31 - k % 32)), Nat.mod_mul_right_mod]
/-- A bit laid into a limb that is a multiple of twice as much. -/
theorem or_new (u t : Nat) : 2 ^ (t + 1) * u ||| 2 ^ t = 2 ^ (t + 1) * u + 2 ^ t :=
  (Nat.two_pow_add_eq_or_of_lt (Nat.pow_lt_pow_right (by omega) (by omega)) u).symm
/-- The quotient's limb at k / 32 has no bit at k, nor below. -/
theorem quo_limb {q : List Int} {k c : Nat} (hq : Lim q) (hv : val q = c * 2 ^ (k + 1)) : ∃ u, (q.getD (k / 32) 0).toNat = 2 ^ (k % 32 + 1) * u := by
  rw [limb_val' hq, hv, pow32]
  have e1 : (2 : Nat) ^ (k + 1) = 2 ^ (32 * (k / 32)) * 2 ^ (k % 32 + 1) := by
    rw [← Nat.pow_add]; congr 1; omega
  rw [e1, Nat.mul_left_comm, Nat.mul_div_cancel_left _ (Nat.two_pow_pos _)]
  have e2 : (4294967296 : Nat) = 2 ^ (k % 32 + 1) * 2 ^ (31 - k % 32) := by
    rw [← Nat.pow_add, show k % 32 + 1 + (31 - k % 32) = 32 by omega]
  rw [e2, Nat.mul_comm c, Nat.mul_mod_mul_left]
  exact ⟨_, rfl⟩
theorem toNat_more (x : Int) (p : Nat) (h : 0 ≤ x) : (x + (p : Int)).toNat = x.toNat + p := by omega
theorem quo_set {q : List Int} {k c : Nat} {x : Int} (hq : Lim q) (hk : k / 32 < q.length) (hv : val q = c * 2 ^ (k + 1)) (hx : q.getD (k / 32) 0 = x) :
    0 ≤ x ∧ x ≤ 4294967295 ∧ bits .or .u32 x (IntKind.u32.wrap (2 ^ (k % 32))) = x + ((2 ^ (k % 32) : Nat) : Int) ∧ x + ((2 ^ (k % 32) : Nat) : Int) ≤ 4294967295 ∧ val (q.set (k / 32) (x + ((2 ^ (k % 32) : Nat) : Int))) = val q + 2 ^ k := by
  obtain ⟨u, hu⟩ := quo_limb hq hv
  have hl := hq.at (k / 32)
  rw [hx] at hu hl
  have ht : 2 ^ (k % 32) < 2 ^ 32 := Nat.pow_lt_pow_right (by omega) (by omega)
  have hw : IntKind.u32.wrap ((2 : Int) ^ (k % 32)) = ((2 ^ (k % 32) : Nat) : Int) := by
    rw [show (2 : Int) ^ (k % 32) = ((2 ^ (k % 32) : Nat) : Int) by rw [Int.natCast_pow]; rfl]
    exact u32_wrap _ (by omega)
  have hxe : x = ((2 ^ (k % 32 + 1) * u : Nat) : Int) := by omega
  have hor : bits .or .u32 x (IntKind.u32.wrap (2 ^ (k % 32))) = x + ((2 ^ (k % 32) : Nat) : Int) := by
    rw [hw, hxe, or32 _ _ (by omega) (by omega), or_new]
    omega
  have hb : x + ((2 ^ (k % 32) : Nat) : Int) ≤ 4294967295 := by
    have h3 : 2 ^ (k % 32 + 1) * u + 2 ^ (k % 32) < 2 ^ 32 := by
      rw [← or_new]
      exact Nat.or_lt_two_pow (by omega) ht
    omega
  refine ⟨hl.1, hl.2, hor, hb, ?_⟩
  have h4 := val_set q (k / 32) (x + ((2 ^ (k % 32) : Nat) : Int)) hk
  rw [hx] at h4
  have h5 : (2 : Nat) ^ k = 4294967296 ^ (k / 32) * 2 ^ (k % 32) := by
    rw [pow32, ← Nat.pow_add, show 32 * (k / 32) + k % 32 = k by omega]
  rw [h5]
  have h6 : (x + ((2 ^ (k % 32) : Nat) : Int)).toNat = x.toNat + 2 ^ (k % 32) := toNat_more x _ hl.1
  rw [h6, Nat.mul_add] at h4
  omega
theorem lim_set {q : List Int} {i : Nat} {v : Int} (h : Lim q) (h0 : 0 ≤ v) (h1 : v ≤ 4294967295) : Lim (q.set i v) := fun x hx => by
  rcases List.mem_or_eq_of_mem_set hx with h2 | rfl
  · exact h x h2
  · exact ⟨h0, h1⟩
end Go.Proofs.YtlpfcilgndbopaaDoor
