/- Products, limb by limb: no world in it. -/
import Derived.Test.YtlpfcilgndbopaaDoorNRSub
namespace Go.Proofs.YtlpfcilgndbopaaDoor

theorem getD_set_ne (l : List Int) (k j : Nat) (v : Int) (h : j ≠ k) : (l.set k v).getD j 0 = l.getD j 0 := by
  rw [List.getD_eq_getElem?_getD, List.getD_eq_getElem?_getD, List.getElem?_set, if_neg (by omega)]
theorem Lim.set {l : List Int} (h : Lim l) (k : Nat) {v : Int} (h0 : 0 ≤ v) (h1 : v ≤ 4294967295) : Lim (l.set k v) := fun x hx => by
  rcases List.mem_or_eq_of_mem_set hx with hx | rfl
  · exact h x hx
  · exact ⟨h0, h1⟩
theorem val_set (l : List Int) (k : Nat) (v : Int) (hk : k < l.length) : val (l.set k v) + 4294967296 ^ k * (l.getD k 0).toNat = val l + 4294967296 ^ k * v.toNat := by
  induction l generalizing k with
  | nil => simp at hk
  | cons x xs ih =>
    cases k with
    | zero => simp [val]; omega
    | succ k =>
      have := ih k (by simpa using hk)
      rw [List.set_cons_succ, val, val, List.getD_cons_succ, Nat.pow_succ]
      have e : ∀ m : Nat, 4294967296 ^ k * 4294967296 * m = 4294967296 * (4294967296 ^ k * m) := fun m => by rw [Nat.mul_comm (4294967296 ^ k), Nat.mul_assoc]
      rw [e, e]
      omega
theorem mul_step {b P : List Int} {base i j : Nat} {x c : Int} (hb : Lim b) (hP : Lim P) (hx : 0 ≤ x) (hc : 0 ≤ c) (hk : i + j < P.length)
    (h : val P + 4294967296 ^ (i + j) * c.toNat = base + 4294967296 ^ i * (x.toNat * low b j)) :
    val (P.set (i + j) ((x * b.getD j 0 + P.getD (i + j) 0 + c) % 4294967296)) + 4294967296 ^ (i + (j + 1)) * ((x * b.getD j 0 + P.getD (i + j) 0 + c) / 4294967296).toNat = base + 4294967296 ^ i * (x.toNat * low b (j + 1)) := by
  have hy := hb.at j
  have ho := hP.at (i + j)
  have hs := val_set P (i + j) ((x * b.getD j 0 + P.getD (i + j) 0 + c) % 4294967296) hk
  rw [low_succ, ← Nat.add_assoc, Nat.pow_succ, Nat.mul_assoc]
  generalize b.getD j 0 = y at *
  generalize P.getD (i + j) 0 = o at *
  obtain ⟨xn, rfl⟩ := Int.eq_ofNat_of_zero_le hx
  obtain ⟨yn, rfl⟩ := Int.eq_ofNat_of_zero_le hy.1
  obtain ⟨on, rfl⟩ := Int.eq_ofNat_of_zero_le ho.1
  obtain ⟨cn, rfl⟩ := Int.eq_ofNat_of_zero_le hc
  have e1 : (xn : Int) * (yn : Int) + (on : Int) + (cn : Int) = ((xn * yn + on + cn : Nat) : Int) := by simp
  rw [e1] at hs ⊢
  generalize ht : xn * yn + on + cn = t at *
  have e2 : (((t : Nat) : Int) % 4294967296).toNat = t % 4294967296 := by omega
  have e3 : (((t : Nat) : Int) / 4294967296).toNat = t / 4294967296 := by omega
  rw [e2] at hs
  rw [e3]
  simp only [Int.toNat_natCast] at *
  have e4 : 4294967296 ^ i * (xn * (low b j + 4294967296 ^ j * yn)) = 4294967296 ^ i * (xn * low b j) + 4294967296 ^ (i + j) * (xn * yn) := by
    rw [Nat.mul_add, Nat.mul_add, Nat.pow_add, Nat.mul_left_comm xn (4294967296 ^ j) yn, ← Nat.mul_assoc (4294967296 ^ i) (4294967296 ^ j)]
  rw [e4]
  have e5 := congrArg (4294967296 ^ (i + j) * ·) (show t % 4294967296 + 4294967296 * (t / 4294967296) = xn * yn + on + cn by omega)
  simp only [Nat.mul_add] at e5
  omega
theorem row_end {a b P : List Int} {k m : Nat} {c : Int} (ha : Lim a) (hk : k + m < P.length) (h0 : P.getD (k + m) 0 = 0) (hm : low b m = val b)
    (h : val P + 4294967296 ^ (k + m) * c.toNat = low a k * val b + 4294967296 ^ k * ((a.getD k 0).toNat * low b m)) : val (P.set (k + m) c) = low a (k + 1) * val b := by
  have hs := val_set P (k + m) c hk
  rw [h0] at hs
  rw [hm] at h
  rw [low_succ, Nat.add_mul, Nat.mul_assoc]
  simp at hs
  omega
theorem mul_fits {x y o c : Int} (hx : 0 ≤ x ∧ x ≤ 4294967295) (hy : 0 ≤ y ∧ y ≤ 4294967295) (ho : 0 ≤ o ∧ o ≤ 4294967295) (hc : 0 ≤ c ∧ c ≤ 4294967295) :
    0 ≤ x * y ∧ x * y + o + c ≤ 18446744073709551615 ∧ (x * y + o + c) / 4294967296 ≤ 4294967295 := by
  have h1 := Int.mul_nonneg hx.1 hy.1
  have h2 := Int.mul_le_mul hx.2 hy.2 hy.1 (by omega : (0 : Int) ≤ 4294967295)
  have h3 : x * y ≤ 18446744065119617025 := by simpa using h2
  refine ⟨h1, by omega, by omega⟩
theorem getD_zeros (n j : Nat) : (List.replicate n (0 : Int)).getD j 0 = 0 := by
  rw [List.getD_eq_getElem?_getD, List.getElem?_replicate]
  by_cases h : j < n
  · rw [if_pos h]; rfl
  · rw [if_neg h]; rfl
end Go.Proofs.YtlpfcilgndbopaaDoor
