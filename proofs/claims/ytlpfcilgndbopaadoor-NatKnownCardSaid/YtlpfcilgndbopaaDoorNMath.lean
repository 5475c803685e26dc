/- Numbers by limbs of 32 bits: the values of lists, the one list of a value. No world in it. -/
import Derived.Test.YtlpfcilgndbopaaDoorBase
namespace Go.Proofs.YtlpfcilgndbopaaDoor

/-- Each is a limb. -/
def Lim (a : List Int) : Prop := ∀ x ∈ a, 0 ≤ x ∧ x ≤ 4294967295
/-- The value of limbs, the lowest first. -/
def val : List Int → Nat
  | [] => 0
  | x :: xs => x.toNat + 4294967296 * val xs
/-- The one list of limbs without noughts at its end that has this value. -/
def limbs (n : Nat) : List Int := if h : n = 0 then [] else ((n % 4294967296 : Nat) : Int) :: limbs (n / 4294967296)
termination_by n
decreasing_by omega

theorem limbs_zero : limbs 0 = [] := by rw [limbs]; simp
theorem limbs_pos {n : Nat} (h : n ≠ 0) : limbs n = ((n % 4294967296 : Nat) : Int) :: limbs (n / 4294967296) := by rw [limbs]; simp [h]
theorem val_limbs (n : Nat) : val (limbs n) = n := by
  induction n using Nat.strongRecOn with
  | ind n ih =>
    by_cases h : n = 0
    · subst h; rw [limbs_zero]; rfl
    · rw [limbs_pos h, val, ih _ (by omega), Int.toNat_natCast]
      omega
theorem lim_limbs (n : Nat) : Lim (limbs n) := by
  induction n using Nat.strongRecOn with
  | ind n ih =>
    by_cases h : n = 0
    · subst h; rw [limbs_zero]; intro x hx; cases hx
    · rw [limbs_pos h]
      intro x hx
      rcases List.mem_cons.1 hx with rfl | hx
      · omega
      · exact ih _ (by omega) x hx
theorem Lim.tail {x : Int} {a : List Int} (h : Lim (x :: a)) : Lim a := fun y hy => h y (List.mem_cons_of_mem _ hy)
theorem Lim.head {x : Int} {a : List Int} (h : Lim (x :: a)) : 0 ≤ x ∧ x ≤ 4294967295 := h x (List.mem_cons_self ..)
theorem Lim.app {a b : List Int} (ha : Lim a) (hb : Lim b) : Lim (a ++ b) := fun x hx => (List.mem_append.1 hx).elim (ha x) (hb x)
theorem Lim.take {a : List Int} (h : Lim a) (k : Nat) : Lim (a.take k) := fun x hx => h x (List.mem_of_mem_take hx)
theorem Lim.drop {a : List Int} (h : Lim a) (k : Nat) : Lim (a.drop k) := fun x hx => h x (List.mem_of_mem_drop hx)
theorem Lim.one {x : Int} (h0 : 0 ≤ x) (h1 : x ≤ 4294967295) : Lim [x] := fun y hy => by rw [List.mem_singleton.1 hy]; exact ⟨h0, h1⟩
theorem Lim.nil : Lim [] := fun _ h => by cases h
theorem Lim.zeros (n : Nat) : Lim (List.replicate n 0) := fun x hx => by rw [(List.mem_replicate.1 hx).2]; omega
theorem Lim.at {a : List Int} (h : Lim a) (i : Nat) : 0 ≤ a.getD i 0 ∧ a.getD i 0 ≤ 4294967295 := by
  rw [List.getD_eq_getElem?_getD]
  by_cases hi : i < a.length
  · rw [List.getElem?_eq_getElem hi]; exact h _ (List.getElem_mem hi)
  · rw [List.getElem?_eq_none (by omega)]; simp

/-- No nought stands at the end. -/
def Top (a : List Int) : Prop := a.getLast? ≠ some 0
theorem Top.tail {x y : Int} {a : List Int} (h : Top (x :: y :: a)) : Top (y :: a) := by
  unfold Top at *
  rwa [List.getLast?_cons_cons] at h
theorem limbs_val {a : List Int} (h : Lim a) (ht : Top a) : limbs (val a) = a := by
  induction a with
  | nil => exact limbs_zero
  | cons x xs ih =>
    have hx := h.head
    have hxs : limbs (val xs) = xs := by
      cases xs with
      | nil => exact limbs_zero
      | cons y ys => exact ih h.tail ht.tail
    have hv : val (x :: xs) = x.toNat + 4294967296 * val xs := rfl
    have hne : val (x :: xs) ≠ 0 := by
      rw [hv]
      intro h0
      have h1 : val xs = 0 := by omega
      have h2 : x.toNat = 0 := by omega
      rw [h1, limbs_zero] at hxs
      subst hxs
      apply ht
      rw [List.getLast?_singleton]
      congr 1
      omega
    rw [limbs_pos hne, hv, show (x.toNat + 4294967296 * val xs) % 4294967296 = x.toNat by omega, show (x.toNat + 4294967296 * val xs) / 4294967296 = val xs by omega, hxs, Int.toNat_of_nonneg hx.1]
theorem limbs_top (n : Nat) : Top (limbs n) := by
  induction n using Nat.strongRecOn with
  | ind n ih =>
    by_cases h : n = 0
    · subst h; rw [limbs_zero]; simp [Top]
    · rw [limbs_pos h]
      by_cases h2 : n / 4294967296 = 0
      · rw [h2, limbs_zero]
        unfold Top
        rw [List.getLast?_singleton]
        intro e
        injection e with e
        omega
      · have := ih (n / 4294967296) (by omega)
        rw [limbs_pos h2] at this ⊢
        unfold Top at *
        rwa [List.getLast?_cons_cons]
theorem limbs_inj {n m : Nat} (h : limbs n = limbs m) : n = m := by rw [← val_limbs n, h, val_limbs]

theorem val_append (a b : List Int) : val (a ++ b) = val a + 4294967296 ^ a.length * val b := by
  induction a with
  | nil => simp [val]
  | cons x xs ih =>
    rw [List.cons_append, val, ih, val, List.length_cons, Nat.pow_succ, Nat.mul_add, Nat.mul_comm (4294967296 ^ xs.length) 4294967296, Nat.mul_assoc]
    omega
theorem val_zeros (n : Nat) : val (List.replicate n 0) = 0 := by
  induction n with
  | zero => rfl
  | succ n ih => rw [List.replicate_succ, val, ih]; rfl
theorem val_lt {a : List Int} (h : Lim a) : val a < 4294967296 ^ a.length := by
  induction a with
  | nil => simp [val]
  | cons x xs ih =>
    have h1 := ih h.tail
    have h2 := h.head
    rw [val, List.length_cons, Nat.pow_succ]
    omega
theorem val_one (x : Int) : val [x] = x.toNat := by simp [val]
/-- One limb more. -/
theorem val_take (a : List Int) (k : Nat) (h : k < a.length) : val (a.take (k + 1)) = val (a.take k) + 4294967296 ^ k * (a.getD k 0).toNat := by
  rw [List.take_succ_eq_append_getElem h, val_append, val_one, List.length_take, Nat.min_eq_left (by omega), List.getD_eq_getElem?_getD, List.getElem?_eq_getElem h, Option.getD_some]
/-- The value of the lowest limbs, those that aren't there being noughts. -/
def low (a : List Int) (k : Nat) : Nat := val (a.take k)
theorem low_zero (a : List Int) : low a 0 = 0 := by simp [low, val]
theorem low_succ (a : List Int) (k : Nat) : low a (k + 1) = low a k + 4294967296 ^ k * (a.getD k 0).toNat := by
  unfold low
  by_cases h : k < a.length
  · exact val_take a k h
  · rw [List.take_of_length_le (by omega), List.take_of_length_le (by omega), List.getD_eq_getElem?_getD, List.getElem?_eq_none (by omega)]
    simp
theorem low_all {a : List Int} {k : Nat} (h : a.length ≤ k) : low a k = val a := by unfold low; rw [List.take_of_length_le h]
theorem low_lt {a : List Int} (h : Lim a) (k : Nat) : low a k < 4294967296 ^ k := by
  unfold low
  refine Nat.lt_of_lt_of_le (val_lt (h.take k)) (Nat.pow_le_pow_right (by omega) ?_)
  rw [List.length_take]; omega
theorem getD_nat {a : List Int} (h : Lim a) (i : Nat) : ((a.getD i 0).toNat : Int) = a.getD i 0 ∧ (a.getD i 0).toNat ≤ 4294967295 := by
  have := h.at i
  omega
/-- The highest limb in which two differ tells which is less. -/
theorem low_less {a b : List Int} (ha : Lim a) (_hb : Lim b) (i : Nat) (h : a.getD i 0 < b.getD i 0) : ∀ n, i < n → (∀ j, i < j → a.getD j 0 = b.getD j 0) → low a n < low b n := by
  intro n hn he
  induction n with
  | zero => omega
  | succ n ih =>
    rw [low_succ, low_succ]
    by_cases hin : i = n
    · subst hin
      have h1 := low_lt ha i
      have h2 := getD_nat ha i
      have h4 : (a.getD i 0).toNat + 1 ≤ (b.getD i 0).toNat := by omega
      have h5 := Nat.mul_le_mul_left (4294967296 ^ i) h4
      rw [Nat.mul_add] at h5
      omega
    · have := ih (by omega)
      rw [he n (by omega)]
      omega
theorem low_same {a b : List Int} : ∀ n, (∀ j, j < n → a.getD j 0 = b.getD j 0) → low a n = low b n := by
  intro n he
  induction n with
  | zero => rw [low_zero, low_zero]
  | succ n ih => rw [low_succ, low_succ, ih fun j hj => he j (by omega), he n (by omega)]
theorem limbs_len {n k : Nat} (h : n < 4294967296 ^ k) : (limbs n).length ≤ k := by
  induction k generalizing n with
  | zero => rw [show n = 0 by simpa using h, limbs_zero]; simp
  | succ k ih =>
    by_cases h0 : n = 0
    · subst h0; rw [limbs_zero]; simp
    · rw [limbs_pos h0, List.length_cons]
      have := ih (n := n / 4294967296) (by rw [Nat.pow_succ] at h; exact Nat.div_lt_of_lt_mul (by rw [Nat.mul_comm]; exact h))
      omega
/-- What a list says of its length where no nought stands at the end. -/
theorem limbs_long {n k : Nat} (h : k < (limbs n).length) : 4294967296 ^ k ≤ n := by
  rcases Nat.lt_or_ge n (4294967296 ^ k) with h1 | h1
  · have := limbs_len h1; omega
  · exact h1
end Go.Proofs.YtlpfcilgndbopaaDoor
