/- Labels handed to Of in another order: the mathematics. -/
import Derived.Test.YtdeohgfnlcbncaaDoorLOrdM
namespace Go.Proofs.YtdeohgfnlcbncaaDoor
open Go.RowKit Go.Shelf Go.Lib

/-- A name that near has not. -/
def nmZ : ByteArray := ⟨#[122]⟩
theorem mod2 {a n : Nat} (h : a < 2 * n) : a % n = if a < n then a else a - n := by
  by_cases k : a < n
  · rw [if_pos k, Nat.mod_eq_of_lt k]
  · rw [if_neg k, Nat.mod_eq_sub_mod (by omega), Nat.mod_eq_of_lt (by omega)]
/-- The first j of them, turned by B, one without a value ahead of number K. -/
def turnT (l : List Lb) (B K : Nat) : Nat → List Lb
  | 0 => []
  | j + 1 => (turnT l B K j ++ if j = K then [(nmZ, ByteArray.empty)] else []) ++ [l.getD ((j + B) % l.length) noL]
theorem turn_len (l : List Lb) (B K : Nat) : ∀ j, (turnT l B K j).length = j + if K < j then 1 else 0
  | 0 => by simp [turnT]
  | j + 1 => by
    rw [turnT, List.length_append, List.length_append, turn_len l B K j]
    by_cases h : j = K
    · subst h
      rw [if_pos rfl, if_neg (by omega), if_pos (by omega)]; rfl
    · rw [if_neg h]
      by_cases k : K < j
      · rw [if_pos k, if_pos (by omega)]; simp only [List.length_nil, List.length_singleton]; try omega
      · rw [if_neg k, if_neg (by omega)]; simp only [List.length_nil, List.length_singleton]; try omega
theorem turn_mem (l : List Lb) (B K : Nat) (x : Lb) : ∀ j, x ∈ turnT l B K j ↔ (K < j ∧ x = (nmZ, ByteArray.empty)) ∨ ∃ i, i < j ∧ x = l.getD ((i + B) % l.length) noL
  | 0 => by simp [turnT]
  | j + 1 => by
    rw [turnT, List.mem_append, List.mem_append, turn_mem l B K x j, List.mem_singleton]
    constructor
    · rintro (((⟨h, e⟩ | ⟨i, h, e⟩) | h) | e)
      · exact .inl ⟨by omega, e⟩
      · exact .inr ⟨i, by omega, e⟩
      · by_cases k : j = K
        · rw [if_pos k] at h; exact .inl ⟨by omega, List.mem_singleton.1 h⟩
        · rw [if_neg k] at h; cases h
      · exact .inr ⟨j, by omega, e⟩
    · rintro (⟨h, e⟩ | ⟨i, h, e⟩)
      · by_cases k : j = K
        · rw [if_pos k]; exact .inl (.inr (List.mem_singleton.2 e))
        · exact .inl (.inl (.inl ⟨by omega, e⟩))
      · by_cases k : i = j
        · subst k; exact .inr e
        · exact .inl (.inl (.inr ⟨i, by omega, e⟩))
theorem ord_ne {l : List Lb} (h : Ord l) {i j : Nat} (hi : i < l.length) (hj : j < l.length) (hne : i ≠ j) : (l.getD i noL).1 ≠ (l.getD j noL).1 := by
  have hp := List.pairwise_iff_getElem.1 h.2
  rw [List.getD_eq_getElem?_getD, List.getD_eq_getElem?_getD, List.getElem?_eq_getElem hi, List.getElem?_eq_getElem hj]
  rcases Nat.lt_or_gt_of_ne hne with k | k
  · exact lt_ne (hp i j hi hj k)
  · exact Ne.symm (lt_ne (hp j i hj hi k))
theorem turn_dup {l : List Lb} (h : Ord l) (hz : ∀ x ∈ l, x.1 ≠ nmZ) {B K : Nat} (hB : B < l.length) : ∀ j, j ≤ l.length → noDup (turnT l B K j)
  | 0, _ => by simp [turnT, noDup]
  | j + 1, hj => by
    have ih := turn_dup h hz hB (K := K) j (by omega)
    have hidx : ∀ i, i < l.length → (i + B) % l.length < l.length := fun i _ => Nat.mod_lt _ (by omega)
    rw [turnT, noDup_snoc]
    constructor
    · by_cases k : j = K
      · rw [if_pos k, noDup_snoc]
        refine ⟨ih, fun y hy => ?_⟩
        rcases (turn_mem l B K y j).1 hy with ⟨h1, _⟩ | ⟨i, hi, rfl⟩
        · omega
        · exact hz _ (getD_memL (hidx i (by omega)))
      · rw [if_neg k, List.append_nil]; exact ih
    · intro y hy
      have hy : y = (nmZ, ByteArray.empty) ∨ ∃ i, i < j ∧ y = l.getD ((i + B) % l.length) noL := by
        rcases List.mem_append.1 hy with hy | hy
        · rcases (turn_mem l B K y j).1 hy with ⟨_, e⟩ | e
          · exact .inl e
          · exact .inr e
        · by_cases k : j = K
          · rw [if_pos k] at hy; exact .inl (List.mem_singleton.1 hy)
          · rw [if_neg k] at hy; cases hy
      rcases hy with rfl | ⟨i, hi, rfl⟩
      · exact Ne.symm (hz _ (getD_memL (hidx j (by omega))))
      · refine ord_ne h (hidx i (by omega)) (hidx j (by omega)) ?_
        rw [mod2 (by omega), mod2 (by omega)]
        split <;> split <;> omega
theorem turn_in {l : List Lb} {B K : Nat} (hB : B < l.length) (hK : K < l.length) (hv : ∀ x ∈ l, x.2 ≠ ByteArray.empty) (x : Lb) : x ∈ l ↔ x ∈ turnT l B K l.length ∧ x.2 ≠ ByteArray.empty := by
  rw [turn_mem]
  constructor
  · intro hx
    refine ⟨.inr ?_, hv x hx⟩
    obtain ⟨m, hm, e⟩ := List.getElem_of_mem hx
    refine ⟨(if B ≤ m then m - B else m + l.length - B), by split <;> omega, ?_⟩
    have hi : ((if B ≤ m then m - B else m + l.length - B) + B) % l.length = m := by
      rw [mod2 (by split <;> omega)]
      split <;> split <;> omega
    rw [hi, List.getD_eq_getElem?_getD, List.getElem?_eq_getElem hm, ← e]; rfl
  · rintro ⟨⟨_, e⟩ | ⟨i, hi, rfl⟩, h2⟩
    · subst e; exact absurd rfl h2
    · exact getD_memL (Nat.mod_lt _ (by omega))
theorem turn_of {l : List Lb} (hc : chkL nmS l = 0) (hz : ∀ x ∈ l, x.1 ≠ nmZ) {B K : Nat} (hB : B < l.length) (hK : K < l.length) : ofL nmS (turnT l B K l.length) = (l, 0) := by
  have h : l.length ≤ 16 ∧ Ord l ∧ ∀ x ∈ l, nmS x.1 = true ∧ x.2.size ≤ 256 := by
    unfold chkL at hc
    split at hc
    · assumption
    · cases hc
  have hd := turn_dup h.2.1 hz (K := K) hB l.length (Nat.le_refl _)
  have e := sortL_one hd h.2.1.2 (turn_in hB hK h.2.1.1)
  unfold ofL
  rw [if_pos hd, ← e, if_pos hc]
theorem of_nil : ofL nmS [] = ([], 0) := by
  unfold ofL
  rw [if_pos (by simp [noDup])]
  have e : sortL [] = [] := rfl
  rw [e, if_pos]
  unfold chkL
  exact if_pos ⟨by simp, Ord.nil, fun x hx => by cases hx⟩
theorem turn_twice {l : List Lb} {B K : Nat} (hB : B < l.length) (hK : K < l.length) (hv : ∀ x ∈ l, x.2 ≠ ByteArray.empty) : ofL nmS (turnT l B K l.length ++ [l.getD K noL]) = ([], 50) := by
  unfold ofL
  refine if_neg fun h => ?_
  have h := (noDup_snoc.1 h).2 (l.getD K noL) ((turn_in hB hK hv _).1 (getD_memL hK)).1
  exact h rfl
theorem near_z {l : List Lb} (h : ∀ x ∈ l, NearL x) : ∀ x ∈ l, x.1 ≠ nmZ := by
  intro x hx
  obtain ⟨i, z, hi, _, rfl⟩ := h x hx
  show nmI i ≠ nmZ
  clear hx
  rcases (by omega : i = 0 ∨ i = 1 ∨ i = 2 ∨ i = 3 ∨ i = 4 ∨ i = 5 ∨ i = 6 ∨ i = 7 ∨ i = 8) with rfl | rfl | rfl | rfl | rfl | rfl | rfl | rfl | rfl <;> decide
end Go.Proofs.YtdeohgfnlcbncaaDoor
