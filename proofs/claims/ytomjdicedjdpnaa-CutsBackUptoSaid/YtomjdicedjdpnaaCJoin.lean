/- What a prefix of a pattern has told, and what is left. -/
import Derived.Test.YtomjdicedjdpnaaCRNames
namespace Go.Proofs.Ytomjdicedjdpnaa
open Go.RowKit

def toC (l : List Lb) : List Cp := l.map fun x => (bl x.1, bl x.2)
def ofC (l : List Cp) : List Lb := l.map fun x => (ofl x.1, ofl x.2)
theorem toC_snoc (l : List Lb) (x : Lb) : toC (l ++ [x]) = toC l ++ [(bl x.1, bl x.2)] := by simp [toC]
theorem toC_len (l : List Lb) : (toC l).length = l.length := by simp [toC]
theorem ofC_toC (l : List Lb) : ofC (toC l) = l := by
  unfold ofC toC
  rw [List.map_map]
  conv => rhs; rw [← List.map_id l]
  refine List.map_congr_left fun x _ => ?_
  show (ofl (bl x.1), ofl (bl x.2)) = x
  rw [bl_inj (bl_ofl (bl_byt x.1)), bl_inj (bl_ofl (bl_byt x.2))]
/-- So far and the rest, put together. -/
def joinC (A : List Nat) (l : List Cp) (q : List Nat × List Cp) : List Nat × List Cp :=
  if l = [] then (A ++ q.1, q.2) else (A, l.dropLast ++ [((l.getLastD ([], [])).1, (l.getLastD ([], [])).2 ++ q.1)] ++ q.2)
theorem joinC_nil (A : List Nat) (q : List Nat × List Cp) : joinC A [] q = (A ++ q.1, q.2) := rfl
theorem joinC_snoc (A : List Nat) (l : List Cp) (x : Cp) (q : List Nat × List Cp) : joinC A (l ++ [x]) q = (A, l ++ [(x.1, x.2 ++ q.1)] ++ q.2) := by
  unfold joinC
  rw [if_neg (by simp), List.dropLast_concat, List.getLastD_concat]
/-- Whatever comes first, what has come so far is as long as the whole at most. -/
theorem joinC_len {A : List Nat} {l : List Cp} {q : List Nat × List Cp} {p : List Nat} (h : joinC A l q = segs 0 p) : A.length ≤ p.length ∧ l.length ≤ p.length ∧ (∀ l0 x, l = l0 ++ [x] → x.2.length ≤ p.length) := by
  have hs := segs_len 0 p
  rw [← h] at hs
  rcases List.eq_nil_or_concat l with e | ⟨t, y, e⟩
  · subst e
    rw [joinC_nil] at hs
    simp only [List.length_append] at hs
    exact ⟨by omega, by simp, fun l0 x e => by simp at e⟩
  · rw [List.concat_eq_append] at e
    subst e
    rw [joinC_snoc] at hs
    simp only [List.length_append, List.length_singleton] at hs
    refine ⟨hs.2.1, by rw [List.length_append, List.length_singleton]; omega, fun l0 x e => ?_⟩
    obtain ⟨_, e2⟩ := List.append_inj' e rfl
    injection e2 with e2
    subst e2
    have := (hs.2.2 (y.1, y.2 ++ q.1) (by simp)).2
    simp only [List.length_append] at this
    omega
theorem join_char0 {A : List Nat} {r : List Nat} (h : r ≠ []) (hc : capN r = []) : joinC (A ++ [r.headD 0]) [] (segs 0 r.tail) = joinC A [] (segs 0 r) := by
  rw [joinC_nil, joinC_nil, segs_none h hc]
  simp
theorem join_char {A : List Nat} {l : List Cp} {x : Cp} {r : List Nat} (h : r ≠ []) (hc : capN r = []) : joinC A (l ++ [(x.1, x.2 ++ [r.headD 0])]) (segs 0 r.tail) = joinC A (l ++ [x]) (segs 0 r) := by
  rw [joinC_snoc, joinC_snoc, segs_none h hc]
  simp
theorem join_cap {A : List Nat} {l : List Cp} {r : List Nat} (hc : capN r ≠ []) : joinC A (l ++ [(capN r, [])]) (segs 0 (r.drop ((capN r).length + 2))) = joinC A l (segs 0 r) := by
  rw [joinC_snoc, segs_some hc]
  rcases List.eq_nil_or_concat l with e | ⟨t, y, e⟩
  · subst e
    rw [joinC_nil]; simp
  · rw [List.concat_eq_append] at e
    subst e
    rw [joinC_snoc]; simp
/-- A capture that may not come. -/
theorem bad_cap {p A : List Nat} {l : List Cp} {r : List Nat} (hc : capN r ≠ []) (h : joinC A l (segs 0 r) = segs 0 p) (hb : ¬ ((l = [] ∨ (l.getLastD ([], [])).2 ≠ []) ∧ capN r ∉ namesC l)) : ¬ okC p := by
  rintro ⟨_, hf, _⟩
  rw [← h, ← join_cap hc, joinC_snoc] at hf
  have h2 := fineC_pre _ _ hf
  have h3 := (fineC_snoc l _).1 h2
  exact hb ⟨h3.2.1, h3.2.2⟩
theorem namesC_mem {l : List Lb} {n : ByteArray} : bl n ∈ namesC (toC l) ↔ n ≠ ⟨#[95]⟩ ∧ ∃ x ∈ l, x.1 = n := by
  unfold namesC toC
  rw [List.mem_filter, List.map_map]
  constructor
  · rintro ⟨h, k⟩
    obtain ⟨x, hx, e⟩ := List.mem_map.1 h
    refine ⟨?_, x, hx, bl_inj e⟩
    rintro rfl
    simp only [decide_eq_true_eq] at k
    exact k rfl
  · rintro ⟨h, x, hx, rfl⟩
    refine ⟨List.mem_map.2 ⟨x, hx, rfl⟩, ?_⟩
    simp only [decide_eq_true_eq]
    intro e
    exact h (bl_inj e)
theorem nmsL_names (l : List Lb) : (nmsL l).map bl = namesC (toC l) := by
  unfold nmsL namesC toC
  rw [List.map_map]
  induction l with
  | nil => rfl
  | cons x t ih =>
    simp only [List.map_cons, Function.comp_apply]
    rw [List.filter_cons, List.filter_cons]
    by_cases h : x.1 = ⟨#[95]⟩
    · have h2 : bl (⟨#[95]⟩ : ByteArray) = [95] := rfl
      simp only [h, h2, ne_eq, not_true_eq_false, decide_false]
      simpa using ih
    · have h2 : bl x.1 ≠ [95] := fun e => h (bl_inj e)
      simp only [ne_eq, h, h2, not_false_eq_true, decide_true, if_true, List.map_cons]
      rw [← ih]
end Go.Proofs.Ytomjdicedjdpnaa
