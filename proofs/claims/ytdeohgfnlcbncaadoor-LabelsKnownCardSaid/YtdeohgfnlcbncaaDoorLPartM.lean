/- Parts of a set of labels: the mathematics. -/
import Derived.Test.YtdeohgfnlcbncaaDoorLTurnM
namespace Go.Proofs.YtdeohgfnlcbncaaDoor
open Go.RowKit Go.Shelf Go.Lib

theorem ord_uniq {l : List Lb} (h : Ord l) {x y : Lb} (hx : x ∈ l) (hy : y ∈ l) (e : x.1 = y.1) : x = y := by
  obtain ⟨i, hi, rfl⟩ := List.getElem_of_mem hx
  obtain ⟨j, hj, rfl⟩ := List.getElem_of_mem hy
  by_cases h2 : i = j
  · subst h2; rfl
  · have k := ord_ne h hi hj h2
    rw [List.getD_eq_getElem?_getD, List.getD_eq_getElem?_getD, List.getElem?_eq_getElem hi, List.getElem?_eq_getElem hj] at k
    exact absurd e k
theorem mem_setL {l : List Lb} (h : Ord l) (n v : ByteArray) (y : Lb) : y ∈ setL l n v ↔ (y ∈ l ∧ y.1 ≠ n) ∨ (v ≠ ByteArray.empty ∧ y = (n, v)) := by
  rw [setL, if_pos h, List.mem_append, List.mem_append, mem_lo, mem_hi]
  by_cases hv : v = ByteArray.empty
  · rw [if_pos hv]
    constructor
    · rintro ((⟨h1, h2⟩ | h1) | ⟨h1, h2⟩)
      · exact .inl ⟨h1, lt_ne h2⟩
      · cases h1
      · exact .inl ⟨h1, Ne.symm (lt_ne h2)⟩
    · rintro (⟨h1, h2⟩ | ⟨h1, h2⟩)
      · rcases lt_tri y.1 n with k | k | k
        · exact .inl (.inl ⟨h1, k⟩)
        · exact absurd k h2
        · exact .inr ⟨h1, k⟩
      · exact absurd hv h1
  · rw [if_neg hv, List.mem_singleton]
    constructor
    · rintro ((⟨h1, h2⟩ | h1) | ⟨h1, h2⟩)
      · exact .inl ⟨h1, lt_ne h2⟩
      · exact .inr ⟨hv, h1⟩
      · exact .inl ⟨h1, Ne.symm (lt_ne h2)⟩
    · rintro (⟨h1, h2⟩ | ⟨h1, h2⟩)
      · rcases lt_tri y.1 n with k | k | k
        · exact .inl (.inl ⟨h1, k⟩)
        · exact absurd k h2
        · exact .inr ⟨h1, k⟩
      · exact .inl (.inr h2)
theorem rise_setL {l : List Lb} (h : Ord l) (n v : ByteArray) : Rise (setL l n v) := by
  rw [setL, if_pos h]
  by_cases hv : v = ByteArray.empty
  · rw [if_pos hv, List.append_nil, ← pickL_drop h]
    exact h.2.filter _
  · rw [if_neg hv, List.append_assoc]
    exact rise_put h.2 (n, v)
theorem ord_setL {l : List Lb} (h : Ord l) (n v : ByteArray) : Ord (setL l n v) := by
  refine ⟨fun x hx => ?_, rise_setL h n v⟩
  rcases (mem_setL h n v x).1 hx with ⟨h1, _⟩ | ⟨h1, rfl⟩
  · exact h.1 x h1
  · exact h1
theorem getL_skip {a b : List Lb} {n : ByteArray} (h : ∀ x ∈ a, x.1 ≠ n) : getL (a ++ b) n = getL b n := by
  induction a with
  | nil => rfl
  | cons x a ih =>
    rw [List.cons_append, getL, if_neg (h x List.mem_cons_self)]
    exact ih fun y hy => h y (List.mem_cons_of_mem _ hy)
theorem get_set {l : List Lb} (h : Ord l) (n v : ByteArray) : getL (setL l n v) n = v := by
  by_cases hv : v = ByteArray.empty
  · rw [getL_none fun x hx => ?_, hv]
    rcases (mem_setL h n v x).1 hx with ⟨_, h2⟩ | ⟨h1, _⟩
    · exact h2
    · exact absurd hv h1
  · rw [setL, if_pos h, if_neg hv, List.append_assoc, getL_skip fun x hx => lt_ne (mem_lo.1 hx).2]
    rw [List.singleton_append, getL, if_pos rfl]
theorem pick_not {l : List Lb} (h : Ord l) (n : ByteArray) : pickL l (notName n) = l.filter fun x => decide (x.1 ≠ n) := by
  rw [pickL, if_pos h]; rfl
theorem get_drop {l : List Lb} (h : Ord l) (n : ByteArray) : getL (pickL l (notName n)) n = ByteArray.empty := by
  rw [pick_not h, getL_none fun x hx => by simpa using (List.mem_filter.1 hx).2]
theorem drop_set {l : List Lb} (h : Ord l) (n v : ByteArray) : pickL (setL l n v) (notName n) = pickL l (notName n) := by
  rw [pick_not (ord_setL h n v), pick_not h]
  refine rise_one ((rise_setL h n v).filter _) (h.2.filter _) fun x => ?_
  rw [List.mem_filter, List.mem_filter, mem_setL h, decide_eq_true_eq]
  constructor
  · rintro ⟨(⟨h1, _⟩ | ⟨_, rfl⟩), h2⟩
    · exact ⟨h1, h2⟩
    · exact absurd rfl h2
  · rintro ⟨h1, h2⟩
    exact ⟨.inl ⟨h1, h2⟩, h2⟩
instance memLb (x : Lb) (l : List Lb) : Decidable (x ∈ l) := decidable_of_iff (∃ y ∈ l, y = x) ⟨fun ⟨y, h, e⟩ => e ▸ h, fun h => ⟨x, h, rfl⟩⟩
/-- Those in, and the first i of those out. -/
def allT (l : List Lb) (ss : List ByteArray) (i : Nat) : List Lb := l.filter fun x => chosen ss true x.1 || decide (x ∈ (pickL l (chosen ss false)).take i)
theorem chosen_not (ss : List ByteArray) (x : ByteArray) : chosen ss false x = !chosen ss true x := by
  unfold chosen
  cases decide (x ∈ ss) <;> rfl
theorem allT_zero {l : List Lb} (h : Ord l) (ss : List ByteArray) : allT l ss 0 = pickL l (chosen ss true) := by
  rw [pickL, if_pos h]
  unfold allT
  simp
theorem allT_ord {l : List Lb} (h : Ord l) (ss : List ByteArray) (i : Nat) : Ord (allT l ss i) := h.filter _
theorem allT_next {l : List Lb} (h : Ord l) (ss : List ByteArray) {i : Nat} (hi : i < (pickL l (chosen ss false)).length) :
    setL (allT l ss i) ((pickL l (chosen ss false)).getD i noL).1 ((pickL l (chosen ss false)).getD i noL).2 = allT l ss (i + 1) := by
  have hx := getD_memL hi
  obtain ⟨x, e⟩ : ∃ x, (pickL l (chosen ss false)).getD i noL = x := ⟨_, rfl⟩
  have hO : Ord (pickL l (chosen ss false)) := by rw [pickL, if_pos h]; exact h.filter _
  have hnx : x ∉ (pickL l (chosen ss false)).take i := by
    intro hm
    obtain ⟨j, hj, e2⟩ := List.getElem_of_mem hm
    rw [List.length_take] at hj
    rw [List.getElem_take] at e2
    have k := ord_ne hO (i := j) (j := i) (by omega) hi (by omega)
    rw [e] at k
    rw [List.getD_eq_getElem?_getD, List.getElem?_eq_getElem (by omega), Option.getD_some, e2] at k
    exact k rfl
  rw [e] at hx ⊢
  have hp : x ∈ l ∧ chosen ss false x.1 = true := by
    rw [pickL, if_pos h] at hx
    exact List.mem_filter.1 hx
  have hv : x.2 ≠ ByteArray.empty := h.1 x hp.1
  refine rise_one (rise_setL (allT_ord h ss i) _ _) (allT_ord h ss (i + 1)).2 fun y => ?_
  rw [mem_setL (allT_ord h ss i)]
  unfold allT
  rw [List.mem_filter, List.mem_filter, take_snocL hi, e]
  simp only [Bool.or_eq_true, decide_eq_true_eq, List.mem_append, List.mem_singleton]
  constructor
  · rintro (⟨⟨h1, h2⟩, h3⟩ | ⟨_, rfl⟩)
    · exact ⟨h1, h2.imp id .inl⟩
    · exact ⟨hp.1, .inr (.inr rfl)⟩
  · rintro ⟨h1, h2⟩
    by_cases hy : y = x
    · exact .inr ⟨hv, by rw [hy]⟩
    · refine .inl ⟨⟨h1, ?_⟩, fun e3 => hy (ord_uniq h h1 hp.1 e3)⟩
      rcases h2 with h2 | h2 | h2
      · exact .inl h2
      · exact .inr h2
      · exact absurd h2 hy
theorem allT_all {l : List Lb} (h : Ord l) (ss : List ByteArray) : allT l ss (pickL l (chosen ss false)).length = l := by
  unfold allT
  rw [List.take_of_length_le (Nat.le_refl _)]
  refine List.filter_eq_self.2 fun x hx => ?_
  cases hc : chosen ss true x.1 with
  | true => rfl
  | false =>
    rw [Bool.false_or, decide_eq_true_eq, pickL, if_pos h]
    exact List.mem_filter.2 ⟨hx, by rw [chosen_not, hc]; rfl⟩
theorem in_not_out {l : List Lb} (h : Ord l) (ss : List ByteArray) {i : Nat} (hi : i < (pickL l (chosen ss false)).length) :
    getL (pickL l (chosen ss true)) ((pickL l (chosen ss false)).getD i noL).1 = ByteArray.empty := by
  have hx := getD_memL hi
  generalize (pickL l (chosen ss false)).getD i noL = x at *
  rw [pickL, if_pos h] at hx
  have h2 := (List.mem_filter.1 hx).2
  refine getL_none fun y hy e => ?_
  rw [pickL, if_pos h] at hy
  have h3 := (List.mem_filter.1 hy).2
  rw [chosen_not, ← e, h3] at h2
  cases h2
/-- Short labels with names that are names, in order, may be a stream's. -/
theorem chk_of {l : List Lb} (h : l.length ≤ 16) (ho : Ord l) (hn : ∀ x ∈ l, nmS x.1 = true ∧ x.2.size ≤ 256) : chkL nmS l = 0 := by
  unfold chkL; exact if_pos ⟨h, ho, hn⟩
theorem nearL_ok {x : Lb} (h : NearL x) : nmS x.1 = true ∧ x.2.size ≤ 256 := by
  obtain ⟨i, z, hi, hz, rfl⟩ := h
  refine ⟨nmI_name hi, ?_⟩
  show (repV (z : Int)).size ≤ 256
  rw [repV_size (by omega)]
  omega
theorem chk_pick {l : List Lb} (hl : l.length ≤ 8) (ho : Ord l) (hn : ∀ x ∈ l, NearL x) (p : ByteArray → Bool) : chkL nmS (pickL l p) = 0 := by
  rw [pickL, if_pos ho]
  refine chk_of (Nat.le_trans (List.length_filter_le _ _) (by omega)) (ho.filter _) fun x hx => nearL_ok (hn x (List.mem_filter.1 hx).1)
theorem pick_len (l : List Lb) (p : ByteArray → Bool) : (pickL l p).length ≤ l.length := by
  unfold pickL; split
  · exact List.length_filter_le _ _
  · exact Nat.zero_le _
theorem set_len {l : List Lb} (n v : ByteArray) : (setL l n v).length ≤ l.length + 1 := by
  unfold setL
  split
  · have h := lo_hi_len n l
    rw [List.length_append, List.length_append]
    split
    · simp only [List.length_nil]; omega
    · simp only [List.length_singleton]; omega
  · exact Nat.zero_le _
theorem chk_set {l : List Lb} (hl : l.length ≤ 8) (ho : Ord l) (hn : ∀ x ∈ l, NearL x) {i : Nat} (hi : i < 9) {v : ByteArray} (hv : v.size ≤ 256) : chkL nmS (setL l (nmI i) v) = 0 := by
  refine chk_of (Nat.le_trans (set_len _ _) (by omega)) (ord_setL ho _ _) fun x hx => ?_
  rcases (mem_setL ho _ _ x).1 hx with ⟨h1, _⟩ | ⟨_, rfl⟩
  · exact nearL_ok (hn x h1)
  · exact ⟨nmI_name hi, hv⟩
end Go.Proofs.YtdeohgfnlcbncaaDoor
