/- LMath2: taken over. -/
import Derived.Test.YtomjdicedjdpnaaLMath
namespace Go.Proofs.Ytomjdicedjdpnaa
open Go.RowKit

abbrev Rise (l : List Lb) : Prop := l.Pairwise fun x y => lt x.1 y.1
def lo (n : ByteArray) (l : List Lb) : List Lb := l.filter fun y => decide (lt y.1 n)
def hi (n : ByteArray) (l : List Lb) : List Lb := l.filter fun y => decide (lt n y.1)
theorem mem_lo {n : ByteArray} {l : List Lb} {x : Lb} : x ∈ lo n l ↔ x ∈ l ∧ lt x.1 n := by simp [lo]
theorem mem_hi {n : ByteArray} {l : List Lb} {x : Lb} : x ∈ hi n l ↔ x ∈ l ∧ lt n x.1 := by simp [hi]
/-- A label in its place. -/
def putL (l : List Lb) (x : Lb) : List Lb := lo x.1 l ++ x :: hi x.1 l
theorem rise_put {l : List Lb} (h : Rise l) (x : Lb) : Rise (putL l x) := by
  unfold putL Rise
  rw [List.pairwise_append, List.pairwise_cons]
  refine ⟨h.filter _, ⟨fun y hy => (mem_hi.1 hy).2, h.filter _⟩, fun a ha b hb => ?_⟩
  rcases List.mem_cons.1 hb with rfl | hb
  · exact (mem_lo.1 ha).2
  · exact lt_trans (mem_lo.1 ha).2 (mem_hi.1 hb).2
theorem mem_put {l : List Lb} {x : Lb} (hx : ∀ y ∈ l, y.1 ≠ x.1) (y : Lb) : y ∈ putL l x ↔ y = x ∨ y ∈ l := by
  unfold putL
  rw [List.mem_append, List.mem_cons, mem_lo, mem_hi]
  constructor
  · rintro (h | h | h)
    · exact .inr h.1
    · exact .inl h
    · exact .inr h.1
  · rintro (h | h)
    · exact .inr (.inl h)
    · rcases lt_tri y.1 x.1 with k | k | k
      · exact .inl ⟨h, k⟩
      · exact absurd k (hx y h)
      · exact .inr (.inr ⟨h, k⟩)
/-- In a list that rises: what stands ahead of a name, and the rest. -/
theorem rise_split {l : List Lb} (_ : Rise l) (n : ByteArray) (k : Nat) (h1 : ∀ x ∈ l.take k, lt x.1 n) (h2 : ∀ x ∈ l.drop k, ¬ lt x.1 n) : lo n l = l.take k := by
  conv => lhs; rw [← List.take_append_drop k l]
  unfold lo
  rw [List.filter_append, List.filter_eq_self.2 (fun x hx => decide_eq_true (h1 x hx)), List.filter_eq_nil_iff.2 (fun x hx => by simpa using h2 x hx), List.append_nil]
theorem rise_rest {l : List Lb} (n : ByteArray) (k : Nat) (h1 : ∀ x ∈ l.take k, ¬ lt n x.1) (h2 : ∀ x ∈ l.drop k, lt n x.1) : hi n l = l.drop k := by
  conv => lhs; rw [← List.take_append_drop k l]
  unfold hi
  rw [List.filter_append, List.filter_eq_self.2 (fun x hx => decide_eq_true (h2 x hx)), List.filter_eq_nil_iff.2 (fun x hx => by simpa using h1 x hx), List.nil_append]
/-- Without repeats of a name, with a value, in order. -/
def sortL (l : List Lb) : List Lb := (l.filter fun x => decide (x.2 ≠ ByteArray.empty)).foldl putL []
def noDup (l : List Lb) : Prop := (l.map Prod.fst).Nodup
instance (l : List Lb) : Decidable (noDup l) := by unfold noDup; infer_instance
theorem noDup_snoc {l : List Lb} {x : Lb} : noDup (l ++ [x]) ↔ noDup l ∧ ∀ y ∈ l, y.1 ≠ x.1 := by
  unfold noDup
  rw [List.map_append, List.nodup_append]
  constructor
  · rintro ⟨h1, _, h3⟩
    exact ⟨h1, fun y hy => h3 y.1 (List.mem_map_of_mem hy) x.1 (by simp)⟩
  · rintro ⟨h1, h2⟩
    refine ⟨h1, by simp, fun a ha b hb => ?_⟩
    obtain ⟨y, hy, rfl⟩ := List.mem_map.1 ha
    simp at hb
    subst hb
    exact h2 y hy
theorem sortL_snoc (l : List Lb) (x : Lb) : sortL (l ++ [x]) = if x.2 = ByteArray.empty then sortL l else putL (sortL l) x := by
  unfold sortL
  rw [List.filter_append, List.foldl_append]
  by_cases h : x.2 = ByteArray.empty
  · rw [if_pos h]; simp [h]
  · rw [if_neg h]; simp [h]
theorem sortL_mem : ∀ (n : Nat) (l : List Lb), l.length = n → noDup l → Rise (sortL l) ∧ ∀ x, x ∈ sortL l ↔ x ∈ l ∧ x.2 ≠ ByteArray.empty
  | 0, l, hl, _ => by
    have := List.eq_nil_of_length_eq_zero hl
    subst this
    exact ⟨List.Pairwise.nil, fun x => by simp [sortL]⟩
  | n + 1, l, hl, hd => by
    rcases List.eq_nil_or_concat l with h | ⟨p, x, h⟩
    · subst h; simp at hl
    rw [List.concat_eq_append] at h
    subst h
    have hp : p.length = n := by simpa using hl
    obtain ⟨hd1, hd2⟩ := noDup_snoc.1 hd
    obtain ⟨i1, i2⟩ := sortL_mem n p hp hd1
    rw [sortL_snoc]
    by_cases he : x.2 = ByteArray.empty
    · rw [if_pos he]
      refine ⟨i1, fun y => ?_⟩
      rw [i2, List.mem_append, List.mem_singleton]
      constructor
      · rintro ⟨h1, h2⟩; exact ⟨.inl h1, h2⟩
      · rintro ⟨h1 | rfl, h2⟩
        · exact ⟨h1, h2⟩
        · exact absurd he h2
    · rw [if_neg he]
      refine ⟨rise_put i1 x, fun y => ?_⟩
      rw [mem_put (fun z hz => hd2 z ((i2 z).1 hz).1), i2, List.mem_append, List.mem_singleton]
      constructor
      · rintro (rfl | ⟨h1, h2⟩)
        · exact ⟨.inr rfl, he⟩
        · exact ⟨.inl h1, h2⟩
      · rintro ⟨h1 | rfl, h2⟩
        · exact .inr ⟨h1, h2⟩
        · exact .inl rfl
theorem sortL_one {l r : List Lb} (hd : noDup l) (hr : Rise r) (hm : ∀ x, x ∈ r ↔ x ∈ l ∧ x.2 ≠ ByteArray.empty) : r = sortL l :=
  rise_one hr (sortL_mem _ l rfl hd).1 fun x => (hm x).trans ((sortL_mem _ l rfl hd).2 x).symm
/-- Set. -/
def setL (l : List Lb) (n v : ByteArray) : List Lb := if Ord l then lo n l ++ (if v = ByteArray.empty then [] else [(n, v)]) ++ hi n l else []
/-- Those that are chosen. -/
def pickL (l : List Lb) (p : ByteArray → Bool) : List Lb := if Ord l then l.filter (fun x => p x.1) else []
/-- The value of a name. -/
def getL : List Lb → ByteArray → ByteArray
  | [], _ => ByteArray.empty
  | x :: t, n => if x.1 = n then x.2 else getL t n
/-- Compare. -/
def cmpL : List Lb → List Lb → Int
  | [], [] => 0
  | [], _ :: _ => -1
  | _ :: _, [] => 1
  | x :: a, y :: b => if x.1 = y.1 then (if x.2 = y.2 then cmpL a b else if lt x.2 y.2 then -1 else 1) else if lt x.1 y.1 then -1 else 1
theorem cmpL_eq : ∀ a b : List Lb, cmpL a b = 0 ↔ a = b
  | [], [] => by simp [cmpL]
  | [], _ :: _ => by simp [cmpL]
  | _ :: _, [] => by simp [cmpL]
  | (x1, x2) :: a, (y1, y2) :: b => by
    have ih := cmpL_eq a b
    simp only [cmpL, List.cons.injEq, Prod.mk.injEq]
    by_cases h1 : x1 = y1
    · by_cases h2 : x2 = y2
      · simp [h1, h2, ih]
      · by_cases h3 : lt x2 y2 <;> simp [h1, h2, h3]
    · by_cases h3 : lt x1 y1 <;> simp [h1, h3]
theorem pickL_drop {l : List Lb} (h : Ord l) (n : ByteArray) : l.filter (fun x => decide (x.1 ≠ n)) = lo n l ++ hi n l := by
  refine rise_one (h.2.filter _) ?_ fun x => ?_
  · rw [List.pairwise_append]
    exact ⟨h.2.filter _, h.2.filter _, fun a ha b hb => lt_trans (mem_lo.1 ha).2 (mem_hi.1 hb).2⟩
  · rw [List.mem_filter, List.mem_append, mem_lo, mem_hi, decide_eq_true_eq]
    constructor
    · rintro ⟨h1, h2⟩
      rcases lt_tri x.1 n with k | k | k
      · exact .inl ⟨h1, k⟩
      · exact absurd k h2
      · exact .inr ⟨h1, k⟩
    · rintro (⟨h1, h2⟩ | ⟨h1, h2⟩)
      · exact ⟨h1, lt_ne h2⟩
      · exact ⟨h1, fun e => lt_ne h2 e.symm⟩
theorem setL_put {l : List Lb} (h : Ord l) (n v : ByteArray) (hv : v ≠ ByteArray.empty) : setL l n v = putL (l.filter fun x => decide (x.1 ≠ n)) (n, v) := by
  rw [setL, if_pos h, if_neg hv]
  unfold putL
  rw [pickL_drop h]
  have e1 : lo n (lo n l ++ hi n l) = lo n l := by
    unfold lo hi
    rw [List.filter_append, List.filter_filter, List.filter_filter]
    rw [show (l.filter fun a => decide (lt a.1 n) && decide (lt n a.1)) = [] from List.filter_eq_nil_iff.2 (fun x _ k => by simp at k; exact lt_asymm k.1 k.2)]
    simp
  have e2 : hi n (lo n l ++ hi n l) = hi n l := by
    unfold lo hi
    rw [List.filter_append, List.filter_filter, List.filter_filter]
    rw [show (l.filter fun a => decide (lt n a.1) && decide (lt a.1 n)) = [] from List.filter_eq_nil_iff.2 (fun x _ k => by simp at k; exact lt_asymm k.1 k.2)]
    simp
  dsimp only
  rw [e1, e2]
  simp
end Go.Proofs.Ytomjdicedjdpnaa
