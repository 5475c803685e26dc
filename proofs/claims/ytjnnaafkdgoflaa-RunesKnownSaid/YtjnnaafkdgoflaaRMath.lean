/- Sets of runes: what a list of ranges has; the one list that may be of the same runes; how many there are. -/
import Derived.Test.YtjnnaafkdgoflaaBase
namespace Go.Proofs.Ytjnnaafkdgoflaa

abbrev Rg := Int × Int
def MaxR : Int := 1114111
def isRn (n : Int) : Prop := 0 ≤ n ∧ n ≤ 1114111
def inR (l : List Rg) (n : Int) : Prop := ∃ x ∈ l, x.1 ≤ n ∧ n ≤ x.2
def has (l : List Rg) (n : Int) : Prop := isRn n ∧ inR l n
instance (n : Int) : Decidable (isRn n) := by unfold isRn; infer_instance
instance (l : List Rg) (n : Int) : Decidable (inR l n) := by unfold inR; infer_instance
instance (l : List Rg) (n : Int) : Decidable (has l n) := by unfold has; infer_instance
theorem inR_nil (n : Int) : ¬ inR [] n := fun ⟨x, hx, _⟩ => by cases hx
theorem inR_cons (x : Rg) (l : List Rg) (n : Int) : inR (x :: l) n ↔ (x.1 ≤ n ∧ n ≤ x.2) ∨ inR l n := by
  constructor
  · rintro ⟨y, hy, h⟩
    rcases List.mem_cons.1 hy with rfl | hy
    · exact .inl h
    · exact .inr ⟨y, hy, h⟩
  · rintro (h | ⟨y, hy, h⟩)
    · exact ⟨x, List.mem_cons_self, h⟩
    · exact ⟨y, List.mem_cons_of_mem _ hy, h⟩
theorem inR_append (a b : List Rg) (n : Int) : inR (a ++ b) n ↔ inR a n ∨ inR b n := by
  constructor
  · rintro ⟨y, hy, h⟩
    rcases List.mem_append.1 hy with hy | hy
    · exact .inl ⟨y, hy, h⟩
    · exact .inr ⟨y, hy, h⟩
  · rintro (⟨y, hy, h⟩ | ⟨y, hy, h⟩)
    · exact ⟨y, List.mem_append_left _ hy, h⟩
    · exact ⟨y, List.mem_append_right _ hy, h⟩
/-- A list of ranges that may be a set. -/
def Vl (l : List Rg) : Prop := (∀ x ∈ l, 0 ≤ x.1 ∧ x.1 ≤ x.2 ∧ x.2 ≤ 1114111) ∧ l.Pairwise fun x y => x.2 + 2 ≤ y.1
theorem Vl.nil : Vl [] := ⟨fun x h => (by cases h), List.Pairwise.nil⟩
theorem Vl.tail {x : Rg} {l : List Rg} (h : Vl (x :: l)) : Vl l := ⟨fun y hy => h.1 y (List.mem_cons_of_mem _ hy), (List.pairwise_cons.1 h.2).2⟩
theorem Vl.head {x : Rg} {l : List Rg} (h : Vl (x :: l)) : 0 ≤ x.1 ∧ x.1 ≤ x.2 ∧ x.2 ≤ 1114111 := h.1 x List.mem_cons_self
theorem Vl.beyond {x : Rg} {l : List Rg} (h : Vl (x :: l)) {n : Int} (hn : inR l n) : x.2 + 2 ≤ n := by
  obtain ⟨y, hy, h1, _⟩ := hn
  have := (List.pairwise_cons.1 h.2).1 y hy
  omega
theorem Vl.rune {l : List Rg} (h : Vl l) {n : Int} (hn : inR l n) : isRn n := by
  obtain ⟨y, hy, h1, h2⟩ := hn
  have := h.1 y hy
  exact ⟨by omega, by omega⟩
theorem Vl.snoc {l : List Rg} {x : Rg} (h : Vl l) (hx : 0 ≤ x.1 ∧ x.1 ≤ x.2 ∧ x.2 ≤ 1114111) (hl : ∀ y ∈ l, y.2 + 2 ≤ x.1) : Vl (l ++ [x]) := by
  refine ⟨fun y hy => ?_, ?_⟩
  · rcases List.mem_append.1 hy with hy | hy
    · exact h.1 y hy
    · rw [List.mem_singleton.1 hy]; exact hx
  · rw [List.pairwise_append]
    exact ⟨h.2, List.pairwise_singleton _ _, fun a ha b hb => by rw [List.mem_singleton.1 hb]; exact hl a ha⟩
theorem Vl.front {l : List Rg} {x : Rg} (h : Vl (l ++ [x])) : Vl l ∧ (0 ≤ x.1 ∧ x.1 ≤ x.2 ∧ x.2 ≤ 1114111) ∧ ∀ y ∈ l, y.2 + 2 ≤ x.1 := by
  have hp := List.pairwise_append.1 h.2
  exact ⟨⟨fun y hy => h.1 y (List.mem_append_left _ hy), hp.1⟩, h.1 x (by simp), fun y hy => hp.2.2 y hy x (by simp)⟩
/-- There is one such list at most of the same runes. -/
theorem Vl.one : ∀ {a b : List Rg}, Vl a → Vl b → (∀ n, inR a n ↔ inR b n) → a = b
  | [], [], _, _, _ => rfl
  | [], y :: t, _, hb, h => absurd ((h y.1).2 ((inR_cons _ _ _).2 (.inl ⟨Int.le_refl _, hb.head.2.1⟩))) (inR_nil _)
  | x :: s, [], ha, _, h => absurd ((h x.1).1 ((inR_cons _ _ _).2 (.inl ⟨Int.le_refl _, ha.head.2.1⟩))) (inR_nil _)
  | x :: s, y :: t, ha, hb, h => by
    have hx := ha.head
    have hy := hb.head
    have k1 := (inR_cons y t x.1).1 ((h x.1).1 ((inR_cons _ _ _).2 (.inl ⟨Int.le_refl _, hx.2.1⟩)))
    have k2 := (inR_cons x s y.1).1 ((h y.1).2 ((inR_cons _ _ _).2 (.inl ⟨Int.le_refl _, hy.2.1⟩)))
    have e1 : x.1 = y.1 := by
      rcases k1 with k1 | k1 <;> rcases k2 with k2 | k2
      · omega
      · have := ha.beyond k2; omega
      · have := hb.beyond k1; omega
      · have := ha.beyond k2; have := hb.beyond k1; omega
    have e2 : x.2 = y.2 := by
      refine Int.le_antisymm (Int.not_lt.1 fun hlt => ?_) (Int.not_lt.1 fun hlt => ?_)
      · rcases (inR_cons y t (y.2 + 1)).1 ((h (y.2 + 1)).1 ((inR_cons _ _ _).2 (.inl ⟨by omega, by omega⟩))) with k | k
        · omega
        · have := hb.beyond k; omega
      · rcases (inR_cons x s (x.2 + 1)).1 ((h (x.2 + 1)).2 ((inR_cons _ _ _).2 (.inl ⟨by omega, by omega⟩))) with k | k
        · omega
        · have := ha.beyond k; omega
    have e3 : s = t := Vl.one ha.tail hb.tail fun n => by
      constructor
      · intro k
        have := ha.beyond k
        rcases (inR_cons y t n).1 ((h n).1 ((inR_cons _ _ _).2 (.inr k))) with k2 | k2
        · omega
        · exact k2
      · intro k
        have := hb.beyond k
        rcases (inR_cons x s n).1 ((h n).2 ((inR_cons _ _ _).2 (.inr k))) with k2 | k2
        · omega
        · exact k2
    obtain ⟨x1, x2⟩ := x
    obtain ⟨y1, y2⟩ := y
    dsimp only at e1 e2
    rw [e1, e2, e3]
/-- A list that may be, of the runes of which S speaks. -/
def Of (S : Int → Prop) (l : List Rg) : Prop := Vl l ∧ ∀ n, inR l n ↔ S n
theorem Of.one {S : Int → Prop} {a b : List Rg} (ha : Of S a) (hb : Of S b) : a = b := Vl.one ha.1 hb.1 fun n => (ha.2 n).trans (hb.2 n).symm
theorem Of.one' {S T : Int → Prop} {a b : List Rg} (ha : Of S a) (hb : Of T b) (h : ∀ n, S n ↔ T n) : a = b := Vl.one ha.1 hb.1 fun n => (ha.2 n).trans ((h n).trans (hb.2 n).symm)
theorem Of.same {S T : Int → Prop} {a : List Rg} (ha : Of S a) (h : ∀ n, S n ↔ T n) : Of T a := ⟨ha.1, fun n => (ha.2 n).trans (h n)⟩
theorem Of.has {S : Int → Prop} {a : List Rg} (ha : Of S a) (n : Int) : has a n ↔ S n := ⟨fun h => (ha.2 n).1 h.2, fun h => ⟨ha.1.rune ((ha.2 n).2 h), (ha.2 n).2 h⟩⟩
/-- How many runes a list's ranges have, if it may be. -/
def sizeR (l : List Rg) : Int := (l.map fun x => x.2 - x.1 + 1).sum
theorem sizeR_cons (x : Rg) (l : List Rg) : sizeR (x :: l) = (x.2 - x.1 + 1) + sizeR l := by simp [sizeR]
theorem sizeR_snoc (l : List Rg) (x : Rg) : sizeR (l ++ [x]) = sizeR l + (x.2 - x.1 + 1) := by simp [sizeR]
def cnt (p : Int → Bool) : Nat → Nat
  | 0 => 0
  | n + 1 => cnt p n + (if p n then 1 else 0)
theorem cnt_or (p q : Int → Bool) : ∀ n, cnt (fun i => p i || q i) n + cnt (fun i => p i && q i) n = cnt p n + cnt q n
  | 0 => rfl
  | n + 1 => by
    have := cnt_or p q n
    simp only [cnt]
    rcases Bool.eq_false_or_eq_true (p n) with hp | hp <;> rcases Bool.eq_false_or_eq_true (q n) with hq | hq <;> simp [hp, hq] <;> omega
theorem cnt_not (p : Int → Bool) : ∀ n, cnt p n + cnt (fun i => !p i) n = n
  | 0 => rfl
  | n + 1 => by
    have := cnt_not p n
    simp only [cnt]
    rcases Bool.eq_false_or_eq_true (p n) with hp | hp <;> simp [hp] <;> omega
theorem cnt_congr {p q : Int → Bool} : ∀ n : Nat, (∀ i : Nat, i < n → p i = q i) → cnt p n = cnt q n
  | 0, _ => rfl
  | n + 1, h => by
    simp only [cnt]
    rw [cnt_congr n (fun i hi => h i (by omega)), h n (by omega)]
theorem cnt_none : ∀ n, cnt (fun _ => false) n = 0
  | 0 => rfl
  | n + 1 => by
    have := cnt_none n
    simp only [cnt, this]
    simp
theorem cnt_range (a b : Int) (h0 : 0 ≤ a) : ∀ n : Nat, (cnt (fun i => decide (a ≤ i ∧ i ≤ b)) n : Int) = max 0 (min (n : Int) (b + 1) - a)
  | 0 => by simp only [cnt]; omega
  | n + 1 => by
    have := cnt_range a b h0 n
    simp only [cnt]
    split
    · rename_i h
      have := of_decide_eq_true h
      push_cast
      omega
    · rename_i h
      have : ¬ (a ≤ (n : Int) ∧ (n : Int) ≤ b) := fun k => h (decide_eq_true k)
      push_cast
      omega
theorem size_cnt : ∀ {l : List Rg}, Vl l → sizeR l = (cnt (fun i => decide (inR l i)) 1114112 : Int)
  | [], _ => by
    have h : cnt (fun i => decide (inR [] i)) 1114112 = 0 := by
      rw [cnt_congr (q := fun _ => false) _ fun i _ => decide_eq_false (inR_nil _), cnt_none]
    rw [h]; rfl
  | x :: t, h => by
    have hx := h.head
    have ht := size_cnt h.tail
    have e1 : cnt (fun i => decide (inR (x :: t) i)) 1114112 = cnt (fun i => decide (x.1 ≤ i ∧ i ≤ x.2) || decide (inR t i)) 1114112 := cnt_congr _ fun i _ => by
      rw [← Bool.decide_or]; exact decide_eq_decide.2 (inR_cons x t i)
    have e2 : cnt (fun i => decide (x.1 ≤ i ∧ i ≤ x.2) && decide (inR t i)) 1114112 = 0 := by
      rw [cnt_congr (q := fun _ => false) _ fun i _ => ?_, cnt_none]
      rw [← Bool.decide_and]
      exact decide_eq_false fun k => by have := h.beyond k.2; omega
    have e3 := cnt_or (fun i => decide (x.1 ≤ i ∧ i ≤ x.2)) (fun i => decide (inR t i)) 1114112
    have e4 := cnt_range x.1 x.2 hx.1 1114112
    rw [sizeR_cons, ht, e1]
    rw [e2] at e3
    omega
theorem Of.size {S : Int → Prop} [DecidablePred S] {a : List Rg} (ha : Of S a) : sizeR a = (cnt (fun i => decide (S i)) 1114112 : Int) := by
  rw [size_cnt ha.1, cnt_congr (q := fun i => decide (S i)) _ fun i _ => decide_eq_decide.2 (ha.2 i)]
end Go.Proofs.Ytjnnaafkdgoflaa
