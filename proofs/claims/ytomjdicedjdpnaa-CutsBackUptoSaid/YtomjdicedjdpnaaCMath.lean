/- Patterns: the capture that bytes begin with; a pattern's pieces; what a line's parts are. -/
import Derived.Test.YtomjdicedjdpnaaLMath3
import Derived.Test.YtomjdicedjdpnaaLName
namespace Go.Proofs.Ytomjdicedjdpnaa
open Go.RowKit

/-- A text held against a constant, as a walk reads it. -/
theorem lit_eq (X : ByteArray) (l : List UInt8) : (X.toList == l) = decide (X = ⟨l.toArray⟩) := by
  have h := eq_eq X ⟨l.toArray⟩
  rwa [ByteArray.toList_eq ⟨l.toArray⟩, List.toList_toArray] at h
abbrev Cp := List Nat × List Nat
/-- The bytes ahead of the first '>'. -/
def pre62 : List Nat → List Nat
  | [] => []
  | c :: r => if c = 62 then [] else c :: pre62 r
/-- The name of the capture that bytes begin with; none: nothing. -/
def capN : List Nat → List Nat
  | [] => []
  | c :: r => if c = 60 ∧ 62 ∈ r ∧ nameB (pre62 r) = true then pre62 r else []
theorem capN_nil : capN [] = [] := rfl
theorem capN_cons (c : Nat) (r : List Nat) : capN (c :: r) = if c = 60 ∧ 62 ∈ r ∧ nameB (pre62 r) = true then pre62 r else [] := rfl
theorem pre62_split : ∀ {r : List Nat}, 62 ∈ r → ∃ t, r = pre62 r ++ 62 :: t
  | [], h => by cases h
  | c :: r, h => by
    unfold pre62
    split
    · next e => exact ⟨r, by rw [e]; rfl⟩
    · next e =>
      obtain ⟨t, ht⟩ := pre62_split (r := r) ((List.mem_cons.1 h).resolve_left (fun k => e k.symm))
      exact ⟨t, by rw [List.cons_append, ← ht]⟩
theorem pre62_no : ∀ r : List Nat, 62 ∉ pre62 r
  | [] => by simp [pre62]
  | c :: r => by
    unfold pre62
    split
    · simp
    · next e =>
      intro h
      rcases List.mem_cons.1 h with k | k
      · exact e k.symm
      · exact pre62_no r k
theorem pre62_app : ∀ {a : List Nat} (t : List Nat), 62 ∉ a → pre62 (a ++ 62 :: t) = a
  | [], t, _ => by simp [pre62]
  | c :: a, t, h => by
    have h1 : c ≠ 62 := fun e => h (by rw [e]; simp)
    rw [List.cons_append, pre62, if_neg h1, pre62_app t (fun k => h (List.mem_cons_of_mem _ k))]
/-- A capture stands as '<', its name, '>'. -/
theorem capN_shape {L : List Nat} (h : capN L ≠ []) : ∃ t, L = 60 :: (capN L ++ 62 :: t) ∧ nameB (capN L) = true := by
  cases L with
  | nil => exact absurd rfl h
  | cons c r =>
    rw [capN_cons] at h ⊢
    by_cases hc : c = 60 ∧ 62 ∈ r ∧ nameB (pre62 r) = true
    · rw [if_pos hc]
      obtain ⟨t, ht⟩ := pre62_split hc.2.1
      exact ⟨t, by rw [hc.1, ← ht], hc.2.2⟩
    · rw [if_neg hc] at h; exact absurd rfl h
theorem nameB_chars {n : List Nat} (h : nameB n = true) : n ≠ [] ∧ n.length ≤ 64 ∧ ∀ x ∈ n, x ≠ 60 ∧ x ≠ 62 ∧ x ≠ 61 := by
  unfold nameB at h
  simp only [Bool.and_eq_true, decide_eq_true_eq, List.all_eq_true] at h
  obtain ⟨⟨⟨h0, hl⟩, _⟩, ha⟩ := h
  refine ⟨h0, hl, fun x hx => ?_⟩
  have := ha x hx
  refine ⟨?_, ?_, ?_⟩ <;> (rintro rfl; revert this; decide)
theorem capN_of {n : List Nat} (t : List Nat) (h : nameB n = true) : capN (60 :: (n ++ 62 :: t)) = n := by
  have h2 : 62 ∉ n := fun k => ((nameB_chars h).2.2 62 k).2.1 rfl
  rw [capN_cons, if_pos ⟨rfl, by simp, by rw [pre62_app t h2]; exact h⟩, pre62_app t h2]
theorem capN_other {c : Nat} (r : List Nat) (h : c ≠ 60) : capN (c :: r) = [] := by rw [capN_cons, if_neg (fun k => h k.1)]
/-- The pieces of a pattern, the first k bytes left out: what stands ahead; each capture's name and what stands behind it. -/
def segs : Nat → List Nat → List Nat × List Cp
  | _, [] => ([], [])
  | k + 1, _ :: r => segs k r
  | 0, c :: r => if capN (c :: r) = [] then (c :: (segs 0 r).1, (segs 0 r).2) else ([], (capN (c :: r), (segs ((capN (c :: r)).length + 1) r).1) :: (segs ((capN (c :: r)).length + 1) r).2)
theorem segs_drop : ∀ (k : Nat) (L : List Nat), segs k L = segs 0 (L.drop k)
  | 0, L => rfl
  | k + 1, [] => by simp [segs]
  | k + 1, _ :: r => by rw [segs, List.drop_succ_cons]; exact segs_drop k r
theorem segs_none {L : List Nat} (h : L ≠ []) (hc : capN L = []) : segs 0 L = (L.headD 0 :: (segs 0 L.tail).1, (segs 0 L.tail).2) := by
  cases L with
  | nil => exact absurd rfl h
  | cons c r => rw [segs, if_pos hc]; rfl
theorem segs_some {L : List Nat} (hc : capN L ≠ []) : segs 0 L = ([], (capN L, (segs 0 (L.drop ((capN L).length + 2))).1) :: (segs 0 (L.drop ((capN L).length + 2))).2) := by
  cases L with
  | nil => exact absurd rfl hc
  | cons c r => rw [segs, if_neg hc, segs_drop, List.drop_succ_cons]
theorem segs_len : ∀ (k : Nat) (L : List Nat), (segs k L).2.length ≤ L.length ∧ (segs k L).1.length ≤ L.length ∧ ∀ x ∈ (segs k L).2, x.1.length ≤ L.length ∧ x.2.length ≤ L.length
  | _, [] => by simp [segs]
  | k + 1, c :: r => by
    have h := segs_len k r
    rw [segs]
    refine ⟨by simp; omega, by simp; omega, fun x hx => ?_⟩
    have := h.2.2 x hx
    simp; omega
  | 0, c :: r => by
    rw [segs]
    split
    · have h := segs_len 0 r
      refine ⟨by simp; omega, by simp; omega, fun x hx => ?_⟩
      have := h.2.2 x hx
      simp; omega
    · next hc =>
      have h := segs_len ((capN (c :: r)).length + 1) r
      have hn : (capN (c :: r)).length ≤ (c :: r).length := by
        obtain ⟨t, ht, _⟩ := capN_shape hc
        have := congrArg List.length ht
        simp only [List.length_cons, List.length_append] at this ⊢
        omega
      refine ⟨by simp; omega, by simp, fun x hx => ?_⟩
      rcases List.mem_cons.1 hx with rfl | hx
      · exact ⟨hn, by have := h.2.1; simp; omega⟩
      · have := h.2.2 x hx
        simp; omega
/-- The names that count. -/
def namesC (l : List Cp) : List (List Nat) := (l.map (·.1)).filter fun n => decide (n ≠ [95])
/-- What comes so far may stand: all but the last have a piece behind them; no name that counts comes twice. -/
def fineC (l : List Cp) : Prop := (∀ x ∈ l.dropLast, x.2 ≠ []) ∧ (namesC l).Nodup
instance (l : List Cp) : Decidable (fineC l) := by unfold fineC; infer_instance
/-- Is it a pattern? -/
def okC (p : List Nat) : Prop := p.length ≤ 256 ∧ fineC (segs 0 p).2 ∧ namesC (segs 0 p).2 ≠ []
instance (p : List Nat) : Decidable (okC p) := by unfold okC; infer_instance
theorem namesC_snoc (l : List Cp) (x : Cp) : namesC (l ++ [x]) = namesC l ++ (if x.1 = [95] then [] else [x.1]) := by
  unfold namesC
  rw [List.map_append, List.filter_append]
  congr 1
  by_cases h : x.1 = [95] <;> simp [h]
theorem fineC_nil : fineC [] := ⟨by simp, by simp [namesC]⟩
theorem fineC_snoc (l : List Cp) (x : Cp) : fineC (l ++ [x]) ↔ fineC l ∧ (l = [] ∨ (l.getLastD ([], [])).2 ≠ []) ∧ x.1 ∉ namesC l := by
  unfold fineC
  rw [namesC_snoc, List.dropLast_concat]
  have hl : (∀ y ∈ l, y.2 ≠ []) ↔ (∀ y ∈ l.dropLast, y.2 ≠ []) ∧ (l = [] ∨ (l.getLastD ([], [])).2 ≠ []) := by
    rcases List.eq_nil_or_concat l with h | ⟨t, y, h⟩
    · subst h; simp
    · rw [List.concat_eq_append] at h
      subst h
      rw [List.dropLast_concat, List.getLastD_concat]
      constructor
      · intro h
        exact ⟨fun z hz => h z (List.mem_append_left _ hz), .inr (h y (by simp))⟩
      · rintro ⟨h1, h2⟩ z hz
        rcases List.mem_append.1 hz with k | k
        · exact h1 z k
        · rw [List.mem_singleton.1 k]
          exact h2.resolve_left (by simp)
  rw [hl]
  have hn : (namesC l ++ (if x.1 = [95] then [] else [x.1])).Nodup ↔ (namesC l).Nodup ∧ x.1 ∉ namesC l := by
    by_cases h : x.1 = [95]
    · rw [if_pos h, List.append_nil]
      refine ⟨fun k => ⟨k, fun m => ?_⟩, fun k => k.1⟩
      unfold namesC at m
      have := (List.mem_filter.1 m).2
      rw [h] at this
      exact absurd this (by decide)
    · rw [if_neg h, List.nodup_append]
      constructor
      · rintro ⟨a, _, c⟩
        exact ⟨a, fun m => c _ m _ (by simp) rfl⟩
      · rintro ⟨a, b⟩
        exact ⟨a, by simp, fun y hy z hz e => by rw [List.mem_singleton.1 hz] at e; exact b (e ▸ hy)⟩
  rw [hn]
  constructor
  · rintro ⟨⟨a, b⟩, c, d⟩; exact ⟨⟨a, c⟩, b, d⟩
  · rintro ⟨⟨a, c⟩, b, d⟩; exact ⟨⟨a, b⟩, c, d⟩
theorem fineC_pre : ∀ (l m : List Cp), fineC (l ++ m) → fineC l
  | l, [], h => by simpa using h
  | l, x :: m, h => by
    have := fineC_pre (l ++ [x]) m (by simpa using h)
    exact ((fineC_snoc l x).1 this).1
end Go.Proofs.Ytomjdicedjdpnaa
