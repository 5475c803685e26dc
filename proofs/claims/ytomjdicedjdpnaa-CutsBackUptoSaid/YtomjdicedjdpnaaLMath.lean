/- LMath: taken over. -/
import Derived.Test.YtomjdicedjdpnaaBase
import Derived.Sort.Walk0
import Derived.Lib.Bytealg
namespace Go.Proofs.Ytomjdicedjdpnaa
open Go.RowKit

abbrev Lb := ByteArray × ByteArray
/-- Bytes before bytes. -/
def lt (a b : ByteArray) : Prop := a.toList < b.toList
instance (a b : ByteArray) : Decidable (lt a b) := by unfold lt; infer_instance
theorem less_lt (a b : ByteArray) : Op.bytesLess a.toList b.toList = decide (lt a b) := bytesLess_eq _ _
theorem lt_irrefl (a : ByteArray) : ¬ lt a a := List.lt_irrefl _
theorem lt_trans {a b c : ByteArray} (h : lt a b) (k : lt b c) : lt a c := List.lt_trans h k
theorem toList_inj {a b : ByteArray} (h : a.toList = b.toList) : a = b := by
  rw [ByteArray.toList_eq, ByteArray.toList_eq] at h
  exact ByteArray.ext (Array.toList_inj.1 h)
theorem lt_tri (a b : ByteArray) : lt a b ∨ a = b ∨ lt b a := by
  by_cases h : lt a b
  · exact .inl h
  · by_cases k : lt b a
    · exact .inr (.inr k)
    · exact .inr (.inl (toList_inj (List.le_antisymm (List.not_lt.1 k) (List.not_lt.1 h))))
theorem lt_ne {a b : ByteArray} (h : lt a b) : a ≠ b := fun e => lt_irrefl b (e ▸ h)
theorem lt_asymm {a b : ByteArray} (h : lt a b) : ¬ lt b a := fun k => lt_irrefl a (lt_trans h k)
theorem eq_eq (a b : ByteArray) : (a.toList == b.toList) = decide (a = b) := by
  by_cases h : a = b
  · subst h; simp
  · rw [decide_eq_false h]
    exact beq_eq_false_iff_ne.2 fun k => h (toList_inj k)
theorem cmpB_lt : ∀ a b : List UInt8, Lib.compareBytes a b = if a < b then -1 else if a = b then 0 else 1
  | [], [] => by simp [Lib.compareBytes]
  | [], _ :: _ => by simp [Lib.compareBytes]
  | _ :: _, [] => by simp [Lib.compareBytes]
  | x :: a, y :: b => by
    have ih := cmpB_lt a b
    unfold Lib.compareBytes
    by_cases h1 : x < y
    · have hlt : (x :: a) < (y :: b) := List.cons_lt_cons_iff.2 (.inl h1)
      rw [if_pos h1, if_pos hlt]
    · by_cases h2 : y < x
      · have hne : x ≠ y := fun e => by subst e; exact h1 h2
        simp [h1, h2, List.cons_lt_cons_iff, hne]
      · have e : x = y := UInt8.le_antisymm (UInt8.not_lt.1 h2) (UInt8.not_lt.1 h1)
        subst e
        simp [ih]
theorem lt_data (a b : ByteArray) : lt a b ↔ a.data.toList < b.data.toList := by
  unfold lt
  rw [ByteArray.toList_eq, ByteArray.toList_eq]
theorem cmp_lt (a b : ByteArray) : Lib.compareBytes a.data.toList b.data.toList = if lt a b then -1 else if a = b then 0 else 1 := by
  rw [cmpB_lt]
  by_cases h : lt a b
  · rw [if_pos h, if_pos ((lt_data a b).1 h)]
  · rw [if_neg h, if_neg (fun k => h ((lt_data a b).2 k))]
    by_cases k : a = b
    · rw [if_pos k, if_pos (by rw [k])]
    · rw [if_neg k, if_neg (fun e => k (ByteArray.ext (Array.toList_inj.1 e)))]
/-- In order. -/
def Ord (l : List Lb) : Prop := (∀ x ∈ l, x.2 ≠ ByteArray.empty) ∧ l.Pairwise fun x y => lt x.1 y.1
instance (l : List Lb) : Decidable (Ord l) := by unfold Ord; infer_instance
theorem Ord.nil : Ord [] := ⟨fun x h => (by cases h), List.Pairwise.nil⟩
theorem Ord.tail {x : Lb} {l : List Lb} (h : Ord (x :: l)) : Ord l := ⟨fun y hy => h.1 y (List.mem_cons_of_mem _ hy), (List.pairwise_cons.1 h.2).2⟩
theorem Ord.filter {l : List Lb} (p : Lb → Bool) (h : Ord l) : Ord (l.filter p) := ⟨fun x hx => h.1 x ((List.mem_filter.1 hx).1), h.2.filter p⟩
theorem Ord.front {l : List Lb} {x : Lb} (h : Ord (l ++ [x])) : Ord l ∧ x.2 ≠ ByteArray.empty ∧ ∀ y ∈ l, lt y.1 x.1 := by
  have hp := List.pairwise_append.1 h.2
  exact ⟨⟨fun y hy => h.1 y (List.mem_append_left _ hy), hp.1⟩, h.1 x (by simp), fun y hy => hp.2.2 y hy x (by simp)⟩
theorem Ord.snoc {l : List Lb} {x : Lb} (h : Ord l) (hx : x.2 ≠ ByteArray.empty) (hl : ∀ y ∈ l, lt y.1 x.1) : Ord (l ++ [x]) := by
  refine ⟨fun y hy => ?_, ?_⟩
  · rcases List.mem_append.1 hy with hy | hy
    · exact h.1 y hy
    · rw [List.mem_singleton.1 hy]; exact hx
  · rw [List.pairwise_append]
    exact ⟨h.2, List.pairwise_singleton _ _, fun a ha b hb => by rw [List.mem_singleton.1 hb]; exact hl a ha⟩
theorem Ord.snoc2 {l : List Lb} {y x : Lb} (h : Ord (l ++ [y])) (hx : x.2 ≠ ByteArray.empty) (hl : lt y.1 x.1) : Ord (l ++ [y] ++ [x]) :=
  h.snoc hx fun z hz => by
    rcases List.mem_append.1 hz with hz | hz
    · exact lt_trans (h.front.2.2 z hz) hl
    · rw [List.mem_singleton.1 hz]; exact hl
/-- Two that rise, of the same labels, are the same. -/
theorem rise_one : ∀ {a b : List Lb}, (a.Pairwise fun x y => lt x.1 y.1) → (b.Pairwise fun x y => lt x.1 y.1) → (∀ x, x ∈ a ↔ x ∈ b) → a = b
  | [], [], _, _, _ => rfl
  | [], y :: t, _, _, h => absurd ((h y).2 List.mem_cons_self) (List.not_mem_nil)
  | x :: s, [], _, _, h => absurd ((h x).1 List.mem_cons_self) (List.not_mem_nil)
  | x :: s, y :: t, ha, hb, h => by
    have pa := List.pairwise_cons.1 ha
    have pb := List.pairwise_cons.1 hb
    have e : x = y := by
      rcases List.mem_cons.1 ((h x).1 List.mem_cons_self) with k | k
      · exact k
      · rcases List.mem_cons.1 ((h y).2 List.mem_cons_self) with q | q
        · exact q.symm
        · exact absurd (pb.1 x k) (lt_asymm (pa.1 y q))
    subst e
    have e2 : s = t := rise_one pa.2 pb.2 fun z => by
      constructor
      · intro hz
        rcases List.mem_cons.1 ((h z).1 (List.mem_cons_of_mem _ hz)) with k | k
        · subst k; exact absurd (pa.1 z hz) (lt_irrefl _)
        · exact k
      · intro hz
        rcases List.mem_cons.1 ((h z).2 (List.mem_cons_of_mem _ hz)) with k | k
        · subst k; exact absurd (pb.1 z hz) (lt_irrefl _)
        · exact k
    rw [e2]
end Go.Proofs.Ytomjdicedjdpnaa
