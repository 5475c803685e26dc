/- Rows that may be written; what stands below them. -/
import Derived.Test.YtdmflofdchmfhaaGreatDoorLSetQ
namespace Go.Proofs.YtdmflofdchmfhaaGreatDoor
open Go.RowKit

/-- The values of n labels may be written, in memory from B on. -/
def Wr (B : Nat) (w : World) (A : Option Addr) (n : Nat) : Prop :=
  0 < n → ∃ g off, A = some ⟨g, off, none⟩ ∧ B ≤ g ∧ g < w.heap.size ∧ ∀ j, j < n → (∃ u, w.cell? ⟨g, off + j * 2 + 1, none⟩ = some u) ∧ w.frozen? ⟨g, off + j * 2 + 1, none⟩ = false
theorem Wr.own {w : World} {B n c : Nat} {e : TypeId} {A : Option Addr} {l : List Lb} (h : w.ownsRow B e 2 (.slice A n c) n (cL l)) : Wr B w A n := by
  intro h0
  have hl : l.length = n := by have := h.1; rw [cL_len] at this; omega
  obtain ⟨g, cap', hv, _, hlt⟩ := h.form h0
  injection hv with hA
  subst hA
  have hb := h.lt g rfl
  refine ⟨g, 0, rfl, hb.1, hb.2, fun j hj => ?_⟩
  have hg := cL_get l j (by omega)
  rw [Nat.zero_add]
  exact ⟨⟨_, (h.cellAt (j * 2 + 1) (by omega)).trans hg.2⟩, h.frozenAt _⟩
theorem Wr.low {B B' : Nat} {w : World} {A : Option Addr} {n : Nat} (h : Wr B w A n) (hb : B' ≤ B) : Wr B' w A n := fun h0 => by
  obtain ⟨g, off, e, h1, r⟩ := h h0
  exact ⟨g, off, e, Nat.le_trans hb h1, r⟩
theorem Wr.on {B : Nat} {w w' : World} {A : Option Addr} {n : Nat} (h : Wr B w A n) (hb : Below w.heap.size w w') : Wr B w' A n := fun h0 => by
  obtain ⟨g, off, e, h1, h2, h3⟩ := h h0
  refine ⟨g, off, e, h1, Nat.lt_of_lt_of_le h2 hb.size, fun j hj => ?_⟩
  obtain ⟨⟨u, hu⟩, hf⟩ := h3 j hj
  exact ⟨⟨u, (hb.cell (p := ⟨g, off + j * 2 + 1, none⟩) h2).trans hu⟩, (by simpa only [World.frozen?, hb.block g h2] using hf)⟩
theorem Wr.put {B : Nat} {w : World} {A : Option Addr} {n : Nat} (h : Wr B w A n) (a : Addr) (v : Value) : Wr B (w.setCell a v) A n := fun h0 => by
  obtain ⟨g, off, e, h1, h2, h3⟩ := h h0
  refine ⟨g, off, e, h1, by rw [World.size_setCell]; exact h2, fun j hj => ?_⟩
  obtain ⟨⟨u, hu⟩, hf⟩ := h3 j hj
  refine ⟨?_, by rw [World.frozen?_setCell]; exact hf⟩
  by_cases k : a = ⟨g, off + j * 2 + 1, none⟩
  · subst k
    exact ⟨v, World.cell?_setCell_same _ _ _ hu⟩
  · exact ⟨u, (World.cell?_setCell_other _ _ _ _ k).trans hu⟩
theorem RowL.keep {B B' : Nat} {w w' : World} {A : Option Addr} {n : Nat} {l : List Lb} (h : RowL w B A n l) (hb : Below B' w w') (hB : B ≤ B') : RowL w' B A n l :=
  ⟨h.1, fun h0 => by
    obtain ⟨b, off, e, hb', hc⟩ := h.2 h0
    exact ⟨b, off, e, hb', fun j hj => ⟨(hb.cell (p := ⟨b, off + j * 2, none⟩) (Nat.lt_of_lt_of_le hb' hB)).trans (hc j hj).1, (hb.cell (p := ⟨b, off + j * 2 + 1, none⟩) (Nat.lt_of_lt_of_le hb' hB)).trans (hc j hj).2⟩⟩⟩
theorem RowL.wide {B B' : Nat} {w : World} {A : Option Addr} {n : Nat} {l : List Lb} (h : RowL w B A n l) (hB : B ≤ B') : RowL w B' A n l :=
  ⟨h.1, fun h0 => by
    obtain ⟨b, off, e, hb', hc⟩ := h.2 h0
    exact ⟨b, off, e, Nat.lt_of_lt_of_le hb' hB, hc⟩⟩
theorem Row.takeS {w : World} {B n k : Nat} {A : Option Addr} {ss : List ByteArray} (h : Row w B A n (strs ss)) (hk : k ≤ n) : Row w B A k (strs (ss.take k)) := by
  have hl : (strs ss).length = n := h.1
  rw [strs, List.map_take]
  refine ⟨by rw [List.length_take]; exact Nat.min_eq_left (by rw [← strs, hl]; exact hk), fun h0 => ?_⟩
  obtain ⟨b, off, e, hb, hc⟩ := h.2 (by omega)
  refine ⟨b, off, e, hb, fun j hj => ?_⟩
  rw [List.getElem?_take, if_pos hj]
  exact hc j (by omega)
theorem RowL.of_pairs {w : World} {a : Addr} {n : Nat} {V0 V1 : Nat → Value} (h : ∀ i, i < n → w.cell? (a.add (i * 2)) = some (V0 i) ∧ w.cell? (a.add (i * 2 + 1)) = some (V1 i) ∧ ∃ s t : ByteArray, V0 i = .string s ∧ V1 i = .string t ∧ s.size ≤ maxLen ∧ t.size ≤ maxLen) :
    ∃ l : List Lb, l.length = n ∧ RowL w w.heap.size (some a) n l ∧ ∀ x ∈ l, x.1.size ≤ maxLen ∧ x.2.size ≤ maxLen := by
  have h' : ∀ i, i < n → ∃ q : Lb, (w.cell? (a.add (i * 2)) = some (.string q.1) ∧ w.cell? (a.add (i * 2 + 1)) = some (.string q.2)) ∧ q.1.size ≤ maxLen ∧ q.2.size ≤ maxLen := fun i hi => by
    obtain ⟨h1, h2, s, t, e1, e2, e3⟩ := h i hi
    exact ⟨(s, t), ⟨by rw [h1, e1], by rw [h2, e2]⟩, e3⟩
  obtain ⟨q, hq⟩ := Go.Deep.choose_lt h'
  refine ⟨(List.range n).map q, by simp, ⟨by simp, fun h0 => ?_⟩, fun e he => ?_⟩
  · obtain ⟨b, off, spot⟩ := a
    have hspot : spot = none := by simpa [Addr.add] using World.cell?_spot (hq 0 h0).1.1
    subst hspot
    obtain ⟨⟨h1, _⟩, _⟩ := hq 0 h0
    rw [addr_addL] at h1
    refine ⟨b, off, rfl, World.block_lt_of_cell? w _ h1, fun j hj => ?_⟩
    obtain ⟨⟨h1, h2⟩, _⟩ := hq j hj
    rw [addr_addL] at h1 h2
    rw [show ((List.range n).map q).getD j noL = q j by simp [List.getD_eq_getElem?_getD, hj]]
    exact ⟨h1, h2⟩
  · obtain ⟨i, hi, rfl⟩ := List.mem_map.1 he
    exact (hq i (List.mem_range.1 hi)).2
theorem Row.of_strs {w : World} {a : Addr} {n : Nat} {S : Nat → ByteArray} (h : ∀ i, i < n → w.cell? (a.add i) = some (.string (S i)) ∧ (S i).size ≤ maxLen) :
    ∃ ss : List ByteArray, ss.length = n ∧ Row w w.heap.size (some a) n (strs ss) ∧ ∀ s ∈ ss, s.size ≤ maxLen := by
  refine ⟨(List.range n).map S, by simp, ⟨by simp [strs], fun h0 => ?_⟩, fun e he => ?_⟩
  · obtain ⟨b, off, spot⟩ := a
    have hspot : spot = none := by simpa [Addr.add] using World.cell?_spot (h 0 h0).1
    subst hspot
    have h1 := (h 0 h0).1
    rw [addr_addL] at h1
    refine ⟨b, off, rfl, World.block_lt_of_cell? w _ h1, fun j hj => ?_⟩
    have h2 := (h j hj).1
    rw [addr_addL] at h2
    rw [h2]
    simp [strs, hj]
  · obtain ⟨i, hi, rfl⟩ := List.mem_map.1 he
    exact (h i (List.mem_range.1 hi)).2
end Go.Proofs.YtdmflofdchmfhaaGreatDoor
