/- A row of bytes that a conversion laid. -/
import Derived.Test.YtdmflofdchmfhaaGreatDoorLIns
import Derived.Laws.IdiomStrings
namespace Go.Proofs.YtdmflofdchmfhaaGreatDoor
open Go.RowKit Go.Shelf Go.Lib

def BRow (B g cap : Nat) (l : List Nat) (v : World) : Prop :=
  B ≤ g ∧ l.length ≤ cap ∧ cap ≤ 9223372036854775807 ∧ ∃ cur : Array Value, v.heap[g]? = some (.cells cur 5 (cap, cap + 1)) ∧ cur.size = cap ∧ ∀ j, j < l.length → cur[j]? = some (.int .u8 ((l.getD j 0 : Nat) : Int))
theorem BRow.cell {B g cap : Nat} {l : List Nat} {v : World} (h : BRow B g cap l v) (j : Nat) (hj : j < l.length) : v.cell? ⟨g, j, none⟩ = some (.int .u8 ((l.getD j 0 : Nat) : Int)) := by
  obtain ⟨_, _, _, cur, h1, _, h3⟩ := h
  rw [Lib.cell_of_heap h1]
  exact h3 j hj
theorem BRow.has {B g cap : Nat} {l : List Nat} {v : World} (h : BRow B g cap l v) (j : Nat) (hj : j < cap) : (v.cell? ⟨g, j, none⟩).isSome = true := by
  obtain ⟨_, _, _, cur, h1, h2, _⟩ := h
  rw [Lib.cell_of_heap h1, Array.getElem?_eq_getElem (by omega)]
  rfl
theorem BRow.free {B g cap : Nat} {l : List Nat} {v : World} (h : BRow B g cap l v) (j : Nat) (hj : j < cap) : v.frozen? ⟨g, j, none⟩ = false := by
  obtain ⟨_, _, _, cur, h1, _, _⟩ := h
  simp [World.frozen?, h1]
  omega
theorem BRow.shape {B g cap : Nat} {l : List Nat} {v : World} (h : BRow B g cap l v) : v.shape? g = some (5, cap) := by
  obtain ⟨_, _, _, cur, h1, h2, _⟩ := h
  simp [World.shape?, h1, h2]
theorem BRow.lt {B g cap : Nat} {l : List Nat} {v : World} (h : BRow B g cap l v) : g < v.heap.size := by
  obtain ⟨_, _, _, cur, h1, _⟩ := h
  exact (Array.getElem?_eq_some_iff.1 h1).1
theorem BRow.on {B g cap : Nat} {l : List Nat} {v v' : World} (h : BRow B g cap l v) (hb : Below v.heap.size v v') : BRow B g cap l v' := by
  have hl := h.lt
  obtain ⟨a, b, c, cur, h1, h2⟩ := h
  exact ⟨a, b, c, cur, (hb.block g hl).trans h1, h2⟩
theorem BRow.put {B g cap : Nat} {l : List Nat} {v : World} (h : BRow B g cap l v) (j x : Nat) (hj : j < l.length) : BRow B g cap (l.set j x) (v.setCell ⟨g, j, none⟩ (.int .u8 (x : Int))) := by
  have hl := h.lt
  obtain ⟨a, b, c, cur, h1, h2, h3⟩ := h
  refine ⟨a, by rwa [List.length_set], c, cur.set! j (.int .u8 (x : Int)), ?_, by simpa using h2, fun q hq => ?_⟩
  · simp [World.setCell, h1, Array.getElem?_modify]
  · rw [List.length_set] at hq
    by_cases hqj : j = q
    · subst hqj
      simp [List.getD_eq_getElem?_getD, hj, show j < cur.size by omega]
    · rw [Array.set!_eq_setIfInBounds, Array.getElem?_setIfInBounds_ne hqj, List.getD_eq_getElem?_getD, List.getElem?_set_ne hqj, ← List.getD_eq_getElem?_getD]
      exact h3 q hq
theorem BRow.made (w : World) (t : ByteArray) (cap : Nat) (h : t.size ≤ cap) (hc : cap ≤ 9223372036854775807) : BRow w.heap.size w.heap.size cap (bl t) ((w.alloc (.cells (bytesRow t cap) 5 (cap, cap + 1))).drew) := by
  refine ⟨Nat.le_refl _, by rwa [bl_len], hc, bytesRow t cap, heap_alloc_new w _, ?_, fun j hj => ?_⟩
  · have : t.data.size = t.size := rfl
    simp [bytesRow]; omega
  · rw [bl_len] at hj
    have h : j < t.data.size := hj
    rw [bytesRow_at t cap j h]
    simp only [bl, List.getD_eq_getElem?_getD, List.getElem?_map, Array.getElem?_toList, Array.getElem?_eq_getElem h, Option.map_some, Option.getD_some]
end Go.Proofs.YtdmflofdchmfhaaGreatDoor
