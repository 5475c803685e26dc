/- LChoose: taken over. -/
import Derived.Test.YtdmflofdchmfhaaGreatDoorLEq
namespace Go.Proofs.YtdmflofdchmfhaaGreatDoor
open Go.RowKit

instance (x : ByteArray) (ss : List ByteArray) : Decidable (x ∈ ss) := decidable_of_iff (ss.any (fun y => decide (y = x)) = true) (by simp)
def strs (ss : List ByteArray) : List Value := ss.map Value.string
theorem strs_len (ss : List ByteArray) : (strs ss).length = ss.length := by simp [strs]
theorem strs_get (ss : List ByteArray) (j : Nat) (h : j < ss.length) : (strs ss)[j]? = some (.string (ss.getD j ByteArray.empty)) := by
  simp [strs, h]
theorem mem_take {ss : List ByteArray} {x : ByteArray} {k : Nat} (h : k < ss.length) : x ∈ ss.take (k + 1) ↔ x ∈ ss.take k ∨ ss.getD k ByteArray.empty = x := by
  rw [List.take_succ_eq_append_getElem h, List.mem_append, List.mem_singleton, List.getD_eq_getElem?_getD, List.getElem?_eq_getElem h]
  exact or_congr_right ⟨fun e => e.symm, fun e => e.symm⟩
theorem filter_snoc (p : Lb → Bool) {l : List Lb} {i : Nat} {x : Lb} (h : i < l.length) (hx : l.getD i noL = x) : (l.take (i + 1)).filter p = (l.take i).filter p ++ (if p x then [x] else []) := by
  rw [take_snocL h, hx, List.filter_append, List.filter_cons, List.filter_nil]
theorem filter_le (p : Lb → Bool) (l : List Lb) (i : Nat) : ((l.take i).filter p).length ≤ l.length := by
  have h1 := List.length_filter_le p (l.take i)
  rw [List.length_take] at h1
  omega
/-- By's, Without's choice. -/
def chosen (ss : List ByteArray) (b : Bool) (x : ByteArray) : Bool := decide (x ∈ ss) == b
theorem strs_one (w : World) (e : TypeId) (x : ByteArray) : Row (w.alloc (.cells #[.string x] e)) (w.alloc (.cells #[.string x] e)).heap.size (some ⟨w.heap.size, 0, none⟩) 1 (strs [x]) := by
  have := Row.one w e (.string x)
  rwa [← World.size_alloc w (.cells #[.string x] e)] at this
def notName (n : ByteArray) (x : ByteArray) : Bool := decide (x ≠ n)
theorem chosen_one (n : ByteArray) : chosen [n] false = notName n := by
  funext x
  unfold chosen notName
  by_cases h : x = n <;> simp [h]
end Go.Proofs.YtdmflofdchmfhaaGreatDoor
