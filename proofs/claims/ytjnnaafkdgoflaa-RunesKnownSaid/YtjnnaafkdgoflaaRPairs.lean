/- A slice of ranges that came in, as the form reads it. -/
import Derived.Test.YtjnnaafkdgoflaaRRow
import Derived.Deep.SlicePairs
namespace Go.Proofs.Ytjnnaafkdgoflaa
open Go.RowKit

theorem addr_add (b off q : Nat) : (⟨b, off, none⟩ : Addr).add q = ⟨b, off + q, none⟩ := by
  unfold Addr.add
  split <;> simp_all
theorem RowR.of_pairs {w : World} {a : Addr} {n : Nat} {V0 V1 : Nat → Value} (h : ∀ i, i < n → w.cell? (a.add (i * 2)) = some (V0 i) ∧ w.cell? (a.add (i * 2 + 1)) = some (V1 i) ∧ ∃ x y : Int, V0 i = .int .i64 x ∧ V1 i = .int .i64 y) : ∃ l : List Rg, l.length = n ∧ RowR w w.heap.size (some a) n l := by
  have h' : ∀ i, i < n → ∃ q : Int × Int, w.cell? (a.add (i * 2)) = some (.int .i64 q.1) ∧ w.cell? (a.add (i * 2 + 1)) = some (.int .i64 q.2) := fun i hi => by
    obtain ⟨h1, h2, x, y, e1, e2⟩ := h i hi
    exact ⟨(x, y), by rw [h1, e1], by rw [h2, e2]⟩
  obtain ⟨q, hq⟩ := Go.Deep.choose_lt h'
  refine ⟨(List.range n).map q, by simp, by simp, fun h0 => ?_⟩
  obtain ⟨b, off, spot⟩ := a
  have hspot : spot = none := by simpa [Addr.add] using World.cell?_spot (hq 0 h0).1
  subst hspot
  obtain ⟨h1, _⟩ := hq 0 h0
  rw [addr_add] at h1
  refine ⟨b, off, rfl, World.block_lt_of_cell? w _ h1, fun j hj => ?_⟩
  obtain ⟨h1, h2⟩ := hq j hj
  rw [addr_add] at h1 h2
  rw [show ((List.range n).map q).getD j (0, 0) = q j by simp [List.getD_eq_getElem?_getD, hj]]
  exact ⟨h1, h2⟩
end Go.Proofs.Ytjnnaafkdgoflaa
