/- A row of texts that came in. -/
import Derived.Test.YtomjdicedjdpnaaCWorks
namespace Go.Proofs.Ytomjdicedjdpnaa
open Go.RowKit

theorem Row.of_strs {w : World} {a : Addr} {n : Nat} {S : Nat → ByteArray} (h : ∀ i, i < n → w.cell? (a.add i) = some (.string (S i)) ∧ (S i).size ≤ maxLen) :
    ∃ ss : List ByteArray, ss.length = n ∧ Row w w.heap.size (some a) n (strs ss) ∧ ∀ s ∈ ss, s.size ≤ maxLen := by
  refine ⟨(List.range n).map S, by simp, ⟨by simp [strs], fun h0 => ?_⟩, fun e he => ?_⟩
  · obtain ⟨b, off, spot⟩ := a
    have hspot : spot = none := by simpa [Addr.add] using World.cell?_spot (h 0 h0).1
    subst hspot
    have h1 := (h 0 h0).1
    rw [addr_addL] at h1
    refine ⟨b, off, rfl, World.block_lt_of_cell? w _ h1, fun j hj => ?_⟩
    have h2 := (h j hj).1
    rw [addr_addL] at h2
    rw [h2]
    simp [strs, hj]
  · obtain ⟨i, hi, rfl⟩ := List.mem_map.1 he
    exact (h i (List.mem_range.1 hi)).2
end Go.Proofs.Ytomjdicedjdpnaa
