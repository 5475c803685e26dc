/- Bring; the eight marks in memory. -/
import Derived.Test.YtdeohgfnlcbncaaDoorLNearM
import Derived.Test.YtdeohgfnlcbncaaDoorLLset
namespace Go.Proofs.YtdeohgfnlcbncaaDoor
open Go.RowKit Go.Shelf Go.Lib

theorem tmod_or (i n : Int) (hn : 0 < n) : (i.tmod n = i % n ∨ i.tmod n = i % n - n) ∧ 0 ≤ i % n ∧ i % n < n := by
  refine ⟨?_, Int.emod_nonneg _ (by omega), Int.emod_lt_of_pos _ hn⟩
  rw [Int.tmod_eq_emod]
  split
  · left; omega
  · right; omega
set_option maxRecDepth 100000 in
theorem Bring_any (i n : Int) (w : World) (hi : (Lit.int .i64 i).wf = true) (hn : n ≤ 9223372036854775807) (hn0 : 0 < n) :
    Calls Tryd.prog 28 #[.int .i64 i, .int .i64 n] w fun e w' => e = .returned (.int .i64 (i % n)) ∧ w = w' := by
  have HK := Lib.hid (tmod_or i n hn0)
  go_enter Tryd.func28, Tryd.ntmps28
  go_wp2
  · have h0 : i.tmod n < 0 := by assumption
    have h2 := HK.out
    go_ret
    refine ⟨?_, rfl⟩
    show Ending.returned (Value.int .i64 (wrap64 (i.tmod n + n))) = _
    rw [show i.tmod n + n = i % n by omega, IntWalk.wrap64_in _ (by omega)]
  · have h0 : 0 ≤ i.tmod n := by assumption
    have h2 := HK.out
    go_ret
    refine ⟨?_, rfl⟩
    show Ending.returned (Value.int .i64 (i.tmod n)) = _
    rw [show i.tmod n = i % n by omega]
/-- The eight marks, in memory. -/
def Arr (N : Nat) (v : List Int) (wr : World) : Prop := v.length = 8 ∧ ∃ (cur : Array Value) (e : TypeId), wr.heap[N]? = some (.cells cur e (0, 0)) ∧ cur.toList = v.map (Value.int .i64)
theorem Arr.lt {N : Nat} {v : List Int} {wr : World} (h : Arr N v wr) : N < wr.heap.size := by
  obtain ⟨_, _, _, h1, _⟩ := h
  exact (Array.getElem?_eq_some_iff.1 h1).1
theorem Arr.cell {N : Nat} {v : List Int} {wr : World} (h : Arr N v wr) (j : Nat) (hj : j < 8) : wr.cell? ⟨N, j, none⟩ = some (.int .i64 (v.getD j 0)) := by
  obtain ⟨hl, cur, e, h1, h2⟩ := h
  rw [Lib.cell_of_heap h1, ← Array.getElem?_toList, h2, List.getElem?_map, List.getD_eq_getElem?_getD, List.getElem?_eq_getElem (by omega)]
  rfl
theorem Arr.free {N : Nat} {v : List Int} {wr : World} (h : Arr N v wr) (j : Nat) : wr.frozen? ⟨N, j, none⟩ = false := by
  obtain ⟨_, cur, e, h1, _⟩ := h
  exact Lib.frozen_of_heap h1 j
theorem Arr.put {N : Nat} {v : List Int} {wr : World} (h : Arr N v wr) (j : Nat) (z : Int) : Arr N (v.set j z) (wr.setCell ⟨N, j, none⟩ (.int .i64 z)) := by
  obtain ⟨hl, cur, e, h1, h2⟩ := h
  refine ⟨by rwa [List.length_set], cur.set! j (.int .i64 z), e, by simp [World.setCell, h1, Array.getElem?_modify], ?_⟩
  rw [Array.set!_eq_setIfInBounds, Array.toList_setIfInBounds, h2, List.map_set]
theorem Arr.on {N : Nat} {v : List Int} {wr w' : World} (h : Arr N v wr) {B : Nat} (hb : Below B wr w') (hN : N < B) : Arr N v w' := by
  obtain ⟨hl, cur, e, h1, h2⟩ := h
  exact ⟨hl, cur, e, (hb.block N hN).trans h1, h2⟩
theorem wf_i64 {x : Int} (h : (Lit.int .i64 x).wf = true) : -9223372036854775808 ≤ x ∧ x ≤ 9223372036854775807 := by
  simpa [Lit.wf, IntKind.min, IntKind.max, IntKind.signed, IntKind.bits] using h
end Go.Proofs.YtdeohgfnlcbncaaDoor
