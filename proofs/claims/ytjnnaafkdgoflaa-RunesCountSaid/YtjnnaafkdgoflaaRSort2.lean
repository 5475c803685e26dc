/- The library's sort keeps its word. -/
import Derived.Test.YtjnnaafkdgoflaaRSort
namespace Go.Proofs.Ytjnnaafkdgoflaa
open Go.RowKit Go.Shelf

theorem row_heap {w : World} {g n : Nat} {os : Array Obj} {cur : Array Value} {e : TypeId} {fr : Nat × Nat} (F : Array Value) (hb : w.heap[g]? = some (.cells cur e fr)) :
    (Go.Sort.grow (Go.Sort.putRow id (Go.Sort.ahead w n) g 0 F) os).heap[g]? = some (.cells (Go.Sort.putCells id 0 F cur) e fr) := by
  have hg : g < w.heap.size := (Array.getElem?_eq_some_iff.1 hb).1
  rw [Go.Sort.heap_grow_old _ _ (by simpa using hg)]
  simp [Go.Sort.putRow, Go.Sort.mapBlock, Go.Sort.ahead, Array.getElem?_modify, hb, Go.Sort.onCells]
theorem row_grown {w : World} {g n : Nat} {os : Array Obj} (F : Array Value) : w.grownBy (Go.Sort.grow (Go.Sort.putRow id (Go.Sort.ahead w n) g 0 F) os) (some g) := by
  refine ⟨rfl, rfl, rfl, by simp, fun k hk hne => ?_⟩
  rw [Go.Sort.heap_grow_old _ _ (by simpa using hk)]
  have : g ≠ k := fun e => hne (by rw [e])
  simp [Go.Sort.putRow, Go.Sort.mapBlock, Go.Sort.ahead, Array.getElem?_modify, this]
theorem row_take (cur F : Array Value) (h : F.size ≤ cur.size) : (Go.Sort.putCells id 0 F cur).toList.take F.size = F.toList := by
  apply List.ext_getElem?
  intro j
  by_cases hj : j < F.size
  · rw [List.getElem?_take_of_lt hj, Array.getElem?_toList, Array.getElem?_toList]
    simp [Go.Sort.putCells, hj, show j < cur.size by omega]
  · rw [List.getElem?_take_eq_none (by omega), List.getElem?_eq_none (by simpa using hj)]
set_option maxHeartbeats 1000000 in
theorem sort_some (g m c base : Nat) (l : List Rg) (W : World) (hown : W.ownsRow base 47 2 (.slice (some ⟨g, 0, none⟩) m c) m (cR l)) (hm : m ≤ 100000000) (h0 : 0 < m) :
    Calls Try.prog 28 #[.slice (some ⟨g, 0, none⟩) m c, .func (.func 29) #[] #[]] W fun e w' =>
      e = .returned (.tuple #[]) ∧ ∃ l' : List Rg, (∀ x, x ∈ l' ↔ x ∈ l) ∧ l'.length = m ∧ (l'.Pairwise fun x y => x.1 ≤ y.1) ∧ w'.ownsRow base 47 2 (.slice (some ⟨g, 0, none⟩) m c) m (cR l') ∧ Go.RowKit.Below base W w' := by
  have hl : l.length = m := by have := hown.1; rw [cR_len] at this; omega
  have hH : Go.Sort.HoldsK encR 2 W g 0 l.toArray := by
    intro j hj
    have hj2 : j < l.length * 2 := by simpa using hj
    refine ⟨?_, hown.frozenAt _⟩
    rw [Nat.zero_add]
    exact (hown.cellAt j (by omega)).trans (flat_get l j hj2)
  have hgW : g < W.heap.size := (hown.lt g rfl).2
  have eg : ∀ args w, (callFunc 29 args).run Try.prog w = .ok (.enter 29 args) w := enters_of Try.func29 (by kernel_rfl) rfl
  have hcon := AnyQ.slices_SortFunc Try.sortRg 2 Try.isAgg47 Try.sizeOf47 encR (fun _ => rfl) (fun x v hv => by simp [encR] at hv; rcases hv with rfl | rfl <;> rfl) cmpR swo_cmp 29 #[] g 0 c l.toArray W eg (fun _ _ _ _ x y => cmp_any x y _) hH hgW (by simp; omega)
  change Calls Try.prog 28 _ _ _ at hcon
  rw [show l.toArray.size = m by simpa using hl] at hcon
  refine hcon.mono ?_
  rintro e w' ⟨rfl, d', n, os, hp, hs, rfl⟩
  have hds : d'.size = m := by rw [hp.1]; simpa using hl
  have hperm : d'.toList.Perm l := by
    have h := hp.2.2
    have e1 : (d'.extract 0 m).toList = d'.toList := by simp [← hds]
    have e2 : (l.toArray.extract 0 m).toList = l := by simp [← hl]
    rwa [e1, e2] at h
  have hdl : d'.toList.length = m := by rw [Array.length_toList, hds]
  refine ⟨rfl, d'.toList, fun x => hperm.mem_iff, hdl, ?_, ?_, ?_⟩
  · refine List.pairwise_iff_getElem.2 fun i j hi hj hij => ?_
    have h := hs i j (Nat.zero_le _) hij (by rw [← hdl]; exact hj)
    rw [lt_cmp] at h
    have h2 := of_decide_eq_false h
    rw [getElem!_pos d' j (by simpa using hj), getElem!_pos d' i (by simpa using hi)] at h2
    rw [Array.getElem_toList, Array.getElem_toList]
    omega
  · rcases hown.2 with ⟨h, _⟩ | ⟨g', cap', cur, hv, hb, hg, hnc, hcm, hcs, _⟩
    · cases h
    cases hv
    have hF : (Go.Sort.flatK encR 2 d').size = m * 2 := by simp [hds]
    refine ⟨by rw [cR_len, hdl], .inr ⟨g, c, _, rfl, hb, row_heap _ hg, hnc, hcm, by simp [Go.Sort.putCells, hcs], ?_⟩⟩
    rw [← hF, row_take cur _ (by rw [hF, hcs]; exact Nat.mul_le_mul_right 2 hnc)]
    have := flat_list d'.toList
    rwa [Array.toArray_toList] at this
  · exact (Go.RowKit.Below.refl base W).grown (row_grown _) (by have := (hown.lt g rfl).1; omega) (fun k hk => by injection hk with hk; subst hk; exact (hown.lt _ rfl).1)
end Go.Proofs.Ytjnnaafkdgoflaa
