/- The library's sort, at labels by their names. -/
import Derived.Test.YtdmflofdchmfhaaGreatDoorLOf
namespace Go.Proofs.YtdmflofdchmfhaaGreatDoor
open Go.RowKit Go.Shelf

def encL (x : Lb) : List Value := [.string x.1, .string x.2]
def cmpN (x y : Lb) : Int := Lib.compareBytes x.1.data.toList y.1.data.toList
theorem flat_getL (l : List Lb) (j : Nat) (h : j < l.length * 2) : (cL l)[j]? = some ((Go.Sort.flatK encL 2 l.toArray)[j]!) := by
  rw [Go.Sort.get_flatK encL 2 l.toArray j (by simpa using h)]
  have hk := cL_get l (j / 2) (by omega)
  have e : l.toArray[j / 2]! = l.getD (j / 2) noL := by
    rw [List.getD_eq_getElem?_getD, List.getElem?_eq_getElem (by omega)]
    simp [show j / 2 < l.length by omega]
  rw [e]
  by_cases h2 : j % 2 = 0
  · rw [h2, show j = j / 2 * 2 by omega, hk.1, show j / 2 * 2 / 2 = j / 2 by omega]; rfl
  · rw [show j % 2 = 1 by omega]
    have := hk.2
    rw [show j / 2 * 2 + 1 = j by omega] at this
    rw [this]; rfl
theorem flat_listL (l : List Lb) : (Go.Sort.flatK encL 2 l.toArray).toList = cL l := by
  apply List.ext_getElem?
  intro j
  by_cases h : j < l.length * 2
  · rw [flat_getL l j h, Array.getElem?_toList, Array.getElem?_eq_getElem (by simpa using h), getElem!_pos _ j (by simpa using h)]
  · rw [List.getElem?_eq_none (by simpa using h), List.getElem?_eq_none (by rw [cL_len]; omega)]
theorem lt_cmpN (x y : Lb) : ltOf cmpN x y = decide (lt x.1 y.1) := by
  unfold ltOf cmpN
  rw [cmp_lt]
  by_cases h1 : lt x.1 y.1
  · simp [h1]
  · by_cases h2 : x.1 = y.1 <;> simp [h1, h2, lt_irrefl]
theorem swo_cmpN : Go.Sort.SWO (ltOf cmpN) where
  irrefl x := by rw [lt_cmpN]; simp [lt_irrefl]
  trans x y z h1 h2 := by rw [lt_cmpN] at *; simp at *; exact lt_trans h1 h2
  ntrans x y z h1 h2 := by
    rw [lt_cmpN] at *
    simp at *
    intro k
    rcases lt_tri x.1 y.1 with h | h | h
    · exact h1 h
    · exact h2 (h ▸ k)
    · exact h2 (lt_trans h k)
set_option maxHeartbeats 1000000 in
theorem cmpN_any (x y : Lb) (W : World) : Calls Tryz.prog 27 #[.agg #[.string x.1, .string x.2], .agg #[.string y.1, .string y.2]] W fun e w' => e = .returned (.int .i64 (cmpN x y)) ∧ ∃ q os', w' = Go.Sort.grow (W.drewN q) os' := by
  have HC := Lib.hid (fun W' => Tryz.strings_Compare x.1 y.1 W')
  unfold cmpN
  generalize Lib.compareBytes x.1.data.toList y.1.data.toList = r at *
  go_enter Tryz.func27, Tryz.ntmps27
  go_wp2_with fail
  with_reducible refine (HC.out _).mono ?_
  rintro e w' ⟨rfl, rfl⟩
  go_wp2_with fail
  go_ret
  exact ⟨rfl, 0, _, by rw [Go.Sort.alloc_eq_grow, Go.Sort.alloc_eq_grow, Go.Sort.grow_grow]; rfl⟩
theorem row_heap {w : World} {g n : Nat} {os : Array Obj} {cur : Array Value} {e : TypeId} {fr : Nat × Nat} (F : Array Value) (hb : w.heap[g]? = some (.cells cur e fr)) :
    (Go.Sort.grow (Go.Sort.putRow id (Go.Sort.ahead w n) g 0 F) os).heap[g]? = some (.cells (Go.Sort.putCells id 0 F cur) e fr) := by
  have hg : g < w.heap.size := (Array.getElem?_eq_some_iff.1 hb).1
  rw [Go.Sort.heap_grow_old _ _ (by simpa using hg)]
  simp [Go.Sort.putRow, Go.Sort.mapBlock, Go.Sort.ahead, Array.getElem?_modify, hb, Go.Sort.onCells]
theorem row_grown {w : World} {g n : Nat} {os : Array Obj} (F : Array Value) : w.grownBy (Go.Sort.grow (Go.Sort.putRow id (Go.Sort.ahead w n) g 0 F) os) (some g) := by
  refine ⟨rfl, rfl, rfl, by simp, fun k hk hne => ?_⟩
  rw [Go.Sort.heap_grow_old _ _ (by simpa using hk)]
  have : g ≠ k := fun e => hne (by rw [e])
  simp [Go.Sort.putRow, Go.Sort.mapBlock, Go.Sort.ahead, Array.getElem?_modify, this]
theorem row_take (cur F : Array Value) (h : F.size ≤ cur.size) : (Go.Sort.putCells id 0 F cur).toList.take F.size = F.toList := by
  apply List.ext_getElem?
  intro j
  by_cases hj : j < F.size
  · rw [List.getElem?_take_of_lt hj, Array.getElem?_toList, Array.getElem?_toList]
    simp [Go.Sort.putCells, hj, show j < cur.size by omega]
  · rw [List.getElem?_take_eq_none (by omega), List.getElem?_eq_none (by simpa using hj)]
set_option maxHeartbeats 1000000 in
theorem sort_some (g m c base : Nat) (l : List Lb) (W : World) (hown : W.ownsRow base 29 2 (.slice (some ⟨g, 0, none⟩) m c) m (cL l)) (hm : m ≤ 100000000) (h0 : 0 < m) :
    Calls Tryz.prog 26 #[.slice (some ⟨g, 0, none⟩) m c, .func (.func 27) #[] #[]] W fun e w' =>
      e = .returned (.tuple #[]) ∧ ∃ l' : List Lb, l'.Perm l ∧ l'.length = m ∧ (l'.Pairwise fun x y => ¬ lt y.1 x.1) ∧ w'.ownsRow base 29 2 (.slice (some ⟨g, 0, none⟩) m c) m (cL l') ∧ Go.RowKit.Below base W w' := by
  have hl : l.length = m := by have := hown.1; rw [cL_len] at this; omega
  have hH : Go.Sort.HoldsK encL 2 W g 0 l.toArray := by
    intro j hj
    have hj2 : j < l.length * 2 := by simpa using hj
    refine ⟨?_, hown.frozenAt _⟩
    rw [Nat.zero_add]
    exact (hown.cellAt j (by omega)).trans (flat_getL l j hj2)
  have hgW : g < W.heap.size := (hown.lt g rfl).2
  have eg : ∀ args w, (callFunc 27 args).run Tryz.prog w = .ok (.enter 27 args) w := enters_of Tryz.func27 (by kernel_rfl) rfl
  have hcon := AnyQ.slices_SortFunc Tryz.sortRg 2 Tryz.isAgg29 Tryz.sizeOf29 encL (fun _ => rfl) (fun x v hv => by simp [encL] at hv; rcases hv with rfl | rfl <;> rfl) cmpN swo_cmpN 27 #[] g 0 c l.toArray W eg (fun _ _ _ _ x y => cmpN_any x y _) hH hgW (by simp; omega)
  change Calls Tryz.prog 26 _ _ _ at hcon
  rw [show l.toArray.size = m by simpa using hl] at hcon
  refine hcon.mono ?_
  rintro e w' ⟨rfl, d', n, os, hp, hs, rfl⟩
  have hds : d'.size = m := by rw [hp.1]; simpa using hl
  have hperm : d'.toList.Perm l := by
    have h := hp.2.2
    have e1 : (d'.extract 0 m).toList = d'.toList := by simp [← hds]
    have e2 : (l.toArray.extract 0 m).toList = l := by simp [← hl]
    rwa [e1, e2] at h
  have hdl : d'.toList.length = m := by rw [Array.length_toList, hds]
  refine ⟨rfl, d'.toList, hperm, hdl, ?_, ?_, ?_⟩
  · refine List.pairwise_iff_getElem.2 fun i j hi hj hij => ?_
    have h := hs i j (Nat.zero_le _) hij (by rw [← hdl]; exact hj)
    rw [lt_cmpN] at h
    have h2 := of_decide_eq_false h
    rw [getElem!_pos d' j (by simpa using hj), getElem!_pos d' i (by simpa using hi)] at h2
    rw [Array.getElem_toList, Array.getElem_toList]
    exact h2
  · rcases hown.2 with ⟨h, _⟩ | ⟨g', cap', cur, hv, hb, hg, hnc, hcm, hcs, _⟩
    · cases h
    cases hv
    have hF : (Go.Sort.flatK encL 2 d').size = m * 2 := by simp [hds]
    refine ⟨by rw [cL_len, hdl], .inr ⟨g, c, _, rfl, hb, row_heap _ hg, hnc, hcm, by simp [Go.Sort.putCells, hcs], ?_⟩⟩
    rw [← hF, row_take cur _ (by rw [hF, hcs]; exact Nat.mul_le_mul_right 2 hnc)]
    have := flat_listL d'.toList
    rwa [Array.toArray_toList] at this
  · exact (Go.RowKit.Below.refl base W).grown (row_grown _) (by have := (hown.lt g rfl).1; omega) (fun k hk => by injection hk with hk; subst hk; exact (hown.lt _ rfl).1)
end Go.Proofs.YtdmflofdchmfhaaGreatDoor
