/- The program's New: what one capture more does to memory. -/
import Derived.Test.YtomjdicedjdpnaaCCapReg
namespace Go.Proofs.Ytomjdicedjdpnaa
open Go.RowKit Go.Shelf Go.Maps Go.WideMaps

theorem cap_info : (Try.prog.info? 62).map (fun i => (i.zero, i.size, i.bytes)) = some (some (.agg #[.string ByteArray.empty, .string ByteArray.empty]), 2, 32) := by kernel_rfl
set_option maxRecDepth 100000 in
theorem NSt.region {w : World} {A : ByteArray} {a : Option Addr} {nn c : Nat} {cl : List Lb} {m m' : Nat} {W W1 : World} (h : NSt w A a nn c cl m W) {D : DataW Unit} (hm : W1.ownsMap Try.prog 9 (unitElem (H := Unit)) (w.heap.size + 4) m' D) (hg : W.grownBy W1 (some (w.heap.size + 4)))
    (nm V2 : ByteArray) (hD : D = Sn (nmsL (cl ++ [(nm, V2)]))) (hnn : nn ≤ 1000000) (h0 : 0 < w.heap.size) :
    ∃ a' c' w2, (Builtin.append_ #[54, 54] 54 #[.slice a nn c, .slice (some ⟨W1.heap.size, 0, none⟩) 1 1]).run Try.prog (W1.drew.alloc (.cells #[.string nm, .string V2] 62)) = .ok (.slice a' (nn + 1) c') w2 ∧
      (W1.drew.cell? ⟨w.heap.size + 3, 0, none⟩ = some (.pointer (some ⟨w.heap.size + 2, 0, none⟩)) ∧ (W1.drew.alloc (.cells #[.string nm, .string V2] 62)).cell? ⟨w.heap.size + 3, 0, none⟩ = some (.pointer (some ⟨w.heap.size + 2, 0, none⟩)) ∧ w2.cell? ⟨w.heap.size + 3, 0, none⟩ = some (.pointer (some ⟨w.heap.size + 2, 0, none⟩))) ∧
      (W1.drew.cell? ⟨w.heap.size + 2, 1, none⟩ = some (.slice a nn c) ∧ (W1.drew.alloc (.cells #[.string nm, .string V2] 62)).cell? ⟨w.heap.size + 2, 1, none⟩ = some (.slice a nn c) ∧ w2.cell? ⟨w.heap.size + 2, 1, none⟩ = some (.slice a nn c) ∧ w2.frozen? ⟨w.heap.size + 2, 1, none⟩ = false) ∧
      NSt w A a' (nn + 1) c' (cl ++ [(nm, V2)]) m' (w2.setCell ⟨w.heap.size + 2, 1, none⟩ (.slice a' (nn + 1) c')) ∧
      KeepsFrom (w.heap.size + 7) W (w2.setCell ⟨w.heap.size + 2, 1, none⟩ (.slice a' (nn + 1) c')) ∧ KpC (w.heap.size + 6) W (w2.setCell ⟨w.heap.size + 2, 1, none⟩ (.slice a' (nn + 1) c')) := by
  obtain ⟨i0, hi0, hz0, hz1, hz2⟩ := info_partsL cap_info
  obtain ⟨Wa, hWa⟩ : ∃ x, W1.drew.alloc (.cells #[.string nm, .string V2] 62) = x := ⟨_, rfl⟩
  have hk := h.known hm hg
  obtain ⟨⟨h1, h2⟩, h3, h4, h5, h6, h7, h8, h9⟩ := h
  have hs1 : w.heap.size + 7 ≤ W1.heap.size := Nat.le_trans h9 hg.size
  have ho1 : W1.ownsRow (w.heap.size + 7) 62 2 (.slice a nn c) nn (cL cl) := h7.kept hg (.inr fun e => by have := (h7.lt _ e).1; omega)
  have hb1 : Below (w.heap.size + 7) W1 Wa := by rw [← hWa]; exact ((Below.refl _ W1).drew).alloc hs1 _
  have hba : Below W1.heap.size W1 Wa := by rw [← hWa]; exact ((Below.refl _ W1).drew).alloc (Nat.le_refl _) _
  have hoa : Wa.ownsRow (w.heap.size + 7) 62 2 (.slice a nn c) nn (cL cl) := own_onL ho1 hba
  have hsa : Wa.heap.size = W1.heap.size + 1 := by rw [← hWa, World.size_alloc]; rfl
  obtain ⟨v', w2, hrun, r1, r2, _⟩ := run_append_own (P := Try.prog) Wa (w.heap.size + 7) 54 54 62 i0 (.agg #[.string ByteArray.empty, .string ByteArray.empty]) 2 32 Try.underlying54 hi0 hz0 hz1 hz2 rfl (by omega) (.slice a nn c) nn (cL cl) hoa ⟨W1.heap.size, 0, none⟩ 1 1 [.string nm, .string V2] rfl
    (fun j u hj => by
      rw [← hWa]
      have hj2 : j < 2 := (List.getElem?_eq_some_iff.1 hj).1
      rcases (by omega : j = 0 ∨ j = 1) with rfl | rfl
      · injection hj with hj; subst hj
        show (W1.drew.alloc _).cell? ⟨W1.drew.heap.size, 0, none⟩ = _
        rw [World.cell?_alloc_at _ _ _ _ (by simp)]; rfl
      · injection hj with hj; subst hj
        show (W1.drew.alloc _).cell? ⟨W1.drew.heap.size, 1, none⟩ = _
        rw [World.cell?_alloc_at _ _ _ _ (by simp)]; rfl)
    (by intro u hu; rcases List.mem_cons.1 hu with rfl | hu; · rfl
        · rw [List.mem_singleton.1 hu]; rfl) (by unfold maxLen; omega) (by omega) (by omega)
  obtain ⟨a', c', e⟩ := ownL_slice r1
  subst e
  have hcl : cL cl ++ [.string nm, .string V2] = cL (cl ++ [(nm, V2)]) := by rw [cL_app]; rfl
  rw [hcl] at r1
  have hlt : ∀ j, (Value.slice a nn c).ownBlock = some j → w.heap.size + 7 ≤ j := fun j hj => (hoa.lt j hj).1
  have hb2 : Below (w.heap.size + 7) W1 w2 := hb1.grown r2 (by omega) hlt
  have hfin := hk a' (nn + 1) c' (cl ++ [(nm, V2)]) w2 hD r1 hb2
  have hblk : ∀ j, j < w.heap.size + 7 → j ≠ w.heap.size + 4 → W1.heap[j]? = W.heap[j]? := fun j hj hne => hg.block j (by omega) (fun e => by injection e with e; omega)
  have q3 : W1.heap[w.heap.size + 3]? = some (.cells #[.pointer (some ⟨w.heap.size + 2, 0, none⟩)] 23 (0, 0)) := (hblk _ (by omega) (by omega)).trans h4
  have q2 : W1.heap[w.heap.size + 2]? = some (.cells #[.string A, .slice a nn c] 56 (0, 0)) := (hblk _ (by omega) (by omega)).trans h3
  have p3 : ∀ V : World, Below (w.heap.size + 7) W1 V → V.cell? ⟨w.heap.size + 3, 0, none⟩ = some (.pointer (some ⟨w.heap.size + 2, 0, none⟩)) := fun V hb => by
    have e := (hb.block (w.heap.size + 3) (by omega)).trans q3
    simp [World.cell?, e]
  have p2 : ∀ V : World, Below (w.heap.size + 7) W1 V → V.cell? ⟨w.heap.size + 2, 1, none⟩ = some (.slice a nn c) ∧ V.frozen? ⟨w.heap.size + 2, 1, none⟩ = false := fun V hb => by
    have e := (hb.block (w.heap.size + 2) (by omega)).trans q2
    exact ⟨by simp [World.cell?, e], by simp [World.frozen?, e]⟩
  have hbd : Below (w.heap.size + 7) W1 W1.drew := (Below.refl _ _).drew
  have hrowc : ∀ (j : Nat) (o : Obj), (Value.slice a nn c).ownBlock = some j → Wa.heap[j]? = some o → o.isCells = true := by
    intro j o hj ho
    rcases hoa.2 with ⟨hv, _⟩ | ⟨g, cap, cur, hv, _, hgb, _⟩
    · rw [hv] at hj; cases hj
    · rw [hv] at hj
      injection hj with hj
      subst hj
      rw [hgb] at ho
      injection ho with ho
      rw [← ho]; rfl
  have hkeep : KeepsFrom (w.heap.size + 7) W (w2.setCell ⟨w.heap.size + 2, 1, none⟩ (.slice a' (nn + 1) c')) := by
    refine (KeepsFrom.of_grownBy hg (fun j hj => by injection hj with hj; omega)).trans (KeepsOthers.from ?_ _)
    refine (KeepsOthers.drew W1).trans (KeepsOthers.trans ?_ ((KeepsOthers.of_grownBy r2 hrowc).trans (KeepsOthers.setCell _ _ _)))
    rw [← hWa]
    exact KeepsOthers.alloc _ _
  have hcell : ∀ j off, j < w.heap.size + 7 → j ≠ w.heap.size + 4 → j ≠ w.heap.size + 2 → (w2.setCell ⟨w.heap.size + 2, 1, none⟩ (.slice a' (nn + 1) c')).cell? ⟨j, off, none⟩ = W.cell? ⟨j, off, none⟩ := fun j off hj h4 h2 => by
    rw [World.cell?_setCell_far _ _ _ _ (by show w.heap.size + 2 ≠ j; omega)]
    exact (hb2.cell (p := ⟨j, off, none⟩) hj).trans (World.cell?_of_block (w := W) (hblk j hj h4))
  rw [hWa]
  exact ⟨a', c', w2, hrun, ⟨p3 _ hbd, p3 _ hb1, p3 _ hb2⟩, ⟨(p2 _ hbd).1, (p2 _ hb1).1, (p2 _ hb2).1, (p2 _ hb2).2⟩, hfin, hkeep, hcell _ _ (by omega) (by omega) (by omega), hcell _ _ (by omega) (by omega) (by omega)⟩
theorem NSt.last {w : World} {A : ByteArray} {a : Option Addr} {nn c : Nat} {l0 : List Lb} {y : Lb} {m : Nat} {W : World} (h : NSt w A a nn c (l0 ++ [y]) m W) : ∃ g, a = some ⟨g, 0, none⟩ ∧ W.cell? ⟨g, l0.length * 2 + 1, none⟩ = some (.string y.2) := by
  have hn := h.len
  simp only [List.length_append, List.length_singleton] at hn
  have hrow := h.2.2.2.2.2.1
  obtain ⟨g, cap', hv, _, _⟩ := hrow.form (by omega)
  injection hv with hA
  subst hA
  have hc := cL_get (l0 ++ [y]) l0.length (by simp)
  rw [show (l0 ++ [y]).getD l0.length noL = y by simp [List.getD_eq_getElem?_getD]] at hc
  exact ⟨g, rfl, (hrow.cellAt (l0.length * 2 + 1) (by omega)).trans hc.2⟩
theorem results_cell2 {fn : Func} {p u : Tmp} {tp tu : TypeId} (h : fn.results = #[.cell p tp, .cell u tu]) (tmps : Array Value) (P : Program) (w : World) :
    (results fn tmps).run P w = ((asAddr (tmps.getD p undef)).run P w).andThen fun a w₁ => ((loadVar tp a).run P w₁).andThen fun v w₂ => ((asAddr (tmps.getD u undef)).run P w₂).andThen fun b w₃ => ((loadVar tu b).run P w₃).andThen fun v2 w₄ => .ok (.tuple #[v, v2]) w₄ := by
  simp only [results, h]
  simp [Sem.run_bind, Result.andThen]
theorem NSt.fin {w : World} {A : ByteArray} {a : Option Addr} {nn c : Nat} {l : List Lb} {m : Nat} {W W9 : World} (h : NSt w A a nn c l m W) (hh : ∀ j o, W.heap[j]? = some o → o.isCells = true → j ≠ w.heap.size → j ≠ w.heap.size + 1 → W9.heap[j]? = some o) (hs : W.heap.size ≤ W9.heap.size) : CAt W9 (w.heap.size + 2) A l := by
  obtain ⟨_, h3, _, _, _, h7, _, h9⟩ := h
  have e := hh _ _ h3 rfl (by omega) (by omega)
  refine ⟨a, nn, c, by omega, by simp [World.cell?, e], by simp [World.cell?, e], ?_⟩
  have hr := RowL.own h7
  refine ⟨hr.1, fun h0 => ?_⟩
  obtain ⟨g, cap', hv, _, hlt⟩ := h7.form h0
  injection hv with hA
  subst hA
  have hgB := (h7.lt g rfl).1
  have hblk : W9.heap[g]? = W.heap[g]? := by
    rcases h7.2 with ⟨hv, _⟩ | ⟨g', cap, cur, hv, _, hgb, _⟩
    · cases hv
    · injection hv with hv
      injection hv with hv
      injection hv with hv
      subst hv
      rw [hgb]
      exact hh _ _ hgb rfl (by omega) (by omega)
  obtain ⟨b, off, e2, hb, hc⟩ := hr.2 h0
  injection e2 with e2
  injection e2 with e3 e4
  subst e3
  subst e4
  exact ⟨g, 0, rfl, by omega, fun j hj => ⟨(World.cell?_of_block (w := W) hblk).trans (hc j hj).1, (World.cell?_of_block (w := W) hblk).trans (hc j hj).2⟩⟩
theorem below_put {w W : World} (h : Below w.heap.size w W) (D : Nat) (o : Obj) (hD : w.heap.size ≤ D) (hs : w.heap.size ≤ W.heap.size) : Below w.heap.size w (W.putObj D o) := h.grown (grownBy_putObj' W D o) hs (fun k hk => by injection hk with hk; omega)
end Go.Proofs.Ytomjdicedjdpnaa
