/- The program's New: its memory while it ranges. -/
import Derived.Test.YtomjdicedjdpnaaCNewM
namespace Go.Proofs.Ytomjdicedjdpnaa
open Go.RowKit Go.Shelf Go.Maps Go.WideMaps

/-- Memory while New ranges: the results' boxes, the struct, the box of c, the map, its box, the captures' row. -/
def NSt (w : World) (A : ByteArray) (a : Option Addr) (n c : Nat) (l : List Lb) (m : Nat) (W : World) : Prop :=
  (Boxed W w.heap.size 23 (.pointer none) ∧ Boxed W (w.heap.size + 1) 24 (.int .i64 0)) ∧
  W.heap[w.heap.size + 2]? = some (.cells #[.string A, .slice a n c] 56 (0, 0)) ∧
  Boxed W (w.heap.size + 3) 23 (.pointer (some ⟨w.heap.size + 2, 0, none⟩)) ∧
  W.ownsMap Try.prog 9 (unitElem (H := Unit)) (w.heap.size + 4) m (Sn (nmsL l)) ∧
  Boxed W (w.heap.size + 5) 58 (.map (some (w.heap.size + 4))) ∧
  W.ownsRow (w.heap.size + 7) 62 2 (.slice a n c) n (cL l) ∧
  Below w.heap.size w W ∧ w.heap.size + 7 ≤ W.heap.size
theorem NSt.len {w : World} {A : ByteArray} {a : Option Addr} {n c : Nat} {l : List Lb} {m : Nat} {W : World} (h : NSt w A a n c l m W) : l.length = n := by have := h.2.2.2.2.2.1.1; rw [cL_len] at this; omega
theorem NSt.kept {w : World} {A : ByteArray} {a : Option Addr} {n c : Nat} {l : List Lb} {m : Nat} {W W' : World} {row : Option Nat} (h : NSt w A a n c l m W) (hg : W.grownBy W' row) (hr : ∀ r, row = some r → w.heap.size + 7 ≤ r ∧ ∃ o : Obj, W.heap[r]? = some o ∧ o.isCells = false) : NSt w A a n c l m W' := by
  obtain ⟨⟨h1, h2⟩, h3, h4, h5, h6, h7, h8, h9⟩ := h
  have hne : ∀ k, k < w.heap.size + 7 → some k ≠ row := fun k hk e => by
    have := (hr k e.symm).1
    omega
  refine ⟨⟨h1.kept hg (hne _ (by omega)), h2.kept hg (hne _ (by omega))⟩, (hg.block _ (by omega) (hne _ (by omega))).trans h3, h4.kept hg (hne _ (by omega)), h5.kept hg (hne _ (by omega)), h6.kept hg (hne _ (by omega)), ?_, ?_, Nat.le_trans h9 hg.size⟩
  · refine h7.kept hg ?_
    rcases h7.2 with ⟨hv, _⟩ | ⟨g, cap, cur, hv, _, hgb, _⟩
    · left; rw [hv]; rfl
    · right
      rw [hv]
      intro e
      obtain ⟨_, o, ho, hc⟩ := hr g e.symm
      rw [hgb] at ho
      injection ho with ho
      rw [← ho] at hc
      cases hc
  · exact h8.grown hg (by omega) (fun k hk => by have := (hr k hk).1; omega)
theorem NSt.own {w : World} (N : Nat) : OwnFrom (w.heap.size + 7 + N) (fun (s : ByteArray × Option Addr × Nat × Nat × List Lb × Nat) W => NSt w s.1 s.2.1 s.2.2.1 s.2.2.2.1 s.2.2.2.2.1 s.2.2.2.2.2 W) := fun _ _ _ _ h hg hr => h.kept hg (fun r e => ⟨by have := (hr r e).1; omega, (hr r e).2⟩)
theorem NSt.c0 {w : World} {A : ByteArray} {a : Option Addr} {n c : Nat} {l : List Lb} {m : Nat} {W : World} (h : NSt w A a n c l m W) : W.cell? ⟨w.heap.size + 2, 0, none⟩ = some (.string A) ∧ W.cell? ⟨w.heap.size + 2, 1, none⟩ = some (.slice a n c) ∧ W.frozen? ⟨w.heap.size + 2, 0, none⟩ = false ∧ W.frozen? ⟨w.heap.size + 2, 1, none⟩ = false := by
  have h1 := h.2.1
  refine ⟨?_, ?_, ?_, ?_⟩ <;> simp [World.cell?, World.frozen?, h1]
/-- The text ahead is another one. -/
theorem NSt.ahead {w : World} {A : ByteArray} {a : Option Addr} {n c : Nat} {l : List Lb} {m : Nat} {W : World} (h : NSt w A a n c l m W) (A' : ByteArray) : NSt w A' a n c l m (W.setCell ⟨w.heap.size + 2, 0, none⟩ (.string A')) := by
  obtain ⟨⟨h1, h2⟩, h3, h4, h5, h6, h7, h8, h9⟩ := h
  have hg : W.grownBy (W.setCell ⟨w.heap.size + 2, 0, none⟩ (.string A')) (some (w.heap.size + 2)) := ⟨rfl, rfl, rfl, by simp [World.setCell], fun k _ hk => Below.heap_setCell _ _ _ _ (fun e => hk (by simp [e]))⟩
  refine ⟨⟨h1.kept hg (by simp), h2.kept hg (by simp)⟩, by simp [World.setCell, Array.getElem?_modify, h3], h4.kept hg (by simp), h5.kept hg (by simp), h6.kept hg (by simp), h7.kept hg (.inr fun e => ?_), h8.setCell (p := ⟨w.heap.size + 2, 0, none⟩) (by show w.heap.size ≤ w.heap.size + 2; omega) _, by rw [World.size_setCell]; exact h9⟩
  have := (h7.lt _ e).1
  omega
/-- A name more is known. -/
theorem NSt.known {w : World} {A : ByteArray} {a : Option Addr} {n c : Nat} {l : List Lb} {m m' : Nat} {W W' : World} (h : NSt w A a n c l m W) {D : DataW Unit} (hm : W'.ownsMap Try.prog 9 (unitElem (H := Unit)) (w.heap.size + 4) m' D) (hg : W.grownBy W' (some (w.heap.size + 4))) :
    ∀ (a' : Option Addr) (n' c' : Nat) (l' : List Lb) (V : World), D = Sn (nmsL l') → V.ownsRow (w.heap.size + 7) 62 2 (.slice a' n' c') n' (cL l') → Below (w.heap.size + 7) W' V →
      NSt w A a' n' c' l' m' (V.setCell ⟨w.heap.size + 2, 1, none⟩ (.slice a' n' c')) := by
  obtain ⟨⟨h1, h2⟩, h3, h4, h5, h6, h7, h8, h9⟩ := h
  intro a' n' c' l' V hD ho hb
  have hgV : W.grownBy V (some (w.heap.size + 4)) → True := fun _ => trivial
  have hbk : ∀ k, k < w.heap.size + 7 → k ≠ w.heap.size + 4 → V.heap[k]? = W.heap[k]? := fun k hk hne => (hb.block k hk).trans (hg.block k (by omega) (fun e => by injection e with e; omega))
  have b1 : Boxed V w.heap.size 23 (.pointer none) := (hbk _ (by omega) (by omega)).trans h1
  have b2 : Boxed V (w.heap.size + 1) 24 (.int .i64 0) := (hbk _ (by omega) (by omega)).trans h2
  have b3 : V.heap[w.heap.size + 2]? = some (.cells #[.string A, .slice a n c] 56 (0, 0)) := (hbk _ (by omega) (by omega)).trans h3
  have b4 : Boxed V (w.heap.size + 3) 23 (.pointer (some ⟨w.heap.size + 2, 0, none⟩)) := (hbk _ (by omega) (by omega)).trans h4
  have b6 : Boxed V (w.heap.size + 5) 58 (.map (some (w.heap.size + 4))) := (hbk _ (by omega) (by omega)).trans h6
  have b5 : V.ownsMap Try.prog 9 (unitElem (H := Unit)) (w.heap.size + 4) m' D := by
    obtain ⟨es, clock, q1, q2⟩ := hm
    exact ⟨es, clock, (hb.block _ (by omega)).trans q1, q2⟩
  have b8 : Below w.heap.size w V := (h8.grown hg (by omega) (fun k hk => by injection hk with hk; omega)).trans (hb.mono (by omega))
  have hs : W.heap.size ≤ V.heap.size := Nat.le_trans hg.size hb.size
  have hgc : V.grownBy (V.setCell ⟨w.heap.size + 2, 1, none⟩ (.slice a' n' c')) (some (w.heap.size + 2)) := ⟨rfl, rfl, rfl, by simp [World.setCell], fun k _ hk => Below.heap_setCell _ _ _ _ (fun e => hk (by simp [e]))⟩
  rw [hD] at b5
  refine ⟨⟨b1.kept hgc (by simp), b2.kept hgc (by simp)⟩, by simp [World.setCell, Array.getElem?_modify, b3], b4.kept hgc (by simp), b5.kept hgc (by simp), b6.kept hgc (by simp), ho.kept hgc (.inr fun e => ?_), b8.setCell (p := ⟨w.heap.size + 2, 1, none⟩) (by show w.heap.size ≤ w.heap.size + 2; omega) _, by rw [World.size_setCell]; omega⟩
  have := (ho.lt _ e).1
  omega
/-- .. no name more. -/
theorem NSt.same {w : World} {A : ByteArray} {a : Option Addr} {n c : Nat} {l : List Lb} {m : Nat} {W : World} (h : NSt w A a n c l m W) :
    ∀ (a' : Option Addr) (n' c' : Nat) (l' : List Lb) (V : World), nmsL l = nmsL l' → V.ownsRow (w.heap.size + 7) 62 2 (.slice a' n' c') n' (cL l') → Below (w.heap.size + 7) W V →
      NSt w A a' n' c' l' m (V.setCell ⟨w.heap.size + 2, 1, none⟩ (.slice a' n' c')) :=
  fun a' n' c' l' V hD ho hb => h.known (D := Sn (nmsL l)) h.2.2.2.1 ⟨rfl, rfl, rfl, Nat.le_refl _, fun _ _ _ => rfl⟩ a' n' c' l' V (by rw [hD]) ho hb
/-- New was left on the way. -/
def Left5 (w W : World) : Prop := Boxed W w.heap.size 23 (.pointer none) ∧ Boxed W (w.heap.size + 1) 24 (.int .i64 180) ∧ Below w.heap.size w W ∧ w.heap.size + 7 ≤ W.heap.size
theorem NSt.left {w : World} {A : ByteArray} {a : Option Addr} {n c : Nat} {l : List Lb} {m : Nat} {W : World} (h : NSt w A a n c l m W) : Left5 w ((W.setCell ⟨w.heap.size, 0, none⟩ (.pointer none)).setCell ⟨w.heap.size + 1, 0, none⟩ (.int .i64 180)) := by
  obtain ⟨⟨h1, h2⟩, _, _, _, _, _, h8, h9⟩ := h
  have e1 : W.heap[w.heap.size]? = some (.cells #[.pointer none] 23 (0, 0)) := h1
  have e2 : W.heap[w.heap.size + 1]? = some (.cells #[.int .i64 0] 24 (0, 0)) := h2
  refine ⟨?_, ?_, (h8.setCell (p := ⟨w.heap.size, 0, none⟩) (Nat.le_refl _) _).setCell (p := ⟨w.heap.size + 1, 0, none⟩) (by show w.heap.size ≤ w.heap.size + 1; omega) _, by rw [World.size_setCell, World.size_setCell]; exact h9⟩
  · unfold Boxed
    rw [Below.heap_setCell _ _ _ _ (by show _ ≠ w.heap.size + 1; omega)]
    simp [World.setCell, Array.getElem?_modify, e1]
  · unfold Boxed
    have e3 : (W.setCell ⟨w.heap.size, 0, none⟩ (.pointer none)).heap[w.heap.size + 1]? = some (.cells #[.int .i64 0] 24 (0, 0)) := (Below.heap_setCell _ _ _ _ (by show _ ≠ w.heap.size; omega)).trans e2
    generalize W.setCell ⟨w.heap.size, 0, none⟩ (.pointer none) = V at *
    simp [World.setCell, Array.getElem?_modify, e3]
theorem Left5.kept {w W W' : World} {row : Option Nat} (h : Left5 w W) (hg : W.grownBy W' row) (hr : ∀ r, row = some r → w.heap.size + 7 ≤ r ∧ ∃ o : Obj, W.heap[r]? = some o ∧ o.isCells = false) : Left5 w W' := by
  obtain ⟨h1, h2, h3, h4⟩ := h
  have hne : ∀ k, k < w.heap.size + 7 → some k ≠ row := fun k hk e => by have := (hr k e.symm).1; omega
  exact ⟨h1.kept hg (hne _ (by omega)), h2.kept hg (hne _ (by omega)), h3.grown hg (by omega) (fun k hk => by have := (hr k hk).1; omega), Nat.le_trans h4 hg.size⟩
end Go.Proofs.Ytomjdicedjdpnaa
