/- A struct of a text and a slice of pairs of texts, in a block of its own. -/
import Derived.Test.YtomjdicedjdpnaaCMath
import Derived.Test.YtomjdicedjdpnaaLEq
namespace Go.Proofs.Ytomjdicedjdpnaa
open Go.RowKit

/-- The block at w's end holds a text and a slice of pairs, whose row is in memory of its own behind it. -/
def CSt (w : World) (T e : TypeId) (A : ByteArray) (a : Option Addr) (n c : Nat) (l : List Lb) (W : World) : Prop :=
  W.heap[w.heap.size]? = some (.cells #[.string A, .slice a n c] T (0, 0)) ∧ W.ownsRow (w.heap.size + 1) e 2 (.slice a n c) n (cL l) ∧ Below w.heap.size w W
theorem CSt.new (w : World) (T e : TypeId) : CSt w T e ByteArray.empty none 0 0 [] (w.alloc (.cells #[.string ByteArray.empty, .slice none 0 0] T)) :=
  ⟨heap_alloc_new _ _, World.ownsRow_nil _ _ _ _, (Below.refl _ w).alloc (Nat.le_refl _) _⟩
theorem CSt.lt {w : World} {T e : TypeId} {A : ByteArray} {a : Option Addr} {n c : Nat} {l : List Lb} {W : World} (h : CSt w T e A a n c l W) : w.heap.size < W.heap.size := (Array.getElem?_eq_some_iff.1 h.1).1
theorem CSt.on {w : World} {T e : TypeId} {A : ByteArray} {a : Option Addr} {n c : Nat} {l : List Lb} {W W' : World} (h : CSt w T e A a n c l W) (hb : Below W.heap.size W W') : CSt w T e A a n c l W' :=
  ⟨(hb.block _ h.lt).trans h.1, own_onL h.2.1 hb, next h.2.2 hb⟩
theorem CSt.len {w : World} {T e : TypeId} {A : ByteArray} {a : Option Addr} {n c : Nat} {l : List Lb} {W : World} (h : CSt w T e A a n c l W) : l.length = n := by have := h.2.1.1; rw [cL_len] at this; omega
theorem CSt.c0 {w : World} {T e : TypeId} {A : ByteArray} {a : Option Addr} {n c : Nat} {l : List Lb} {W : World} (h : CSt w T e A a n c l W) : W.cell? ⟨w.heap.size, 0, none⟩ = some (.string A) ∧ W.cell? ⟨w.heap.size, 1, none⟩ = some (.slice a n c) ∧ W.frozen? ⟨w.heap.size, 0, none⟩ = false ∧ W.frozen? ⟨w.heap.size, 1, none⟩ = false := by
  have h1 := h.1
  refine ⟨?_, ?_, ?_, ?_⟩ <;> simp [World.cell?, World.frozen?, h1]
theorem CSt.row {w : World} {T e : TypeId} {A : ByteArray} {a : Option Addr} {n c : Nat} {l : List Lb} {W : World} (h : CSt w T e A a n c l W) : RowL W W.heap.size a n l := RowL.own h.2.1
/-- Its text is another one. -/
theorem CSt.ahead {w : World} {T e : TypeId} {A : ByteArray} {a : Option Addr} {n c : Nat} {l : List Lb} {W : World} (h : CSt w T e A a n c l W) (A' : ByteArray) : CSt w T e A' a n c l (W.setCell ⟨w.heap.size, 0, none⟩ (.string A')) := by
  refine ⟨by simp [World.setCell, Array.getElem?_modify, h.1], ?_, h.2.2.setCell (p := ⟨w.heap.size, 0, none⟩) (Nat.le_refl _) _⟩
  refine h.2.1.kept (row := some w.heap.size) ⟨rfl, rfl, rfl, by simp [World.setCell], fun k _ hk => Below.heap_setCell _ _ _ _ (fun e => hk (by simp [e]))⟩ (.inr ?_)
  intro e
  have := (h.2.1.lt _ e).1
  omega
/-- Its slice is another one, whose row is grown meanwhile. -/
theorem CSt.put {w : World} {T e : TypeId} {A : ByteArray} {a a' : Option Addr} {n c n' c' : Nat} {l l' : List Lb} {W W' : World} (h : CSt w T e A a n c l W) (ho : W'.ownsRow (w.heap.size + 1) e 2 (.slice a' n' c') n' (cL l')) (hb : Below (w.heap.size + 1) W W') :
    CSt w T e A a' n' c' l' (W'.setCell ⟨w.heap.size, 1, none⟩ (.slice a' n' c')) ∧ W'.cell? ⟨w.heap.size, 1, none⟩ = some (.slice a n c) ∧ W'.frozen? ⟨w.heap.size, 1, none⟩ = false ∧ W'.cell? ⟨w.heap.size, 0, none⟩ = some (.string A) := by
  have h1 : W'.heap[w.heap.size]? = some (.cells #[.string A, .slice a n c] T (0, 0)) := (hb.block _ (by omega)).trans h.1
  refine ⟨⟨by simp [World.setCell, Array.getElem?_modify, h1], ?_, (h.2.2.trans (hb.mono (by omega))).setCell (p := ⟨w.heap.size, 1, none⟩) (Nat.le_refl _) _⟩, by simp [World.cell?, h1], by simp [World.frozen?, h1], by simp [World.cell?, h1]⟩
  refine ho.kept (row := some w.heap.size) ⟨rfl, rfl, rfl, by simp [World.setCell], fun k _ hk => Below.heap_setCell _ _ _ _ (fun e => hk (by simp [e]))⟩ (.inr ?_)
  intro e
  have := (ho.lt _ e).1
  omega
theorem cL_set2 : ∀ (l : List Lb) (x : Lb) (u : ByteArray), (cL (l ++ [x])).set (l.length * 2 + 1) (.string u) = cL (l ++ [(x.1, u)])
  | [], x, u => rfl
  | y :: l, x, u => by
    have := cL_set2 l x u
    rw [List.cons_append, List.cons_append, cL, cL, List.length_cons, show (l.length + 1) * 2 + 1 = l.length * 2 + 1 + 1 + 1 by omega, List.set_cons_succ, List.set_cons_succ, this]
/-- The last pair's second text is another one. -/
theorem CSt.last {w : World} {T e : TypeId} {A : ByteArray} {a : Option Addr} {n c : Nat} {l : List Lb} {x : Lb} {W : World} (h : CSt w T e A a n c (l ++ [x]) W) :
    ∃ g, a = some ⟨g, 0, none⟩ ∧ W.cell? ⟨g, l.length * 2, none⟩ = some (.string x.1) ∧ W.cell? ⟨g, l.length * 2 + 1, none⟩ = some (.string x.2) ∧ W.frozen? ⟨g, l.length * 2 + 1, none⟩ = false ∧ w.heap.size < g ∧
      ∀ u : ByteArray, CSt w T e A a n c (l ++ [(x.1, u)]) (W.setCell ⟨g, l.length * 2 + 1, none⟩ (.string u)) := by
  have hn := h.len
  simp only [List.length_append, List.length_singleton] at hn
  obtain ⟨g, cap', hv, _, hlt⟩ := h.2.1.form (by omega)
  injection hv with hA
  subst hA
  have hg := (h.2.1.lt g rfl).1
  have hc := cL_get (l ++ [x]) l.length (by simp)
  rw [show (l ++ [x]).getD l.length noL = x by simp [List.getD_eq_getElem?_getD]] at hc
  have hfr := h.2.1.frozenAt (l.length * 2 + 1)
  refine ⟨g, rfl, (h.2.1.cellAt (l.length * 2) (by omega)).trans hc.1, (h.2.1.cellAt (l.length * 2 + 1) (by omega)).trans hc.2, hfr, by omega, fun u => ⟨?_, ?_, ?_⟩⟩
  · rw [Below.heap_setCell _ _ _ _ (by show w.heap.size ≠ g; omega)]
    exact h.1
  · have h2 := (h.2.1.stored (l.length * 2 + 1) (.string u)).1
    rwa [cL_set2] at h2
  · exact h.2.2.setCell (p := ⟨g, l.length * 2 + 1, none⟩) (by show w.heap.size ≤ g; omega) _
end Go.Proofs.Ytomjdicedjdpnaa
