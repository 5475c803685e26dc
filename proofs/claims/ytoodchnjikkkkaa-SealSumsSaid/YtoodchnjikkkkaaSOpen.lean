/- Slices of slices of bytes that came in, as lists of lists. -/
import Derived.Test.YtoodchnjikkkkaaSSums
import Derived.Deep.Matrix
import Derived.SizedLaws
namespace Go.Proofs.Ytoodchnjikkkkaa
open Go.RowKit

theorem Row.of_cells {w : World} {a : Addr} {n : Nat} {v : Nat → Value} (hcell : ∀ i, i < n → w.cell? (a.add i) = some (v i)) : Row w w.heap.size (some a) n ((List.range n).map v) := by
  refine ⟨by simp, fun h0 => ?_⟩
  obtain ⟨b, off, spot⟩ := a
  have hspot : spot = none := by simpa [Addr.add] using World.cell?_spot (hcell 0 h0)
  subst hspot
  have hc : ∀ j, j < n → w.cell? ⟨b, off + j, none⟩ = some (v j) := fun j hj => by
    rw [← hcell j hj]
    unfold Addr.add
    split <;> simp_all
  refine ⟨b, off, rfl, World.block_lt_of_cell? w _ (hc 0 h0), fun j hj => ?_⟩
  rw [hc j hj]
  simp [hj]
theorem weights_mem_all {H : Type} {P : Program} {e : TypeId} : ∀ {ds : List (DataW H)} {d : DataW H}, d ∈ ds → ∀ n ∈ d.weights P e, n ∈ DataW.weightsAll P e ds
  | d0 :: ds, d, hd, n, hn => by
    simp only [DataW.weightsAll, List.mem_append]
    rcases List.mem_cons.1 hd with rfl | hd
    · exact .inl hn
    · exact .inr (weights_mem_all hd n hn)
theorem sized_rows {H : Type} {P : Program} {ts : List TypeId} {ds : List (DataW H)} (h : (DataW.weightsEach P ts ds).all (· ≤ reachBytes) = true) {j : Nat} {t e q : TypeId} {elems spare el sp : List (DataW H)} (ht : ts[j]? = some t) (hd : ds[j]? = some (.slice elems spare)) (hu : P.underlying t = some (.slice e)) (hq : P.underlying e = some (.slice q)) (hm : DataW.slice el sp ∈ elems) :
    (el.length + sp.length) * P.bytesOf q ≤ reachBytes := by
  have h1 : (el.length + sp.length) * P.bytesOf q ∈ (DataW.slice el sp : DataW H).weights P e := by simp [DataW.weights, hq]
  have h2 := weights_mem_all (P := P) (e := e) hm _ h1
  have h3 : (el.length + sp.length) * P.bytesOf q ∈ (DataW.slice elems spare : DataW H).weights P t := by
    simp only [DataW.weights, hu, List.mem_cons, List.mem_append]
    exact .inr (.inl h2)
  have := List.all_eq_true.1 h _ (DataW.weights_mem_each ht hd _ h3)
  simpa using this
theorem Lists.of_rows {w : World} {n : Nat} {A : Nat → Option Addr} {L C : Nat → Nat} {Z : Nat → List Int}
    (h : ∀ r, r < n → L r ≤ C r ∧ (Z r).length = C r ∧ (A r = none → C r = 0) ∧ ∀ a', A r = some a' → ∀ c, c < C r → w.cell? (a'.add c) = some (.int .u8 ((Z r).getD c 0))) :
    Lists w w.heap.size ((List.range n).map fun r => Value.slice (A r) (L r) (C r)) ((List.range n).map fun r => (Z r).take (L r)) := by
  refine ⟨by simp, fun j l hj => ?_⟩
  have hjn : j < n := by
    have := (List.getElem?_eq_some_iff.1 hj).1
    simpa using this
  simp [hjn] at hj
  subst hj
  obtain ⟨h1, h2, h3, h4⟩ := h j hjn
  have hlen : ((Z j).take (L j)).length = L j := by rw [List.length_take]; omega
  refine ⟨A j, C j, by simp [hjn, h2]; omega, ?_⟩
  rw [hlen]
  rcases hA : A j with _ | a'
  · have := h3 hA
    have h0 : L j = 0 := by omega
    rw [h0]
    exact Row.zero _ _ _
  · exact Row.of_ints (p := []) (c := 0) (fun i hi => h4 a' hA i (by omega)) (by omega) (by simp)

theorem Sums_law (A0 : Option Addr) (vs : List Value) (ls : List (List Int)) (N c0 : Nat) (s' : Int) (A : Option Addr) (l : List Int) (c : Nat) (w : World)
    (hr0 : Row w w.heap.size A0 N vs) (hl0 : Lists w w.heap.size vs ls) (hn0 : N * 24 ≤ 140737488351232) (hm0 : ∀ l ∈ ls, l.length ≤ 140737488351232) (hu0 : ∀ l ∈ ls, ∀ x ∈ l, (Lit.int .u8 x).wf = true)
    (hs' : (Lit.int .u32 s').wf = true) (hr : Row w w.heap.size A l.length (ints .u8 l)) (_hc : l.length ≤ c) (hs : c * 1 ≤ 140737488351232) (hu : ∀ x ∈ l, (Lit.int .u8 x).wf = true) :
    Calls Try.prog 3 #[.slice A0 N c0, .int .u32 s', .slice A l.length c] w fun e w' => e = .returned (.bool true) ∧ Below w.heap.size w w' :=
  Sums_walk A0 vs ls N c0 s' A l.length l c w hr0 hl0 (fun m hm => u8_of_wf (hu0 m hm)) hn0 hm0 hs' hr (by omega) (u8_of_wf hu)
end Go.Proofs.Ytoodchnjikkkkaa
