/-
  SealSums: the walk (theorem 'Sums_law') carried to the given statement: whatever the arguments, the call returns true and leaves them as they were.
  Condition: the statement's own; none besides.
-/
import Derived.Test.YtoodchnjikkkkaaSOpen
import Derived.ProofKit
import Derived.OpenShut
import Derived.ShutString
import Derived.ChangeOld
import Derived.Below
import Derived.SizedLaws
namespace Go.Proofs.Ytoodchnjikkkkaa.sealSums
open Go.ChangeShapes Go.WideShapes Go.ChangeAt Go.RowKit
open Go.ChangeMaps (open_string shut_string)
set_option linter.unusedVariables false

theorem own : ownKnob Try.prog.godebug = none := by kernel_rfl
theorem laidOut : laidOutB Try.prog = true := by kernel_rfl

set_option maxRecDepth 100000 in
theorem lifted (os : Os) (started : os.Started) (H : Type) (enc : TypeId × Value → H) :
    ReturnsInHanded {} Try.checked os 3 .any (Rows.sealSumsSpec.pre6 enc Try.prog Try.f3 Rows.sealSumsRow.domain false) (Rows.sealSumsSpec.post enc Try.prog Try.f3 false true false false) := by
  refine returnsInHanded_of_change_sized (C := Try.checked) own started (by kernel_rfl) Try.func3
    (ChangeSpec.witness6 (enc := enc) (C := Try.checked) false ⟨#[], #[.slice none 0 0, .int .u32 0, .slice none 0 0], []⟩ 8 (by kernel_rfl) (by kernel_rfl) (by kernel_rfl) (by kernel_rfl)) ?_
  intro W base args ds gs before hval0 hW hcnd hsz0 _
  have hsz : (DataW.weightsEach Try.prog (Try.f3.params.toList ++ Rows.sealSumsSpec.plain.varTypes Try.prog) (ds ++ gs)).all (· ≤ reachBytes) = true := hsz0
  have hval : ∀ (j : Nat) t v, Try.f3.params[j]? = some t → args[j]? = some v → Value.okWide Try.prog W .any base t v := hval0
  have hW' := hW
  obtain ⟨p, q, hA0, hV, rfl, hfz, hnd⟩ := hW
  have hA : DataW.TrodAll enc Try.prog W 0 (fun _ => true) true Try.f3.params.toList args.toList ds p := hA0
  rw [Try.params3] at hA hval hsz
  obtain ⟨v0, vs0, d0, ds0, p0, q0, hargs, rfl, rfl, h0, r0⟩ := trodAll_cons hA
  obtain ⟨v1, vs1, d1, ds1, p1, q1, rfl, rfl, rfl, h1, r1⟩ := trodAll_cons r0
  obtain ⟨v2, vs2, d2, ds2, p2, q2, rfl, rfl, rfl, h2, r2⟩ := trodAll_cons r1
  obtain ⟨rfl, rfl, rfl⟩ := trodAll_nil r2
  obtain rfl : args = #[v0, v1, v2] := by cases args; simp_all
  obtain ⟨rfl, rfl⟩ := trodVars_none hV
  clear hA0 hval0 hsz0
  have k0 := h0
  have lt0 : ∀ x ∈ p0, x.block < W.heap.size := by obtain ⟨m, hm⟩ := k0; exact DataW.trod_lt m _ _ _ hm
  have k1 := h1
  have lt1 : ∀ x ∈ p1, x.block < W.heap.size := by obtain ⟨m, hm⟩ := k1; exact DataW.trod_lt m _ _ _ hm
  have k2 := h2
  have lt2 : ∀ x ∈ p2, x.block < W.heap.size := by obtain ⟨m, hm⟩ := k2; exact DataW.trod_lt m _ _ _ hm
  obtain ⟨A0, n0, c0, rfl⟩ := okWide_slice Try.underlying22 (hval 0 22 v0 rfl rfl)
  obtain ⟨vs0, l0, hr0, hl0, hn0, hm0, hu0⟩ : ∃ (vs : List Value) (ls : List (List Int)), Row W W.heap.size A0 n0 vs ∧ Lists W W.heap.size vs ls ∧ n0 * 24 ≤ 140737488351232 ∧ (∀ l ∈ ls, l.length ≤ 140737488351232) ∧ ∀ l ∈ ls, ∀ x ∈ l, (Lit.int .u8 x).wf = true := by
    obtain ⟨fuel, hf⟩ := h0
    rcases Go.Deep.open_int_rows Try.underlying22 Try.underlying24 Try.underlying5 (by kernel_rfl) (by kernel_rfl) hf with ⟨hcs, hx⟩ | ⟨a, len, cap, A, L, C, Z, hcs, _, hl, hm, hx, hrows⟩
    · simp [Value.cells] at hcs
      obtain ⟨rfl, rfl, rfl⟩ := hcs
      exact ⟨[], [], Row.zero _ _ _, Lists.nil _ _, by simp, by simp, by simp⟩
    · simp [Value.cells] at hcs
      obtain ⟨rfl, rfl, rfl⟩ := hcs
      simp only [Prod.mk.injEq] at hx
      have hsl := sized_slice hsz (j := 0) (t := 22) (e := 24) rfl (by rw [← hx.1]; rfl) Try.underlying22
      rw [show Try.prog.bytesOf 24 = 24 by kernel_rfl] at hsl
      simp only [List.length_map, List.length_range, reachBytes] at hsl
      have hin : ∀ r, r < n0 → L r ≤ 140737488351232 := by
        intro r hr
        obtain ⟨_, h1, _, h2, _, h3, _⟩ := hrows r (by omega)
        rcases hA : A r with _ | a'
        · have := h3 hA
          omega
        · have hmem : (Go.DataW.slice (lits .u8 ((Z r).take (L r))) (lits .u8 ((Z r).drop (L r))) : DataW H) ∈ (List.range n0).map (fun r => Go.Deep.intRow .u8 (A r) (L r) (Z r)) := by
            refine List.mem_map.2 ⟨r, List.mem_range.2 hr, ?_⟩
            simp only [Go.Deep.intRow, hA]
          have hs2 := sized_rows hsz (j := 0) (t := 22) (e := 24) (q := 5) rfl (by rw [← hx.1]; rfl) Try.underlying22 Try.underlying24 hmem
          rw [show Try.prog.bytesOf 5 = 1 by kernel_rfl] at hs2
          simp only [lits, List.length_map, List.length_take, List.length_drop, reachBytes] at hs2
          omega
      refine ⟨_, _, Row.of_cells (v := fun r => Value.slice (A r) (L r) (C r)) (fun i hi => (hrows i (by omega)).1), Lists.of_rows (Z := Z) (fun r hr => ?_), by omega, ?_, ?_⟩
      · obtain ⟨_, h1, _, h2, _, h3, h4⟩ := hrows r (by omega)
        exact ⟨h1, h2, h3, fun a' ha => (h4 a' ha).2⟩
      · intro l hl
        obtain ⟨r, hr, rfl⟩ := List.mem_map.1 hl
        have := hin r (List.mem_range.1 hr)
        rw [List.length_take]
        omega
      · intro l hl x hx
        obtain ⟨r, hr, rfl⟩ := List.mem_map.1 hl
        exact (hrows r (by have := List.mem_range.1 hr; omega)).2.2.2.2.1 x (List.mem_of_mem_take hx)
  obtain ⟨a1, rfl, rfl, rfl, w1⟩ := open_int Try.underlying23 (hval 1 23 v1 rfl rfl) h1
  obtain ⟨A2, n2, c2, rfl⟩ := okWide_slice Try.underlying24 (hval 2 24 v2 rfl rfl)
  obtain ⟨l2, ln2, hr2, hc2, hs2, hu2⟩ : ∃ l : List Int, n2 = l.length ∧ Row W W.heap.size A2 l.length (ints .u8 l) ∧ l.length ≤ c2 ∧ c2 * 1 ≤ 140737488351232 ∧ ∀ x ∈ l, (Lit.int .u8 x).wf = true := by
    obtain ⟨fuel, hf⟩ := h2
    rcases open_ints Try.underlying24 Try.underlying5 (by kernel_rfl) hf with ⟨hcs, hx⟩ | ⟨x, l, c, zs, hcs, _, hl, hm, hz, hx, hcell, hwz⟩
    · simp [Value.cells] at hcs
      obtain ⟨rfl, rfl, rfl⟩ := hcs
      exact ⟨[], rfl, Row.zero _ _ _, by simp, by simp, by simp⟩
    · simp [Value.cells] at hcs
      obtain ⟨rfl, rfl, rfl⟩ := hcs
      simp only [if_true] at hz
      have hlen : (zs.take n2).length = n2 := by rw [List.length_take]; omega
      simp only [Prod.mk.injEq] at hx
      have hsl := sized_slice hsz (j := 2) (t := 24) (e := 5) rfl (by rw [← hx.1]; rfl) Try.underlying24
      rw [show Try.prog.bytesOf 5 = 1 by kernel_rfl] at hsl
      simp only [lits, List.length_map, List.length_take, List.length_drop, reachBytes] at hsl
      refine ⟨zs.take n2, hlen.symm, ?_, by omega, by omega, fun y hy => hwz y (List.mem_of_mem_take hy)⟩
      rw [hlen]
      exact Row.of_ints hcell (by omega) lt2
  subst ln2
  refine (Sums_law A0 vs0 l0 n0 c0 a1 A2 l2 c2 W hr0 hl0 hn0 hm0 hu0 w1 hr2 hc2 hs2 hu2).mono fun e W' ⟨he, bel⟩ => ?_
  subst he
  exact ⟨_, rfl, _, _, _, [], _, [], hW', trodAll_mk1 (shut_bool Try.underlying4 _), (trodAll_cons_mk (Below.trod laidOut (by kernel_rfl) (of_decide_eq_true (by kernel_rfl)) k0 bel lt0) (trodAll_cons_mk (Below.trod laidOut (by kernel_rfl) (of_decide_eq_true (by kernel_rfl)) k1 bel lt1) (trodAll_cons_mk (Below.trod laidOut (by kernel_rfl) (of_decide_eq_true (by kernel_rfl)) k2 bel lt2) trodAll_mk0))), rfl, bel.frame _, fun h => by cases h⟩

theorem over : Rows.sealSumsRow.holds Try.pinned (OpenSpec.ofChange Rows.sealSumsSpec) :=
  OpenClaim.holds_of_wide 3 Try.f3 rfl rfl rfl rfl rfl rfl rfl ⟨rfl, rfl, rfl, rfl, rfl⟩ rfl rfl rfl rfl rfl (by kernel_rfl) Try.func3 (by kernel_rfl)
    (of_decide_eq_true (by kernel_rfl)) (by unfold Func.isWrapper; first | (rw [if_pos (by decide +kernel)]; kernel_rfl) | (rw [if_neg (by decide +kernel)]; exact ⟨rfl, rfl⟩))
    (fun os started H enc _ => lifted os started H enc)

/-- SealSums: for every input the law returns true. -/
theorem proved : Rows.SealSumsSaid := over
#print axioms proved
end Go.Proofs.Ytoodchnjikkkkaa.sealSums
