/- A call that leaves the world as it is may be taken first in a region that draws its order. -/
import Derived.Test.YtoodchnjikkkkaaSBack
import Derived.OrdersHeld
import Derived.Deep.RegionHeld3
namespace Go.Proofs.Ytoodchnjikkkkaa
open Go.RowKit

section
variable {P : Program} {ops : Array Oper} {Q : Exit → Act → World → Prop} {md : Region.Mode} {S : World → Prop}

/-- In state 'a', in every world that meets S, the call 'o' answers v and leaves that world as it is. -/
def StillCall (P : Program) (ops : Array Oper) (S : World → Prop) (o : Oper) (v : Value) (a : Act) : Prop :=
  Region.wanted o (yielded ops a.tmps) = true ∧ ∀ w, S w → ∃ f args, (execOp a.eval o).run P w = .ok (.enter f args) w ∧ Calls P f args w fun e w' => e = .returned v ∧ w = w'
/-- Two states at which an operation does the same. -/
def Alike (ops : Array Oper) (o : Oper) (a b : Act) : Prop := execOp b.eval o = execOp a.eval o ∧ Region.wanted o (yielded ops b.tmps) = Region.wanted o (yielded ops a.tmps)
theorem StillCall.alike {o : Oper} {v : Value} {a b : Act} (h : StillCall P ops S o v a) (k : Alike ops o a b) : StillCall P ops S o v b := by
  unfold StillCall
  rw [k.1, k.2]
  exact h
theorem StillCall.run {i : Nat} {o : Oper} {v : Value} {a : Act} {w : World} {K : Act → World → Prop} (h : StillCall P ops S o v a) (hi : ops[i]? = some o) (hS : S w) (hK : K (a.put o.dst v) w) : wpOp P ops Q i K a w := by
  obtain ⟨hw, h⟩ := h
  obtain ⟨f, args, hr, hc⟩ := h w hS
  unfold Go.wpOp
  simp only [hi, hw, if_true]
  left
  unfold Oper.wp
  rw [hr, Oper.upon_enter]
  refine hc.mono ?_
  rintro e w' ⟨rfl, rfl⟩
  exact hK
/-- What an operation leaves: its own slot, and a deferred call, are all that differs. -/
theorem wpOp_leaves {j : Nat} {oj : Oper} (hj : ops[j]? = some oj) {K : Act → World → Prop} {a : Act} {w : World} (h : wpOp P ops Q j K a w) :
    wpOp P ops Q j (fun b w' => K b w' ∧ ∃ (ds : List Deferred) (u : Value), b = ({ a with defers := ds } : Act).put oj.dst u) a w := by
  have own : ∀ u, ∃ (ds : List Deferred) (u' : Value), a.put oj.dst u = ({ a with defers := ds } : Act).put oj.dst u' := fun u => ⟨a.defers, u, rfl⟩
  unfold Go.wpOp at h ⊢
  simp only [hj] at h ⊢
  by_cases hw : Region.wanted oj (yielded ops a.tmps) = true
  · rw [if_pos hw] at h ⊢
    refine h.imp (fun h => ?_) id
    unfold Oper.wp at h ⊢
    cases hr : (execOp a.eval oj).run P w with
    | ok n w' =>
      rw [hr] at h
      cases n with
      | value u => exact ⟨h, own u⟩
      | skip => exact ⟨h, own _⟩
      | defer d => exact ⟨h, _, _, rfl⟩
      | enter f args =>
        rw [Oper.upon_enter] at h ⊢
        refine h.mono fun e w'' he => ?_
        cases e with
        | returned u => exact ⟨he, own u⟩
        | panicked c => exact he
        | outgrown => exact he
      | row r args =>
        rw [Oper.upon_row] at h ⊢
        exact Rows.mono h fun u w'' he => ⟨he, own u⟩
      | _ => exact h
    | halt x w' =>
      rw [hr] at h
      cases x <;> exact h
  · rw [if_neg hw] at h ⊢
    exact ⟨h, own _⟩
/-- A call that leaves the world as it is may be taken first, if every other operation that is not done yet waits for it or is apart from it. -/
theorem wpAnyH_stillFirst {i : Nat} {oi : Oper} {v : Value} (hi : ops[i]? = some oi) (hsel : ∀ (j : Nat) (o : Oper) cs b, ops[j]? = some o → o.op ≠ .select cs b)
    (hQ : ∀ c a w, Q (.panic c) (a.put oi.dst v) w → Q (.panic c) a w) :
    ∀ (fuel : Nat) (listed : Array Bool) (a : Act) (w : World),
      (∀ j oj, ops[j]? = some oj → j ≠ i → listed.getD j true = false → (∀ e ∈ oj.after, Region.binds md e = true → e.on ≠ i) → oi.apart ops oj = true) →
      i ∈ Region.ready md ops listed → StillCall P ops S oi v a → S w → wpAnyH P md ops Q S fuel (listed.setIfInBounds i true) (a.put oi.dst v) w → wpAnyH P md ops Q S (fuel + 1) listed a w := by
  intro fuel
  induction fuel with
  | zero =>
    intro listed a w _ hr hy hS H
    refine ⟨fun h => absurd hr (by rw [h]; exact List.not_mem_nil), fun j hj => ?_⟩
    by_cases hji : j = i
    · subst hji
      exact hy.run hi hS ⟨hS, H⟩
    · have h := ready_mono hj hji
      rw [H.1] at h
      exact absurd h List.not_mem_nil
  | succ n ih =>
    intro listed a w hfree hr hy hS H
    refine ⟨fun h => absurd hr (by rw [h]; exact List.not_mem_nil), fun j hj => ?_⟩
    by_cases hji : j = i
    · subst hji
      exact hy.run hi hS ⟨hS, H⟩
    have h1 := H.2 j (ready_mono hj hji)
    obtain ⟨hun, oj, hoj, hall⟩ := mem_ready.1 hj
    have hno : ∀ e ∈ oj.after, Region.binds md e = true → e.on ≠ i := by
      rintro e he hb rfl
      have k1 := hall e he hb
      have k0 := (mem_ready.1 hr).1
      simp only [Array.getD_eq_getD_getElem?] at k0 k1
      cases hx : listed[e.on]? with
      | none => rw [hx] at k1; cases k1
      | some b => rw [hx] at k0 k1; cases b <;> cases k0 <;> cases k1
    have hap := hfree j oj hoj hji hun hno
    have h3 := wpOp_leaves hoj (wpOp_putIf (S := fun _ => False) hoj hap (fun cs b => hsel i oi cs b hi) (fun cs b => hsel j oj cs b hoj) hQ (.inl ⟨hy.1, fun _ h => h.elim⟩) h1)
    refine wpOp_mono (fun a' w' h => ?_) h3
    obtain ⟨⟨_, hS', hK⟩, ds, u, rfl⟩ := h
    have hd := (Oper.apart_spec hap).2.2
    refine ⟨hS', ih (listed.setIfInBounds j true) _ w' (fun k ok hk hki hun' hno' => ?_) (ready_mono hr (Ne.symm hji)) (hy.alike ⟨?_, ?_⟩) hS' (by rw [Array.setIfInBounds_comm _ _ hji]; exact hK)⟩
    · refine hfree k ok hk hki ?_ hno'
      by_cases hjk : j = k
      · subst hjk; exact hun
      · rwa [getD_set_ne true hjk] at hun'
    · exact execOp_put oi (fun cs b => hsel i oi cs b hi) _ oj.dst u hd
    · exact wanted_put oi _ oj.dst u hd
theorem wpAnyH_still {i : Nat} {oi : Oper} {v : Value} {fuel : Nat} {listed : Array Bool} {a : Act} {w : World} (hi : ops[i]? = some oi)
    (hs : Region.noSelect ops = true) (hf : Region.free md ops listed i = true) (hr : (Region.ready md ops listed).contains i = true)
    (hQ : ∀ c a w, Q (.panic c) (a.put oi.dst v) w → Q (.panic c) a w) (hS : S w) (hy : StillCall P ops S oi v a)
    (h : wpAnyH P md ops Q S fuel (listed.setIfInBounds i true) (a.put oi.dst v) w) : wpAnyH P md ops Q S (fuel + 1) listed a w :=
  wpAnyH_stillFirst hi (Region.noSelect_spec hs) hQ fuel listed a w (Region.free_spec hi hf) (by simpa using hr) hy hS h
/-- What is held may be narrowed on the way. -/
theorem wpAnyH_narrow {T : World → Prop} (hT : ∀ w, T w → S w) : ∀ (fuel : Nat) (listed : Array Bool) (a : Act) (w : World), wpAnyH P md ops Q T fuel listed a w → wpAnyH P md ops Q S fuel listed a w
  | 0, _, _, _, h => h
  | n + 1, _, _, _, h => ⟨h.1, fun i hi => wpOp_mono (fun a' w' h' => ⟨hT w' h'.1, wpAnyH_narrow hT n _ a' w' h'.2⟩) (h.2 i hi)⟩
end
end Go.Proofs.Ytoodchnjikkkkaa
