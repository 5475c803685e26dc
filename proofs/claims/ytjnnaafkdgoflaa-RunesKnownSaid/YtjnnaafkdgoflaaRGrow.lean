/- slices.Grow of a nil Set. -/
import Derived.Test.YtjnnaafkdgoflaaROf
import Derived.Lib.AppendZeros
namespace Go.Proofs.Ytjnnaafkdgoflaa
open Go.RowKit

theorem wpList_append_ran {P : Program} {ops : Array Oper} {rest : List Oper} {o : Oper} {a : Act} {w : World} {Q : Exit → Act → World → Prop} (hgd : o.guard = none) (s x : Operand) (t u : TypeId)
    (ho : o.op = .call { callee := .builtin .append, args := #[s, x], argTypes := #[t, u] }) {v : Value} {w' : World} (hr : (Builtin.append_ #[t, u] o.type #[a.eval s, a.eval x]).run P w = .ok v w') (h : wpList P ops Q rest (a.put o.dst v) w') : wpList P ops Q (o :: rest) a w := by
  refine wpList_plain hgd fun K hK => ?_
  unfold Oper.wp
  simp only [execOp, ho, resolve, invoke, builtin, Sem.run_bind, Sem.run_pure, Result.andThen_ok, List.map_toArray, List.map_cons, List.map_nil, hr]
  exact hK _ _ h
set_option maxRecDepth 100000 in
set_option maxHeartbeats 1000000 in
theorem Grow_any (k : Nat) (hk : k ≤ 100000000) (w : World) : Calls Try.prog 42 #[.slice none 0 0, .int .i64 (k : Int)] w fun e w' => ∃ v, e = .returned v ∧ w'.ownsRow w.heap.size 47 2 v 0 [] ∧ Below w.heap.size w w' := by
  obtain ⟨i0, hi0, hz0, hz1, hz2⟩ := info_parts pg_info
  rcases Nat.eq_zero_or_pos k with h0 | h0
  · subst h0
    go_enter Try.func42, Try.ntmps42
    go_wp2
    go_ret
    exact ⟨_, rfl, World.ownsRow_nil _ _ _ _, Below.refl _ _⟩
  · have hk0 : (0 : Int) < (k : Int) := by omega
    have f1 : decide ((k : Int) < 0) = false := decide_eq_false (by omega)
    have f2 : decide ((0 : Int) < (k : Int)) = true := decide_eq_true hk0
    have w1 : IntKind.i64.wrap (k : Int) = (k : Int) := wrap_ok (by omega) (by omega)
    have hr := Lib.run_append_nil_zeros (P := Try.prog) w 24 3 24 47 i0 _ .i64 .i64 Try.underlying24 Try.underlying3 hi0 hz0 k h0 (by omega) (by omega) (by rw [hz2]; omega)
    have hm := grownCap_le_maxLen w k 0 47 (by unfold maxLen; omega)
    have HM := Lib.hid (fun cur (hs : cur.size = grownCap w k 0 47 * 2) => World.ownsRow_made (base := w.heap.size) (e := 47) (size := 2) w.drew cur _ (Nat.le_refl _) hm hs)
    have HS : Hid ((Builtin.zeroCells (Value.agg #[.int .i64 0, .int .i64 0]).cells k ++ Builtin.zeroCells (Value.agg #[.int .i64 0, .int .i64 0]).cells (grownCap w k 0 47 - k)).size = grownCap w k 0 47 * 2) := Lib.hid (by
      have := grownCap_ge w k 0 47
      simp [Value.cells, Builtin.zeroCells]
      omega)
    generalize grownCap w k 0 47 = cp at *
    generalize Builtin.zeroCells (Value.agg #[.int .i64 0, .int .i64 0]).cells k ++ Builtin.zeroCells (Value.agg #[.int .i64 0, .int .i64 0]).cells (cp - k) = cur at *
    go_enter Try.func42, Try.ntmps42
    go_wp2_with (at_builtin; refine wpList_append_ran rfl (.tmp 20) (.tmp 21) 24 3 rfl hr ?_)
    go_wp2_with fail
    go_ret
    exact ⟨_, rfl, HM.out cur HS.out, (Below.refl _ w).drew.alloc (Nat.le_refl _) _⟩
end Go.Proofs.Ytjnnaafkdgoflaa
