/- Ranging over a text's runes: the iterator; Runes. -/
import Derived.RangeFuncNested
import Derived.RangeFuncBound
import Derived.RangeFuncCalls
import Derived.RangeFuncLeaves
import Derived.RangeFuncBox
import Derived.RangeFuncWrites
import Derived.Shelf.Abstract
import Derived.Shelf.RegionOpen
import Derived.WalkKit
import Derived.OwnWalkIn
import Derived.TacticsInMore
import Derived.LoopNIn
import Derived.LoopIn
import Derived.Maps.AppendAt
import Derived.Test.YtbhhakobkpdadaaQDec
namespace Go.Proofs.Ytbhhakobkpdadaa
open Go.RowKit Go.Shelf

attribute [local go_sem] Oper.semAt_some

/-- A part of a text: its bytes, its rune. -/
abbrev Pt := { x : ByteArray × Nat // 1 ≤ x.1.size ∧ x.1.size ≤ 4 ∧ x.2 < 2097152 }
def ptF (x : Pt) : List Nat × Nat := (bl x.1.1, x.1.2)
def ptE (x : Pt) : Array Value := #[.string x.1.1, .int .i32 (x.1.2 : Int)]
theorem below_grown {w w' : World} (h : Below w.heap.size w w') : w.grownBy w' none := ⟨h.os, h.tape, h.output, h.size, fun k hk _ => h.block k hk⟩
def strLen : Value → Nat
  | .string s => s.size
  | _ => 0

set_option maxRecDepth 100000 in
set_option maxHeartbeats 2000000 in
theorem each1_in (n : Nat) (hn : 1 ≤ n) (l Bn B : Nat) (s : ByteArray) (hs : s.size ≤ 140737488351232) (J Jx : List Pt → World → Prop) (hJ : AbidesFrom B J)
    (hY : ∀ pre x W, J pre W → pre.length < (parts (bl s)).length → YieldAt Fence.wide (n - 1) Try.prog l (ptE x) W fun e W' =>
      (e = .returned (.bool true) ∧ J (pre ++ [x]) W' ∧ True) ∨ (e = .returned (.bool false) ∧ Jx (pre ++ [x]) W'))
    (W : World) (hBn : W.cell? ⟨Bn, 0, none⟩ = some (.string s)) (h0 : J [] W) :
    CallsIn Fence.wide n Try.prog 38 #[.func (.yield l) #[] #[], .pointer (some ⟨Bn, 0, none⟩)] W fun e W' => (∃ v, e = .returned v) ∧
      ((∃ ys : List Pt, ys.map ptF = parts (bl s) ∧ J ys W') ∨ (∃ pre, True ∧ Jx pre W')) := by
  refine callsIn_of_wp Try.func38 rfl trivial ?_ rfl
  simp only [Try.ntmps38, List.size_toArray, List.length_cons, List.length_nil, Nat.reduceAdd, Nat.reduceSub, Array.replicate_succ, Array.replicate_zero, List.push_toArray, List.append_toArray, List.nil_append, List.cons_append]
  gi_wp2
  gi_loopw [3] (fun p wr => ∃ (pre : List Pt) (r : ByteArray), p = .string r ∧ r.size ≤ s.size ∧ parts (bl s) = pre.map ptF ++ parts (bl r) ∧ J pre wr)
    (fun p _ => strLen p)
  case atStart => exact ⟨[], s, rfl, Nat.le_refl _, rfl, h0⟩
  case round =>
    obtain ⟨pre, r, rfl, hr, hx, hJs⟩ := hrel
    cases hL : bl r with
    | nil =>
      have he : r = ByteArray.empty := bl_nil.2 hL
      subst he
      rw [hL, parts_nil, List.append_nil] at hx
      gi_wp2
      go_end0
      exact ⟨⟨_, rfl⟩, .inl ⟨pre, hx.symm, hJs⟩⟩
    | cons c t =>
      have hne := isEmpty_no hL
      have hnn : bl r ≠ [] := by rw [hL]; simp
      have hd := dec_size hnn
      have hd4 := dec_size4 (bl r)
      have hd1 := dec_lt (bl_byt r)
      rw [bl_len] at hd
      have hp := parts_cons hnn
      have HD := Lib.hid (fun w => Decode_any r (by omega) w)
      obtain ⟨d2, h2⟩ : ∃ d, (dec (bl r)).2 = d := ⟨_, rfl⟩
      obtain ⟨d1, h1⟩ : ∃ d, (dec (bl r)).1 = d := ⟨_, rfl⟩
      rw [h2] at hd hd4 hp
      rw [h1] at hd1 hp
      have e1 : (0 : Int) ≤ (d2 : Int) := by omega
      have e2 : (d2 : Int) ≤ (r.size : Int) := by omega
      have HX := Lib.hid hx
      have HP := Lib.hid hp
      have hsz : r.size - d2 < r.size := by omega
      have hlen : pre.length < (parts (bl s)).length := by
        rw [hx, hp, List.length_append, List.length_map, List.length_cons]; omega
      have HP2 : Hid (bl (r.extract 0 d2) = (bl r).take d2 ∧ bl (r.extract d2 r.size) = (bl r).drop d2) := Lib.hid ⟨by rw [bl_extract]; rfl, by rw [bl_extract, ← bl_len, List.take_length]⟩
      have hq : 1 ≤ (r.extract 0 d2).size ∧ (r.extract 0 d2).size ≤ 4 ∧ d1 < 2097152 := by
        have := bl_len (r.extract 0 d2)
        rw [HP2.out.1, List.length_take, bl_len] at this
        omega
      have hs2 : (r.extract d2 r.size).size = r.size - d2 := by
        have := bl_len (r.extract d2 r.size)
        rw [HP2.out.2, List.length_drop, bl_len] at this
        exact this.symm
      have HS2 := Lib.hid hs2
      have HQ := Lib.hid hq
      clear hL hnn hx hp hq hs2
      gi_wp2_with fail
      refine ⟨trivial, (callsIn_wide.2 (HD.out _)).mono ?_⟩
      rintro e w2 ⟨rfl, b2⟩
      rw [h1, h2]
      have hJ2 : J pre w2 := hJ pre wr w2 none hJs (below_grown b2) (fun r e => by cases e)
      obtain ⟨fn, tmps, assign, body, hy, hR⟩ := hY pre ⟨(r.extract 0 d2, d1), HQ.out⟩ w2 hJ2 hlen
      dsimp only [ptE] at hy
      clear HD b2 hJs h1 h2
      gi_wp2
      refine hR.mono ?_
      rintro e W3 (⟨rfl, hJ3, _⟩ | ⟨rfl, hJx3⟩)
      · gi_wp2
        go_roundw
        case rel => exact ⟨pre ++ [⟨(r.extract 0 d2, d1), HQ.out⟩], _, rfl, by rw [HS2.out]; omega, by rw [HX.out, HP.out, HP2.out.2, List.map_append, List.append_assoc]; simp [ptF, HP2.out.1], hJ3⟩
        case measure =>
          show (r.extract d2 r.size).size < r.size
          rw [HS2.out]; exact hsz
      · gi_wp2
        refine bodyPost_ret (results_none rfl _ _ _) rfl ?_
        exact ⟨⟨_, rfl⟩, .inr ⟨_, trivial, hJx3⟩⟩
theorem each_in (n : Nat) (s : ByteArray) (w : World) :
    CallsIn Fence.wide n Try.prog 27 #[.string s] w fun e w' => e = .returned (.func (.func 38) #[] #[.pointer (some ⟨w.heap.size, 0, none⟩)]) ∧ w' = w.alloc (.cells #[.string s] 9) := by
  refine callsIn_of_wp Try.func27 rfl trivial ?_ rfl
  simp only [Try.ntmps27, List.size_toArray, List.length_cons, List.length_nil, Nat.reduceAdd, Nat.reduceSub, Array.replicate_succ, Array.replicate_zero, List.push_toArray, List.append_toArray, List.nil_append, List.cons_append]
  gi_wp2
  go_ret
  exact ⟨rfl, rfl⟩
theorem each_stops (n : Nat) (hn : 1 ≤ n) (Bn : Nat) (s : ByteArray) (hs : s.size ≤ 140737488351232) (w : World) (hB : Bn < w.heap.size) (hc : w.cell? ⟨Bn, 0, none⟩ = some (.string s)) :
    SeqStopsK Fence.wide n Try.prog 38 #[.pointer (some ⟨Bn, 0, none⟩)] ptE (fun _ _ => True) (fun ys : List Pt => ys.map ptF = parts (bl s)) (fun _ => True) (parts (bl s)).length w := fun l J Jx W hW hJ _ hY h0 =>
  each1_in n hn l Bn W.heap.size s hs J Jx hJ hY W ((hW.cell (p := ⟨Bn, 0, none⟩) hB).trans hc) h0
end Go.Proofs.Ytbhhakobkpdadaa
