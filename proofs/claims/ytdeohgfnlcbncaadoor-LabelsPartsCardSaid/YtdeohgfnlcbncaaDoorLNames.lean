/- The laws' names. -/
import Derived.Test.YtdeohgfnlcbncaaDoorLPartM
import Derived.Test.YtdeohgfnlcbncaaDoorLArr
namespace Go.Proofs.YtdeohgfnlcbncaaDoor
open Go.RowKit Go.Shelf Go.Lib

def nameI (i : Nat) : ByteArray := ofl [105 - i]
/-- The test of a bit, as the walk says it. -/
def bitI (n : Int) (i : Nat) : Bool := bits BinOp.and IntKind.i64 (n / 2 ^ i) 1 == 1
/-- Those of the first k that the number's bits say. -/
def namesL (n : Int) (k : Nat) : List ByteArray := (List.range k).filterMap fun i => if bitI n i = true then some (nameI i) else none
theorem namesL_yes {n : Int} {k : Nat} (h : bitI n k = true) : namesL n (k + 1) = namesL n k ++ [nameI k] := by
  unfold namesL
  rw [List.range_succ, List.filterMap_append]
  simp only [List.filterMap_cons, List.filterMap_nil, if_pos h]
theorem namesL_no {n : Int} {k : Nat} (h : ¬ bitI n k = true) : namesL n (k + 1) = namesL n k := by
  unfold namesL
  rw [List.range_succ, List.filterMap_append]
  simp only [List.filterMap_cons, List.filterMap_nil, if_neg h, List.append_nil]
theorem names_len (n : Int) (k : Nat) : (namesL n k).length ≤ k := by
  unfold namesL
  exact Nat.le_trans (List.length_filterMap_le _ _) (by simp)
theorem names_small (n : Int) (k : Nat) : ∀ s ∈ namesL n k, s.size ≤ maxLen := by
  intro s hs
  unfold namesL at hs
  obtain ⟨i, _, h⟩ := List.mem_filterMap.1 hs
  split at h
  · rw [← Option.some.inj h]
    unfold nameI maxLen
    rw [ofl_size]
    simp
  · cases h
/-- A list of strings in new memory. -/
def SOut (w : World) (ss : List ByteArray) (e : Ending) (w' : World) : Prop :=
  ∃ A c, e = .returned (.slice A ss.length c) ∧ Row w' w'.heap.size A ss.length (strs ss) ∧ Below w.heap.size w w'
theorem own_slice1 {w : World} {base n : Nat} {e : TypeId} {v : Value} {xs : List Value} (h : w.ownsRow base e 1 v n xs) : ∃ A c, v = .slice A n c := by
  rcases h.2 with ⟨hv, hn⟩ | ⟨g, cap, cur, hv, _⟩
  · subst hv; subst hn; exact ⟨none, 0, rfl⟩
  · exact ⟨_, _, hv⟩
set_option maxRecDepth 100000 in
set_option maxHeartbeats 4000000 in
theorem names_any (n : Int) (w : World) (hn : (Lit.int .i64 n).wf = true) : Calls Tryd.prog 26 #[.int .i64 n] w (SOut w (namesL n 9)) := by
  obtain ⟨i0, hi0, hz0, hz1, hz2⟩ := info_parts str_info
  have hw := wf_i64 hn
  have HW := Lib.hid hw
  clear hn hw
  go_enter Tryd.func26, Tryd.ntmps26
  go_wp2_with fail
  go_loopw [3, 4] (fun o p wr => ∃ (i m : Nat) (A : Option Addr) (c : Nat), i ≤ 9 ∧ o = .slice A m c ∧ p = .int .i64 (i : Int) ∧ Hid ((namesL n i).length = m) ∧ Hid (wr.ownsRow w.heap.size 9 1 (.slice A m c) m (strs (namesL n i))) ∧ Hid (Below w.heap.size w wr)) (fun _ p _ => 9 - (intOf p).toNat)
  case atStart => exact ⟨0, 0, none, 0, by omega, rfl, rfl, Lib.hid rfl, Lib.hid (World.ownsRow_nil _ _ _ _), Lib.hid (Below.refl _ _)⟩
  case round =>
    obtain ⟨i, m, A, c, hi, rfl, rfl, HM, HO, HBw⟩ := hrel
    by_cases hlt : i < 9
    · have f1 : decide ((i : Int) < 9) = true := decide_eq_true (by omega)
      have g0 : (0 : Int) ≤ (i : Int) := by omega
      have g1 : (i : Int) < 64 := by omega
      have HKi := Lib.hid hlt
      have wa : IntKind.i64.wrap (105 - (i : Int)) = 105 - (i : Int) := by rw [IntKind.wrap_i64]; omega
      have wb : IntKind.u8.wrap (105 - (i : Int)) = 105 - (i : Int) := by rw [IntKind.wrap_u8]; omega
      by_cases hb : bitI n i = true
      · have f2 : (bits BinOp.and IntKind.i64 (n / 2 ^ i) 1 == 1) = true := hb
        have HN : Hid (namesL n (i + 1) = namesL n i ++ [nameI i]) := Lib.hid (namesL_yes hb)
        have hcv : (convert 44 9 (.slice (some ⟨wr.heap.size, 0, none⟩) 1 1)).run Tryd.prog (wr.alloc (.cells #[.int .u8 (105 - (i : Int))] 5)) = .ok (.string (nameI i)) (wr.alloc (.cells #[.int .u8 (105 - (i : Int))] 5)) := by
          have h := conv_row (P := Tryd.prog) (wr.alloc (.cells #[.int .u8 (105 - (i : Int))] 5)) 44 9 5 wr.heap.size 1 [105 - i] Tryd.underlying44 Tryd.underlying5 Tryd.underlying9 (Byt.cons (by omega) Byt.nil) (fun j hj => by
            have hj0 : j = 0 := by simpa using hj
            subst hj0
            rw [World.cell?_alloc_at _ _ _ _ (by simp)]
            show some (Value.int .u8 (105 - (i : Int))) = some (Value.int .u8 ((105 - i : Nat) : Int))
            rw [show ((105 - i : Nat) : Int) = 105 - (i : Int) by omega])
          exact h
        have hO := HO.out
        have hml : m ≤ 9 := by have := names_len n i; have := HM.out; omega
        have hbs := HBw.out.size
        have hK := Lib.hid ((HBw.out.alloc hbs (.cells #[.int .u8 (105 - (i : Int))] 5)))
        have hK2 := Lib.hid (hK.out.alloc hK.out.size (.cells #[.string (nameI i)] 9))
        have hRow : Row ((wr.alloc (.cells #[.int .u8 (105 - (i : Int))] 5)).alloc (.cells #[.string (nameI i)] 9)) (wr.heap.size + 1 + 1) (some ⟨wr.heap.size + 1, 0, none⟩) 1 [.string (nameI i)] := by
          have h := Row.one (wr.alloc (.cells #[.int .u8 (105 - (i : Int))] 5)) 9 (.string (nameI i))
          rwa [World.size_alloc] at h
        clear hb
        go_wp2_with (at_builtin; refine wpList_app _ rfl (.tmp 14) (.tmp 20) 23 rfl w.heap.size 9 i0 (.string ByteArray.empty) 16 Tryd.underlying23 hi0 hz0 hz1 hz2 rfl _ _ _ rfl ((hO.alloc _).alloc _) _ _ 1 1 [.string (nameI i)] rfl hRow (by simp [Value.oneCell']) (by unfold maxLen; omega) (by omega) (by simp; omega) ?_)
        intro v' w5 o5 _ b5
        obtain ⟨A5, c5, rfl⟩ := own_slice1 o5
        have HB5 := Lib.hid (hK2.out.trans b5)
        have HO5 : Hid (w5.ownsRow w.heap.size 9 1 (.slice A5 (m + 1) c5) (m + 1) (strs (namesL n (i + 1)))) := Lib.hid (by rw [HN.out, strs, List.map_append]; exact o5)
        have HM5 : Hid ((namesL n (i + 1)).length = m + 1) := Lib.hid (by rw [HN.out, List.length_append, HM.out]; rfl)
        clear o5 b5 hO hK hK2 hRow
        go_wp2_with fail
        exact ⟨⟨i + 1, m + 1, A5, c5, HKi.out, rfl, by go_num, HM5, HO5, HB5⟩, by have := HKi.out; simp [intOf]; omega⟩
      · have f2 : (bits BinOp.and IntKind.i64 (n / 2 ^ i) 1 == 1) = false := Bool.eq_false_iff.2 hb
        have HN : Hid (namesL n (i + 1) = namesL n i) := Lib.hid (namesL_no hb)
        clear hb
        go_wp2_with fail
        exact ⟨⟨i + 1, m, A, c, HKi.out, rfl, by go_num, Lib.hid (by rw [HN.out]; exact HM.out), Lib.hid (by rw [HN.out]; exact HO.out), HBw⟩, by have := HKi.out; simp [intOf]; omega⟩
    · obtain rfl : i = 9 := by omega
      go_wp2_with fail
      go_ret
      refine ⟨A, c, ?_, ?_, HBw.out⟩
      · rw [HM.out]; rfl
      · rw [HM.out]; exact Row.own HO.out
end Go.Proofs.YtdeohgfnlcbncaaDoor
