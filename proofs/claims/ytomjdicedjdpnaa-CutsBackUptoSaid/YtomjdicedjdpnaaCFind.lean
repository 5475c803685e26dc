/- The document's find; what a line's parts are. -/
import Derived.Test.YtomjdicedjdpnaaCJoin
import Derived.Lib.IndexMore
namespace Go.Proofs.Ytomjdicedjdpnaa
open Go.RowKit

/-- The first place of a text in another one; -1: none. -/
def idx (s t : ByteArray) : Int := Lib.index s.data.toList t.data.toList
theorem take_drop_pre {s t : List UInt8} {i : Nat} (_h : i + t.length ≤ s.length) : ((s.take (i + t.length)).drop i = t) ↔ Lib.occAt s t i = true := by
  unfold Lib.occAt
  rw [List.isPrefixOf_iff_prefix, List.drop_take, Nat.add_sub_cancel_left]
  constructor
  · intro h
    exact ⟨(s.drop i).drop t.length, (congrArg (fun z => z ++ (s.drop i).drop t.length) h).symm.trans (List.take_append_drop _ _)⟩
  · rintro ⟨u, hu⟩
    rw [← hu, List.take_left']
    rfl
theorem occ_ext {s t : ByteArray} {i : Nat} (h : i + t.size ≤ s.size) : (s.extract i (i + t.size) = t) ↔ Lib.occAt s.data.toList t.data.toList i = true := by
  have ht : t.data.toList.length = t.size := by rw [Array.length_toList]; rfl
  have hs : s.data.toList.length = s.size := by rw [Array.length_toList]; rfl
  rw [← take_drop_pre (by rw [ht, hs]; exact h), ht]
  constructor
  · intro e
    have := congrArg (fun z : ByteArray => z.data.toList) e
    simpa [ByteArray.data_extract, List.drop_take] using this
  · intro e
    apply ByteArray.ext
    apply Array.toList_inj.1
    simpa [ByteArray.data_extract, List.drop_take] using e
theorem occ_past {s t : ByteArray} {i : Nat} (h : s.size < i + t.size) (hi : i ≤ s.size) : Lib.occAt s.data.toList t.data.toList i = false := by
  cases he : Lib.occAt s.data.toList t.data.toList i with
  | false => rfl
  | true =>
    have ht : t.data.toList.length = t.size := by rw [Array.length_toList]; rfl
    have hs : s.data.toList.length = s.size := by rw [Array.length_toList]; rfl
    rcases Lib.occAt_room he with k | k
    · omega
    · rw [k] at ht; simp at ht; omega
set_option maxRecDepth 100000 in
set_option maxHeartbeats 4000000 in
theorem rFind_any (s t : ByteArray) (hs : s.size ≤ 1000000000) (ht : t.size ≤ 1000000000) (w : World) : Calls Try.prog 32 #[.string s, .string t] w fun e w' => e = .returned (.int .i64 (idx s t)) ∧ Below w.heap.size w w' := by
  go_enter Try.func32, Try.ntmps32
  go_wp2_with fail
  go_loopw [5] (fun p wr => ∃ k : Nat, k ≤ s.size ∧ p = .int .i64 (k : Int) ∧ Hid (∀ j, j < k → Lib.occAt s.data.toList t.data.toList j = false) ∧ Hid (Below w.heap.size w wr)) (fun p _ => s.size + 1 - (intOf p).toNat)
  case atStart => exact ⟨0, by omega, rfl, Lib.hid (fun j hj => by omega), Lib.hid (Below.refl _ _)⟩
  case round =>
    obtain ⟨k, hk, rfl, HN, HB⟩ := hrel
    have e1 : (k : Int) + (t.size : Int) = ((k + t.size : Nat) : Int) := by omega
    obtain ⟨m, hm⟩ : ∃ m, k + t.size = m := ⟨_, rfl⟩
    have e2 : (k : Int) + (t.size : Int) = (m : Int) := by omega
    have wk : IntKind.i64.wrap (m : Int) = (m : Int) := by rw [IntKind.wrap_i64]; omega
    by_cases hlt : m ≤ s.size
    · have f1 : decide ((m : Int) ≤ (s.size : Int)) = true := decide_eq_true (by omega)
      have g0 : (0 : Int) ≤ (k : Int) := by omega
      have g1 : (k : Int) ≤ (m : Int) := by omega
      have g2 : (m : Int) ≤ (s.size : Int) := by omega
      obtain ⟨X, hX⟩ : ∃ X, s.extract k m = X := ⟨_, rfl⟩
      have ho := occ_ext (s := s) (t := t) (i := k) (by omega)
      rw [hm, hX] at ho
      by_cases hx : X = t
      · have t1 : (X.toList == t.toList) = true := (eq_eq X t).trans (decide_eq_true hx)
        have HI : Hid (idx s t = (k : Int)) := Lib.hid (Lib.index_first (by rw [Array.length_toList]; exact hk) (ho.1 hx) HN.out)
        clear hx ho e1 hm hk hlt
        go_wp2_with fail
        go_ret
        rw [HI.out]
        exact ⟨rfl, HB.out⟩
      · have t1 : (X.toList == t.toList) = false := (eq_eq X t).trans (decide_eq_false hx)
        have HN2 : Hid (∀ j, j < k + 1 → Lib.occAt s.data.toList t.data.toList j = false) := Lib.hid (fun j hj => by
          rcases Nat.lt_succ_iff_lt_or_eq.1 hj with h | rfl
          · exact HN.out j h
          · cases he : Lib.occAt s.data.toList t.data.toList j with
            | false => rfl
            | true => exact absurd (ho.2 he) hx)
        have hk1 : k + 1 ≤ s.size := by
          rcases Nat.lt_or_ge k s.size with h | h
          · exact h
          · have h0 : t.size = 0 := by omega
            have hX0 : X.size = 0 := by rw [← hX, ByteArray.size_extract]; omega
            exact absurd (by rw [ByteArray.size_eq_zero_iff.1 h0, ByteArray.size_eq_zero_iff.1 hX0] : X = t) hx
        clear hx ho e1 hm hk hlt
        go_wp2_with fail
        exact ⟨⟨k + 1, hk1, by go_num, HN2, HB⟩, by simp [intOf]; omega⟩
    · have f3 : ¬ ((m : Int) ≤ (s.size : Int)) := by omega
      have f1 : decide ((m : Int) ≤ (s.size : Int)) = false := decide_eq_false f3
      have HI : Hid (idx s t = -1) := Lib.hid (Lib.index_none (fun j hj => by
        rw [Array.length_toList] at hj
        by_cases h : j < k
        · exact HN.out j h
        · exact occ_past (by omega) hj))
      clear e1 hm hk hlt
      go_wp2_with fail
      go_ret
      rw [HI.out]
      exact ⟨rfl, HB.out⟩
end Go.Proofs.Ytomjdicedjdpnaa
