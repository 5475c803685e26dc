/- vary.U, vary.S, vary.Put for whatever number: the bytes or the error. -/
import Derived.Test.YtieknhlpgoedgaaU
namespace Go.Proofs.Ytieknhlpgoedgaa
open Go.RowKit

def uErr (n : Int) : Int := if n < 0 ∨ 18014398509481982 < n then 9 else 0
def uOut (n : Int) : List Int := if n < 0 ∨ 18014398509481982 < n then [] else leb n.toNat
def sOk (n : Int) : Prop := -9007199254740991 ≤ n ∧ n ≤ 9007199254740991
instance (n : Int) : Decidable (sOk n) := inferInstanceAs (Decidable (_ ∧ _))
def zz (n : Int) : Nat := if n < 0 then (-2 * n - 1).toNat else (2 * n).toNat
def sErr (n : Int) : Int := if sOk n then 0 else 9
def sOut (n : Int) : List Int := if sOk n then leb (zz n) else []
theorem zz_le {n : Int} (h : sOk n) : zz n ≤ 18014398509481982 := by unfold sOk at h; unfold zz; split <;> omega

/-- What a call that answers bytes and an error leaves behind: both, the bytes the call's own. -/
def Out (w : World) (l : List Int) (err : Int) (e : Ending) (w' : World) : Prop :=
  ∃ A c, e = .returned (.tuple #[.slice A l.length c, .int .i64 err]) ∧ w'.ownsRow w.heap.size 5 1 (.slice A l.length c) l.length (ints .u8 l) ∧ Below w.heap.size w w'

theorem own_slice {w : World} {base n : Nat} {e : TypeId} {v : Value} {xs : List Value} (h : w.ownsRow base e 1 v n xs) : ∃ A c, v = .slice A n c := by
  rcases h.2 with ⟨hv, hn⟩ | ⟨g, cap, cur, hv, _⟩
  · exact ⟨none, 0, by rw [hv, hn]⟩
  · exact ⟨_, _, hv⟩

theorem Out.nil (w : World) (err : Int) : Out w [] err (.returned (.tuple #[.slice none 0 0, .int .i64 err])) w :=
  ⟨none, 0, rfl, World.ownsRow_nil _ _ _ _, Below.refl _ _⟩

theorem U_any (n : Int) (w : World) : Calls Try.prog 9 #[.int .i64 n] w (Out w (uOut n) (uErr n)) := by
  by_cases h : n < 0 ∨ 18014398509481982 < n
  · refine (U_no n w h).mono ?_
    rintro e w' ⟨rfl, rfl⟩
    simp only [uOut, uErr, if_pos h]
    exact Out.nil _ _
  · obtain ⟨m, rfl⟩ := Int.eq_ofNat_of_zero_le (a := n) (by omega)
    refine (U_ok m w (by omega)).mono ?_
    rintro e w' ⟨v, rfl, hown, hb⟩
    obtain ⟨A, c, rfl⟩ := own_slice hown
    simp only [uOut, uErr, if_neg h, Int.toNat_natCast]
    exact ⟨A, c, rfl, hown, hb⟩

set_option maxRecDepth 100000 in
theorem S_any (n : Int) (w : World) : Calls Try.prog 11 #[.int .i64 n] w (Out w (sOut n) (sErr n)) := by
  by_cases h1 : n < -9007199254740991
  · have hs : ¬ sOk n := by unfold sOk; omega
    simp only [sOut, sErr, if_neg hs]
    go_enter Try.func11, Try.ntmps11
    go_wp2
    go_ret2
    exact Out.nil _ _
  · by_cases h2 : 9007199254740991 < n
    · have hs : ¬ sOk n := by unfold sOk; omega
      simp only [sOut, sErr, if_neg hs]
      go_enter Try.func11, Try.ntmps11
      go_wp2
      go_ret2
      exact Out.nil _ _
    · have hs : sOk n := by unfold sOk; omega
      by_cases h0 : n < 0
      · have ho : sOut n = uOut (-2 * n - 1) := by
          simp only [sOut, if_pos hs, zz, if_pos h0, uOut]
          rw [if_neg (by omega)]
        have he : sErr n = uErr (-2 * n - 1) := by
          simp only [sErr, if_pos hs, uErr]
          rw [if_neg (by omega)]
        rw [ho, he]
        clear hs ho he
        go_enter Try.func11, Try.ntmps11
        go_wp2_with fail
        refine (U_any _ _).mono ?_
        rintro e w' ⟨A, c, rfl, hown, hb⟩
        go_wp2
        go_ret2
        exact ⟨A, c, rfl, hown, hb⟩
      · have ho : sOut n = uOut (2 * n) := by
          simp only [sOut, if_pos hs, zz, if_neg h0, uOut]
          rw [if_neg (by omega)]
        have he : sErr n = uErr (2 * n) := by
          simp only [sErr, if_pos hs, uErr]
          rw [if_neg (by omega)]
        rw [ho, he]
        clear hs ho he
        go_enter Try.func11, Try.ntmps11
        go_wp2_with fail
        refine (U_any _ _).mono ?_
        rintro e w' ⟨A, c, rfl, hown, hb⟩
        go_wp2
        go_ret2
        exact ⟨A, c, rfl, hown, hb⟩

def putOk (l : List Int) : Bool := l.all fun n => decide (sOk n)
def putOut (l : List Int) : List Int := if putOk l then l.flatMap sOut else []
def putErr (l : List Int) : Int := if putOk l then 0 else 9

theorem sOut_len (n : Int) : (sOut n).length ≤ 8 := by
  unfold sOut
  split
  · rename_i h; exact leb_len8 (zz_le h)
  · simp
theorem flat_len : ∀ (l : List Int), (l.flatMap sOut).length ≤ 8 * l.length
  | [] => by simp
  | n :: l => by
    have h1 := sOut_len n
    have h2 := flat_len l
    simp only [List.flatMap_cons, List.length_append, List.length_cons]; omega

set_option maxRecDepth 100000 in
set_option maxHeartbeats 400000 in
theorem Put_any (A : Option Addr) (c B : Nat) (l : List Int) (w : World) (hr : Row w B A l.length (ints .i64 l)) (hB : B ≤ w.heap.size) (hl : l.length * 8 ≤ 140737488351232) :
    Calls Try.prog 16 #[.slice A l.length c] w (Out w (putOut l) (putErr l)) := by
  obtain ⟨i0, hi, hz0, hz1, hz2⟩ := info_parts u8_info
  go_enter Try.func16, Try.ntmps16
  go_wp2
  go_loopw [4, 11] (fun b i wr => ∃ (k : Nat) (A' : Option Addr) (c' : Nat) (out : List Int), k ≤ l.length ∧ i = .int .i64 k ∧ Hid (putOk (l.take k) = true ∧ out = (l.take k).flatMap sOut) ∧ b = .slice A' out.length c' ∧
      wr.ownsRow w.heap.size 5 1 b out.length (ints .u8 out) ∧ Below w.heap.size w wr) (fun _ i _ => l.length - (intOf i).toNat)
  case atStart => exact ⟨0, none, 0, [], Nat.zero_le _, rfl, Lib.hid ⟨rfl, rfl⟩, rfl, World.ownsRow_nil _ _ _ _, Below.refl _ _⟩
  case round =>
    obtain ⟨k, A', c', out, hk, rfl, HO, rfl, hown, hb⟩ := hrel
    by_cases hlt : k < l.length
    · obtain ⟨b, off, rfl, hbB, hc⟩ := (hr.below (hb.mono hB)).2 (by omega)
      obtain ⟨z, hz, _, ht, hmem⟩ := ints_at .i64 l k hlt
      have hcell := (hc k hlt).trans hz
      have HT := Lib.hid ht
      clear hc hz ht
      go_wp2_with fail
      refine (S_any _ _).mono ?_
      by_cases hs : sOk z
      · have e1 : Hid (putOk (l.take (k + 1)) = true ∧ out ++ sOut z = (l.take (k + 1)).flatMap sOut) := by
          have h1 := HO.out.1
          refine ⟨?_, ?_⟩
          · unfold putOk at *
            rw [HT.out, List.all_append, h1]
            simp [hs]
          · rw [HT.out, List.flatMap_append, HO.out.2]
            simp
        have hlen := flat_len (l.take k)
        rw [← HO.out.2] at hlen
        have hlen' := sOut_len z
        have htk : (l.take k).length ≤ k := by simp; omega
        rw [show sErr z = 0 by simp [sErr, hs]]
        generalize sOut z = bz at *
        clear hs
        rintro e w1 ⟨A1, c1, rfl, hown1, hb1⟩
        have hrow := Row.own hown1
        have hown0 : w1.ownsRow w.heap.size 5 1 (.slice A' out.length c') out.length (ints .u8 out) :=
          hown.kept (row := none) ⟨hb1.os, hb1.tape, hb1.output, hb1.size, fun j hj _ => hb1.block j hj⟩ (by cases A' <;> simp [Value.ownBlock])
        go_wp2_with (at_builtin; refine wpList_app _ rfl (.tmp 23) (.tmp 24) 23 rfl w.heap.size 5 i0 (.int .u8 0) 1 Try.underlying23 hi hz0 hz1 hz2 rfl _ _ _ rfl hown0 _ _ _ _ _ rfl hrow (ints_one _ _) (by unfold maxLen; omega) (by omega) (by have := hb.size; have := hb1.size; omega) ?_)
        intro v' w2 hown2 _ hb2
        obtain ⟨A2, c2, rfl⟩ := own_slice hown2
        go_wp2
        go_roundw
        case rel => exact ⟨k + 1, A2, c2, out ++ bz, by omega, by go_num, e1, by simp, by simpa [ints_append] using hown2, (hb.trans (hb1.mono hb.size)).trans hb2⟩
        case measure => simp [intOf]; omega
      · have hbad : putOk l = false := by
          unfold putOk
          rw [List.all_eq_false]
          exact ⟨z, hmem, by simp [hs]⟩
        have HP := Lib.hid hbad
        rw [show sErr z = 9 by simp [sErr, hs]]
        generalize sOut z = bz at *
        clear hs hbad
        rintro e w1 ⟨A1, c1, rfl, hown1, hb1⟩
        have hb2 := hb.trans (hb1.mono hb.size)
        go_wp2
        go_ret2
        simp only [putOut, putErr, HP.out]
        exact ⟨none, 0, rfl, World.ownsRow_nil _ _ _ _, hb2⟩
    · have hkl : k = l.length := by omega
      have hall : Hid (putOk l = true ∧ out = l.flatMap sOut) := by
        have := HO.out
        rw [List.take_of_length_le (by omega)] at this
        exact this
      clear hkl
      go_wp2
      go_ret2
      simp only [putOut, putErr, hall.out.1]
      have h2 := hall.out.2
      subst h2
      exact ⟨A', c', rfl, hown, hb⟩
end Go.Proofs.Ytieknhlpgoedgaa
