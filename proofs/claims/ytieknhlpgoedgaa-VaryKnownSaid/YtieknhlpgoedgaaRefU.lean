/- The document's own answer: U, S, Put, Text. -/
import Derived.Test.YtieknhlpgoedgaaText
namespace Go.Proofs.Ytieknhlpgoedgaa
open Go.RowKit

theorem rU_no (n : Int) (w : World) (h : n < 0 ∨ 18014398509481982 < n) :
    Calls Try.prog 10 #[.int .i64 n] w fun e w' => e = .returned (.tuple #[.slice none 0 0, .int .i64 9]) ∧ w = w' := by
  rcases h with h | h
  all_goals
    go_enter Try.func10, Try.ntmps10
    go_wp2
    go_ret2
    exact ⟨rfl, rfl⟩

set_option maxRecDepth 100000 in
theorem rU_ok (n : Nat) (w : World) (h : n ≤ 18014398509481982) :
    Calls Try.prog 10 #[.int .i64 n] w fun e w' => ∃ v, e = .returned (.tuple #[v, .int .i64 0]) ∧ w'.ownsRow w.heap.size 5 1 v (leb n).length (ints .u8 (leb n)) ∧ Below w.heap.size w w' := by
  obtain ⟨i0, hi, hz0, hz1, hz2⟩ := info_parts u8_info
  have d1 : decide ((n : Int) < 0) = false := by simp
  have d2 : decide (18014398509481982 < (n : Int)) = false := by simp; omega
  go_enter Try.func10, Try.ntmps10
  go_wp2
  clear d1 d2
  have HN := Lib.hid h
  clear h
  go_loopw [0, 4] (fun x b wr => ∃ (m : Nat) (out : List Int), x = .int .i64 m ∧ Hid (m ≤ 18014398509481982) ∧ Hid (leb n = out ++ leb m) ∧ wr.ownsRow w.heap.size 5 1 b out.length (ints .u8 out) ∧ Below w.heap.size w wr) (fun x _ _ => (intOf x).toNat)
  case atStart => exact ⟨n, [], rfl, HN, Lib.hid rfl, World.ownsRow_nil _ _ _ _, Below.refl _ _⟩
  case round =>
    obtain ⟨m, out, rfl, HM, HE, hown, hb⟩ := hrel
    have hlen : out.length ≤ 7 := leb_out_len HE.out HN.out
    by_cases h128 : 128 ≤ m
    · go_wp2_with (at_builtin; refine wpList_app _ rfl (.tmp 13) (.tmp 18) 23 rfl w.heap.size 5 i0 (.int .u8 0) 1 Try.underlying23 hi hz0 hz1 hz2 rfl _ _ _ rfl (hown.alloc _) _ _ 1 1 _ rfl (Row.one _ _ _) (by simp [Value.oneCell']) (by unfold maxLen; omega) (by omega) (by simp; have := hb.size; omega) ?_)
      intro v' w' hown' _ hb'
      rw [show (128 + (m : Int) % 128) = ((m % 128 + 128 : Nat) : Int) from by omega] at hown'
      have hmq : (m : Int) / 128 ≤ 9223372036854775807 := by have := HM.out; omega
      have hmq0 : 0 ≤ (m : Int) / 128 := by omega
      have hstep := Lib.hid (leb_step HE.out (by omega))
      have hb2 : Below w.heap.size w w' := (hb.alloc hb.size _).trans hb'
      go_wp2
      go_roundw
      case rel => exact ⟨m / 128, out ++ [((m % 128 + 128 : Nat) : Int)], by go_num, Lib.hid (by have := HM.out; omega), hstep, by simpa [ints_append, ints] using hown', hb2⟩
      case measure => simp [intOf]; omega
    · have hs := Lib.hid (leb_small (n := m) (by omega))
      go_wp2_with (at_builtin; refine wpList_app _ rfl (.tmp 22) (.tmp 25) 23 rfl w.heap.size 5 i0 (.int .u8 0) 1 Try.underlying23 hi hz0 hz1 hz2 rfl _ _ _ rfl (hown.alloc _) _ _ 1 1 _ rfl (Row.one _ _ _) (by simp [Value.oneCell']) (by unfold maxLen; omega) (by omega) (by simp; have := hb.size; omega) ?_)
      intro v' w' hown' _ hb'
      have hb2 : Below w.heap.size w w' := (hb.alloc hb.size _).trans hb'
      go_wp2
      go_ret2
      exact ⟨_, rfl, by rw [HE.out, hs.out]; simpa [ints_append, ints] using hown', hb2⟩

theorem rU_any (n : Int) (w : World) : Calls Try.prog 10 #[.int .i64 n] w (Out w (uOut n) (uErr n)) := by
  by_cases h : n < 0 ∨ 18014398509481982 < n
  · refine (rU_no n w h).mono ?_
    rintro e w' ⟨rfl, rfl⟩
    simp only [uOut, uErr, if_pos h]
    exact Out.nil _ _
  · obtain ⟨m, rfl⟩ := Int.eq_ofNat_of_zero_le (a := n) (by omega)
    refine (rU_ok m w (by omega)).mono ?_
    rintro e w' ⟨v, rfl, hown, hb⟩
    obtain ⟨A, c, rfl⟩ := own_slice hown
    simp only [uOut, uErr, if_neg h, Int.toNat_natCast]
    exact ⟨A, c, rfl, hown, hb⟩

set_option maxRecDepth 100000 in
theorem rS_any (n : Int) (w : World) : Calls Try.prog 12 #[.int .i64 n] w (Out w (sOut n) (sErr n)) := by
  by_cases h1 : n < -9007199254740991
  · have hs : ¬ sOk n := by unfold sOk; omega
    simp only [sOut, sErr, if_neg hs]
    go_enter Try.func12, Try.ntmps12
    go_wp2
    go_ret2
    exact Out.nil _ _
  · by_cases h2 : 9007199254740991 < n
    · have hs : ¬ sOk n := by unfold sOk; omega
      simp only [sOut, sErr, if_neg hs]
      go_enter Try.func12, Try.ntmps12
      go_wp2
      go_ret2
      exact Out.nil _ _
    · have hs : sOk n := by unfold sOk; omega
      by_cases h0 : n < 0
      · have ho : sOut n = uOut (-2 * n - 1) := by
          simp only [sOut, if_pos hs, zz, if_pos h0, uOut]
          rw [if_neg (by omega)]
        have he : sErr n = uErr (-2 * n - 1) := by
          simp only [sErr, if_pos hs, uErr]
          rw [if_neg (by omega)]
        rw [ho, he]
        clear hs ho he
        go_enter Try.func12, Try.ntmps12
        go_wp2_with fail
        refine (rU_any _ _).mono ?_
        rintro e w' ⟨A, c, rfl, hown, hb⟩
        go_wp2
        go_ret2
        exact ⟨A, c, rfl, hown, hb⟩
      · have ho : sOut n = uOut (2 * n) := by
          simp only [sOut, if_pos hs, zz, if_neg h0, uOut]
          rw [if_neg (by omega)]
        have he : sErr n = uErr (2 * n) := by
          simp only [sErr, if_pos hs, uErr]
          rw [if_neg (by omega)]
        rw [ho, he]
        clear hs ho he
        go_enter Try.func12, Try.ntmps12
        go_wp2_with fail
        refine (rU_any _ _).mono ?_
        rintro e w' ⟨A, c, rfl, hown, hb⟩
        go_wp2
        go_ret2
        exact ⟨A, c, rfl, hown, hb⟩

set_option maxRecDepth 100000 in
set_option maxHeartbeats 400000 in
theorem rPut_any (A : Option Addr) (c B : Nat) (l : List Int) (w : World) (hr : Row w B A l.length (ints .i64 l)) (hB : B ≤ w.heap.size) (hl : l.length * 8 ≤ 140737488351232) :
    Calls Try.prog 17 #[.slice A l.length c] w (Out w (putOut l) (putErr l)) := by
  obtain ⟨i0, hi, hz0, hz1, hz2⟩ := info_parts u8_info
  go_enter Try.func17, Try.ntmps17
  go_wp2
  go_loopw [4, 5] (fun b i wr => ∃ (k : Nat) (A' : Option Addr) (c' : Nat) (out : List Int), k ≤ l.length ∧ i = .int .i64 k ∧ Hid (putOk (l.take k) = true ∧ out = (l.take k).flatMap sOut) ∧ b = .slice A' out.length c' ∧
      wr.ownsRow w.heap.size 5 1 b out.length (ints .u8 out) ∧ Below w.heap.size w wr) (fun _ i _ => l.length - (intOf i).toNat)
  case atStart => exact ⟨0, none, 0, [], Nat.zero_le _, rfl, Lib.hid ⟨rfl, rfl⟩, rfl, World.ownsRow_nil _ _ _ _, Below.refl _ _⟩
  case round =>
    obtain ⟨k, A', c', out, hk, rfl, HO, rfl, hown, hb⟩ := hrel
    by_cases hlt : k < l.length
    · obtain ⟨b, off, rfl, hbB, hc⟩ := (hr.below (hb.mono hB)).2 (by omega)
      obtain ⟨z, hz, _, ht, hmem⟩ := ints_at .i64 l k hlt
      have hcell := (hc k hlt).trans hz
      have HT := Lib.hid ht
      clear hc hz ht
      go_wp2_with fail
      refine (rS_any _ _).mono ?_
      by_cases hs : sOk z
      · have e1 : Hid (putOk (l.take (k + 1)) = true ∧ out ++ sOut z = (l.take (k + 1)).flatMap sOut) := by
          have h1 := HO.out.1
          refine ⟨?_, ?_⟩
          · unfold putOk at *
            rw [HT.out, List.all_append, h1]
            simp [hs]
          · rw [HT.out, List.flatMap_append, HO.out.2]
            simp
        have hlen := flat_len (l.take k)
        rw [← HO.out.2] at hlen
        have hlen' := sOut_len z
        have htk : (l.take k).length ≤ k := by simp; omega
        rw [show sErr z = 0 by simp [sErr, hs]]
        generalize sOut z = bz at *
        clear hs
        rintro e w1 ⟨A1, c1, rfl, hown1, hb1⟩
        have hrow := Row.own hown1
        have hown0 : w1.ownsRow w.heap.size 5 1 (.slice A' out.length c') out.length (ints .u8 out) :=
          hown.kept (row := none) ⟨hb1.os, hb1.tape, hb1.output, hb1.size, fun j hj _ => hb1.block j hj⟩ (by cases A' <;> simp [Value.ownBlock])
        go_wp2_with (at_builtin; refine wpList_app _ rfl (.tmp 25) (.tmp 26) 23 rfl w.heap.size 5 i0 (.int .u8 0) 1 Try.underlying23 hi hz0 hz1 hz2 rfl _ _ _ rfl hown0 _ _ _ _ _ rfl hrow (ints_one _ _) (by unfold maxLen; omega) (by omega) (by have := hb.size; have := hb1.size; omega) ?_)
        intro v' w2 hown2 _ hb2
        obtain ⟨A2, c2, rfl⟩ := own_slice hown2
        go_wp2
        go_roundw
        case rel => exact ⟨k + 1, A2, c2, out ++ bz, by omega, by go_num, e1, by simp, by simpa [ints_append] using hown2, (hb.trans (hb1.mono hb.size)).trans hb2⟩
        case measure => simp [intOf]; omega
      · have hbad : putOk l = false := by
          unfold putOk
          rw [List.all_eq_false]
          exact ⟨z, hmem, by simp [hs]⟩
        have HP := Lib.hid hbad
        rw [show sErr z = 9 by simp [sErr, hs]]
        generalize sOut z = bz at *
        clear hs hbad
        rintro e w1 ⟨A1, c1, rfl, hown1, hb1⟩
        have hb2 := hb.trans (hb1.mono hb.size)
        go_wp2
        go_ret2
        simp only [putOut, putErr, HP.out]
        exact ⟨none, 0, rfl, World.ownsRow_nil _ _ _ _, hb2⟩
    · have hkl : k = l.length := by omega
      have hall : Hid (putOk l = true ∧ out = l.flatMap sOut) := by
        have := HO.out
        rw [List.take_of_length_le (by omega)] at this
        exact this
      clear hkl
      go_wp2
      go_ret2
      simp only [putOut, putErr, hall.out.1]
      have h2 := hall.out.2
      subst h2
      exact ⟨A', c', rfl, hown, hb⟩


theorem rText_any (s : ByteArray) (w : World) (hs : s.size ≤ 150000000000000) : Calls Try.prog 14 #[.string s] w (Out w (tOut s) (tErr s)) := by
  obtain ⟨i0, hi, hz0, hz1, hz2⟩ := info_parts u8_info
  by_cases h : 65535 < s.size
  · simp only [tErr, tOut, if_pos h]
    have hd : decide ((65535 : Int) < (s.size : Int)) = true := by simp; omega
    go_enter Try.func14, Try.ntmps14
    go_wp2
    go_ret2
    exact Out.nil _ _
  · have hd : decide ((65535 : Int) < (s.size : Int)) = false := by simp; omega
    have hU := rU_any s.size w
    rw [show uErr s.size = 0 by rw [uErr, if_neg (by omega)], show uOut s.size = leb s.size by rw [uOut, if_neg (by omega)]; simp] at hU
    have HU := Lib.hid hU
    have hl := leb_len8 (n := s.size) (by omega)
    simp only [tErr, tOut, if_neg h]
    have hn := nums_cells s
    have hn2 := nums_len s
    have HN := Lib.hid hn
    have HN2 := Lib.hid hn2
    clear hU hn hn2
    generalize leb s.size = x at *
    go_enter Try.func14, Try.ntmps14
    go_wp2_with fail
    refine HU.out.mono ?_
    rintro e w1 ⟨A1, c1, rfl, hown, hb⟩
    go_wp2_with (at_builtin; refine Lib.wpList_append_own_string _ rfl (.tmp 15) (.tmp 16) 23 9 rfl w.heap.size 5 i0 Try.underlying23 Try.underlying9 hi hz0 hz1 hz2 _ _ _ rfl hown s rfl (by unfold maxLen; omega) (by omega) hb.size ?_)
    intro v' w2 hown2 hg _
    obtain ⟨A2, c2, rfl⟩ := own_slice hown2
    have hb2 : Below w.heap.size w w2 := hb.grown hg hb.size (fun k hk => (hown.lt k hk).1)
    go_wp2
    go_ret2
    have e1 : x.length + s.size = (x ++ nums s).length := by rw [List.length_append, HN2.out]
    rw [HN.out, ← ints_append, e1] at hown2
    rw [e1]
    exact ⟨A2, c2, rfl, hown2, hb2⟩


theorem i64_info : (Try.prog.info? 3).map (fun i => (i.zero, i.size, i.bytes)) = some (some (.int .i64 0), 1, 8) := by kernel_rfl

theorem CopyInts_any (A : Option Addr) (c B : Nat) (l : List Int) (w : World) (hr : Row w B A l.length (ints .i64 l)) (hB : B ≤ w.heap.size) (hl : l.length * 8 ≤ 140737488351232) :
    Calls Try.prog 15 #[.slice A l.length c] w fun e w' => ∃ A' c', e = .returned (.slice A' l.length c') ∧ w'.ownsRow w.heap.size 3 1 (.slice A' l.length c') l.length (ints .i64 l) ∧ Below w.heap.size w w' := by
  obtain ⟨i0, hi, hz0, hz1, hz2⟩ := info_parts i64_info
  go_enter Try.func15, Try.ntmps15
  go_wp2_with (at_builtin; refine wpList_app _ rfl (.tmp 4) (.tmp 5) 22 rfl w.heap.size 3 i0 (.int .i64 0) 8 Try.underlying22 hi hz0 hz1 hz2 rfl _ 0 [] rfl (World.ownsRow_nil _ _ _ _) _ _ _ _ _ rfl hr (ints_one _ _) (by unfold maxLen; omega) (by omega) (Nat.le_refl _) ?_)
  intro v' w' hown' _ hb'
  obtain ⟨A', c', rfl⟩ := own_slice hown'
  go_wp2
  go_ret
  exact ⟨A', c', by simp, by simpa using hown', hb'⟩

theorem CopyBytes_any (A : Option Addr) (c B : Nat) (l : List Int) (w : World) (hr : Row w B A l.length (ints .u8 l)) (hB : B ≤ w.heap.size) (hl : l.length ≤ 140737488351232) :
    Calls Try.prog 21 #[.slice A l.length c] w fun e w' => ∃ A' c', e = .returned (.slice A' l.length c') ∧ w'.ownsRow w.heap.size 5 1 (.slice A' l.length c') l.length (ints .u8 l) ∧ Below w.heap.size w w' := by
  obtain ⟨i0, hi, hz0, hz1, hz2⟩ := info_parts u8_info
  go_enter Try.func21, Try.ntmps21
  go_wp2_with (at_builtin; refine wpList_app _ rfl (.tmp 4) (.tmp 5) 23 rfl w.heap.size 5 i0 (.int .u8 0) 1 Try.underlying23 hi hz0 hz1 hz2 rfl _ 0 [] rfl (World.ownsRow_nil _ _ _ _) _ _ _ _ _ rfl hr (ints_one _ _) (by unfold maxLen; omega) (by omega) (Nat.le_refl _) ?_)
  intro v' w' hown' _ hb'
  obtain ⟨A', c', rfl⟩ := own_slice hown'
  go_wp2
  go_ret
  exact ⟨A', c', by simp, by simpa using hown', hb'⟩

end Go.Proofs.Ytieknhlpgoedgaa
