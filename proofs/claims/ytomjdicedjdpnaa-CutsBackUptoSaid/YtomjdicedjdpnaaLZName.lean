/- The document's isDigit, part, IsName. -/
import Derived.Test.YtomjdicedjdpnaaLName
namespace Go.Proofs.Ytomjdicedjdpnaa
open Go.RowKit

set_option maxHeartbeats 1000000 in
theorem rDigit_any (c : Nat) (w : World) : Calls Try.prog 63 #[.int .u8 (c : Int)] w fun e w' => e = .returned (.bool (digC c)) ∧ w' = w := by
  by_cases h1 : 48 ≤ c
  · have f1 : decide ((48 : Int) ≤ (c : Int)) = true := decide_eq_true (by omega)
    obtain ⟨q, hq⟩ : ∃ q, decide ((c : Int) ≤ 57) = q := ⟨_, rfl⟩
    have HD : Hid (digC c = q) := Lib.hid (by
      rw [← hq]; unfold digC; rw [decide_eq_true h1, Bool.true_and]; exact decide_eq_decide.2 (by omega))
    clear h1
    go_enter Try.func63, Try.ntmps63
    go_wp2_with fail
    go_ret
    rw [HD.out]
    exact ⟨rfl, rfl⟩
  · have f1 : decide ((48 : Int) ≤ (c : Int)) = false := decide_eq_false (by omega)
    have HD : Hid (digC c = false) := Lib.hid (by unfold digC; rw [decide_eq_false h1, Bool.false_and])
    clear h1
    go_enter Try.func63, Try.ntmps63
    go_wp2_with fail
    go_ret
    rw [HD.out]
    exact ⟨rfl, rfl⟩
set_option maxHeartbeats 8000000 in
theorem rPart_any (c : Nat) (w : World) : Calls Try.prog 64 #[.int .u8 (c : Int)] w fun e w' => e = .returned (.bool (prtC c)) ∧ w' = w := by
  have e1 : decide ((97 : Int) ≤ (c : Int)) = decide (97 ≤ c) := decide_eq_decide.2 (by omega)
  have e2 : decide ((c : Int) ≤ 122) = decide (c ≤ 122) := decide_eq_decide.2 (by omega)
  have e3 : decide ((65 : Int) ≤ (c : Int)) = decide (65 ≤ c) := decide_eq_decide.2 (by omega)
  have e4 : decide ((c : Int) ≤ 90) = decide (c ≤ 90) := decide_eq_decide.2 (by omega)
  have e5 : ((c : Int) == 95) = decide (c = 95) := by rw [Bool.eq_iff_iff]; simp; omega
  have e6 : decide ((48 : Int) ≤ (c : Int)) = decide (48 ≤ c) := decide_eq_decide.2 (by omega)
  have e7 : decide ((c : Int) ≤ 57) = decide (c ≤ 57) := decide_eq_decide.2 (by omega)
  obtain ⟨a1, h1⟩ : ∃ a, decide (97 ≤ c) = a := ⟨_, rfl⟩
  obtain ⟨a2, h2⟩ : ∃ a, decide (c ≤ 122) = a := ⟨_, rfl⟩
  obtain ⟨a3, h3⟩ : ∃ a, decide (65 ≤ c) = a := ⟨_, rfl⟩
  obtain ⟨a4, h4⟩ : ∃ a, decide (c ≤ 90) = a := ⟨_, rfl⟩
  obtain ⟨a5, h5⟩ : ∃ a, decide (c = 95) = a := ⟨_, rfl⟩
  obtain ⟨a6, h6⟩ : ∃ a, decide (48 ≤ c) = a := ⟨_, rfl⟩
  obtain ⟨a7, h7⟩ : ∃ a, decide (c ≤ 57) = a := ⟨_, rfl⟩
  have HP : Hid (prtC c = (a1 && a2 || a3 && a4 || a5 || a6 && a7)) := Lib.hid (by unfold prtC digC; rw [h1, h2, h3, h4, h5, h6, h7])
  have hi : (a1 && a2) = true → 97 ≤ c ∧ c ≤ 122 := fun h => by
    rw [Bool.and_eq_true] at h
    exact ⟨of_decide_eq_true (h1.trans h.1), of_decide_eq_true (h2.trans h.2)⟩
  rw [h1] at e1
  rw [h2] at e2
  rw [h3] at e3
  rw [h4] at e4
  rw [h5] at e5
  rw [h6] at e6
  rw [h7] at e7
  clear h1 h2 h3 h4 h5 h6 h7 hi
  generalize prtC c = P at *
  by_cases g1 : (a1 && a2) = true
  · simp only [Bool.and_eq_true] at g1
    obtain ⟨rfl, rfl⟩ := g1
    replace HP : Hid (P = true) := Lib.hid (by rw [HP.out]; simp)
    go_enter Try.func64, Try.ntmps64
    go_wp2_with fail
    go_ret
    rw [HP.out]
    exact ⟨rfl, rfl⟩
  · cases a1 <;> cases a2 <;> first | exact absurd rfl g1 | skip
    all_goals
      clear g1
      cases a3 <;> cases a4 <;> cases a5 <;> cases a6 <;> cases a7
    all_goals
      replace HP := Lib.hid HP.out
      go_enter Try.func64, Try.ntmps64
      go_wp2_with fail
      go_ret
      rw [HP.out]
      exact ⟨rfl, rfl⟩
theorem str_at {s : ByteArray} {k : Nat} (h : k < s.size) : ∃ d, (bl s).getD k 0 = d ∧ d < 256 ∧ (s[k]'h).toNat = d := by
  refine ⟨_, rfl, ?_, bl_get s k h⟩
  have hkl : k < (bl s).length := by rw [bl_len]; exact h
  rw [List.getD_eq_getElem?_getD, List.getElem?_eq_getElem hkl]
  exact bl_byt s _ (List.getElem_mem hkl)
set_option maxRecDepth 100000 in
set_option maxHeartbeats 4000000 in
theorem rIsName_any (s : ByteArray) (w : World) : Calls Try.prog 47 #[.string s] w fun e w' => e = .returned (.bool (nmS s)) ∧ w = w' := by
  rcases hL : bl s with _ | ⟨c, t⟩
  · have h0 := empty_yes hL
    have HN : Hid (nmS s = false) := Lib.hid (by unfold nmS; rw [hL]; rfl)
    clear hL
    go_enter Try.func47, Try.ntmps47
    go_wp2_with fail
    go_ret
    rw [HN.out]
    exact ⟨rfl, rfl⟩
  · obtain ⟨hc8, hln, h00, h0⟩ := first_byte hL
    have hne := isEmpty_no hL
    have HL := Lib.hid hL
    by_cases h64 : s.size ≤ 64
    · have f1 : decide ((64 : Int) < (s.size : Int)) = false := decide_eq_false (by omega)
      have hs0 : (0 : Int) < (s.size : Int) := by omega
      have HD := Lib.hid (rDigit_any c w)
      by_cases hd : digC c = true
      · have HN : Hid (nmS s = false) := Lib.hid (by unfold nmS nameB; rw [hL]; simp [hd])
        rw [hd] at HD
        clear hL hln hd
        go_enter Try.func47, Try.ntmps47
        go_wp2_with fail
        with_reducible refine HD.out.mono ?_
        rintro e w1 ⟨rfl, rfl⟩
        go_wp2_with fail
        go_ret
        rw [HN.out]
        exact ⟨rfl, rfl⟩
      · have hd := Bool.eq_false_iff.2 hd
        have HN : Hid (nmS s = (bl s).all prtC) := Lib.hid (by
          unfold nmS nameB
          rw [hL]
          have : (c :: t).length ≤ 64 := by rw [List.length_cons]; omega
          simp only [List.headD_cons, hd, decide_eq_true this]
          simp)
        rw [hd] at HD
        have HP := Lib.hid (fun d => rPart_any d w)
        clear hL hln hd
        go_enter Try.func47, Try.ntmps47
        go_wp2_with fail
        with_reducible refine HD.out.mono ?_
        rintro e w1 ⟨rfl, rfl⟩
        clear HD h0
        go_wp2_with fail
        go_loopw [3] (fun i wr => ∃ k : Nat, k ≤ s.size ∧ i = .int .i64 (k : Int) ∧ Hid (((bl s).take k).all prtC = true) ∧ w1 = wr) (fun i _ => s.size - (intOf i).toNat)
        case atStart => exact ⟨0, Nat.zero_le _, rfl, Lib.hid rfl, rfl⟩
        case round =>
          obtain ⟨k, hk, rfl, HT, rfl⟩ := hrel
          by_cases hlt : k < s.size
          · obtain ⟨d, hd, hd2, hat⟩ := str_at hlt
            have hkl : k < (bl s).length := by rw [bl_len]; exact hlt
            have HPd := Lib.hid (HP.out d)
            have g0 : (0 : Int) ≤ (k : Int) := by omega
            have g1 : (k : Int) < (s.size : Int) := by omega
            have f2 : decide ((k : Int) < (s.size : Int)) = true := decide_eq_true g1
            have HK := Lib.hid (And.intro hkl hd)
            have HKl := Lib.hid hlt
            clear hd hkl hd2
            by_cases hp : prtC d = true
            · have HT2 : Hid (((bl s).take (k + 1)).all prtC = true) := Lib.hid (nameB_take HK.out.1 HT.out (by rw [HK.out.2]; exact hp))
              rw [hp] at HPd
              clear hp
              go_wp2_with fail
              with_reducible refine HPd.out.mono ?_
              rintro e w2 ⟨rfl, rfl⟩
              go_wp2_with fail
              exact ⟨⟨k + 1, HKl.out, by go_num, HT2, trivial⟩, by have := HKl.out; simp [intOf]; omega⟩
            · have hp := Bool.eq_false_iff.2 hp
              have HF : Hid ((bl s).all prtC = false) := Lib.hid (nameB_no HK.out.1 (by rw [HK.out.2]; exact hp))
              rw [hp] at HPd
              clear hp
              go_wp2_with fail
              with_reducible refine HPd.out.mono ?_
              rintro e w2 ⟨rfl, rfl⟩
              go_wp2_with fail
              go_ret
              rw [HN.out, HF.out]
              exact ⟨rfl, rfl⟩
          · have HF : Hid ((bl s).all prtC = true) := Lib.hid (by have h := HT.out; rwa [List.take_of_length_le (by rw [bl_len]; omega)] at h)
            have f2 : decide ((k : Int) < (s.size : Int)) = false := decide_eq_false (by omega)
            go_wp2_with fail
            go_ret
            rw [HN.out, HF.out]
            exact ⟨rfl, rfl⟩
    · have f1 : decide ((64 : Int) < (s.size : Int)) = true := decide_eq_true (by omega)
      have HN : Hid (nmS s = false) := Lib.hid (by
        unfold nmS nameB
        rw [decide_eq_false (show ¬ (bl s).length ≤ 64 by rw [bl_len]; exact h64)]
        simp)
      have h65 : 64 < s.size := by omega
      clear hL h64
      go_enter Try.func47, Try.ntmps47
      go_wp2_with fail
      go_ret
      rw [HN.out]
      exact ⟨rfl, rfl⟩
end Go.Proofs.Ytomjdicedjdpnaa
