/- The document's digit, hex. -/
import Derived.Test.YtbhhakobkpdadaaQRQuote
import Derived.Test.YtbhhakobkpdadaaQUnqM
namespace Go.Proofs.Ytbhhakobkpdadaa
open Go.RowKit Go.Shelf

theorem hex_run64 (j : Nat) (h : j < 16) (w : World) : Sem.run Try.prog (Instr.index 9 (.string ⟨#[48, 49, 50, 51, 52, 53, 54, 55, 56, 57, 97, 98, 99, 100, 101, 102]⟩) (.int .i64 (j : Int))) w = .ok (.int .u8 ((hx j : Nat) : Int)) w := by
  have hz : hexS.size = 16 := rfl
  have hi : (0 : Int) ≤ (j : Int) ∧ (j : Int) < (hexS.size : Int) := by omega
  have := run_index_string (P := Try.prog) w 9 hexS .i64 (j : Int) Try.underlying9
  rw [dif_pos hi] at this
  refine this.trans ?_
  congr 3
  exact hex_get j h
def digI (c : Nat) : Int := match digV c with | some d => (d : Int) | none => -1
theorem digI_some {c d : Nat} (h : digV c = some d) : digI c = (d : Int) := by rw [digI, h]
theorem digI_none {c : Nat} (h : digV c = none) : digI c = -1 := by rw [digI, h]
theorem dig_yes {c i : Nat} (hi : i < 16) (h : hx i = c ∨ (9 < i ∧ hx i = c + 32)) : digV c = some i := by
  unfold hx at h
  unfold digV
  split at h <;> (repeat' split) <;> first | omega | (congr 1; omega)
theorem dig_conv {c i : Nat} (h : digV c = some i) : hx i = c ∨ (9 < i ∧ hx i = c + 32) := by
  unfold digV at h
  unfold hx
  repeat' split at h
  all_goals (try cases h)
  all_goals split <;> omega
set_option maxRecDepth 100000 in
set_option maxHeartbeats 2000000 in
theorem rDigit_any (c : Nat) (_hc : c < 256) (w : World) : Calls Try.prog 46 #[.int .u8 (c : Int)] w fun e w' => e = .returned (.int .i64 (digI c)) ∧ w' = w := by
  go_enter Try.func46, Try.ntmps46
  go_wp2
  go_loopw [3] (fun p wr => ∃ i : Nat, i ≤ 16 ∧ p = .int .i64 (i : Int) ∧ Hid (∀ d, digV c = some d → i ≤ d) ∧ w = wr) (fun p _ => 16 - (intOf p).toNat)
  case atStart => exact ⟨0, by omega, rfl, Lib.hid (fun _ _ => Nat.zero_le _), rfl⟩
  case round =>
    obtain ⟨i, hi, rfl, HI, rfl⟩ := hrel
    by_cases hlt : i < 16
    · have f1 : decide ((i : Int) < 16) = true := decide_eq_true (by omega)
      have r1 := hex_run64 i hlt
      have hH : 48 ≤ hx i ∧ hx i < 103 := by unfold hx; split <;> omega
      have HY := Lib.hid (dig_yes (c := c) hlt)
      have HC := Lib.hid (fun h => dig_conv (c := c) (i := i) h)
      generalize hx i = H at *
      obtain ⟨M, hM⟩ : ∃ M, H - 32 = M := ⟨_, rfl⟩
      have w1 : IntKind.u8.wrap ((H : Int) - 32) = (M : Int) := by
        rw [show (H : Int) - 32 = (M : Int) by omega, u8_wrap M (by omega)]
      by_cases k1 : H = c
      · have HD : Hid (digV c = some i) := Lib.hid (HY.out (.inl k1))
        have f2 : ((H : Int) == (c : Int)) = true := by simp; omega
        clear k1 hH hM hi hlt
        go_wp2_with fail
        go_ret
        exact ⟨by rw [digI_some HD.out]; rfl, rfl⟩
      · have f2 : ((H : Int) == (c : Int)) = false := by simp; omega
        by_cases k2 : 9 < i
        · have f3 : decide ((9 : Int) < (i : Int)) = true := decide_eq_true (by omega)
          by_cases k3 : H = c + 32
          · have HD : Hid (digV c = some i) := Lib.hid (HY.out (.inr ⟨k2, k3⟩))
            have f4 : ((M : Int) == (c : Int)) = true := by simp; omega
            clear k1 k2 k3 hH hM hi hlt
            go_wp2_with fail
            go_ret
            exact ⟨by rw [digI_some HD.out]; rfl, rfl⟩
          · have f4 : ((M : Int) == (c : Int)) = false := by simp; omega
            have HN : Hid (∀ d, digV c = some d → i + 1 ≤ d) := Lib.hid (fun d hd => by
              have h1 := HI.out d hd
              rcases Nat.lt_or_ge i d with h | h
              · exact h
              · have he : d = i := by omega
                subst he
                rcases HC.out hd with h | h <;> omega)
            clear k1 k2 k3 hH hM
            go_wp2_with fail
            exact ⟨⟨i + 1, by omega, by go_num, HN, trivial⟩, by simp [intOf]; omega⟩
        · have f3 : decide ((9 : Int) < (i : Int)) = false := decide_eq_false (by omega)
          have HN : Hid (∀ d, digV c = some d → i + 1 ≤ d) := Lib.hid (fun d hd => by
            have h1 := HI.out d hd
            rcases Nat.lt_or_ge i d with h | h
            · exact h
            · have he : d = i := by omega
              subst he
              rcases HC.out hd with h | h <;> omega)
          clear k1 k2 hH hM
          go_wp2_with fail
          exact ⟨⟨i + 1, by omega, by go_num, HN, trivial⟩, by simp [intOf]; omega⟩
    · have f1 : decide ((i : Int) < 16) = false := decide_eq_false (by omega)
      have HD : Hid (digV c = none) := Lib.hid (by
        cases hd : digV c with
        | none => rfl
        | some d => have := HI.out d hd; have := digV_lt hd; omega)
      go_wp2_with fail
      go_ret
      exact ⟨by rw [digI_none HD.out]; rfl, rfl⟩
theorem hexG_app : ∀ (a b : List Nat) (n : Nat), hexG n (a ++ b) = (hexG n a).bind fun m => hexG m b
  | [], b, n => rfl
  | c :: t, b, n => by
    rw [List.cons_append, hexG_next, hexG_next]
    cases digV c with
    | none => rfl
    | some d => exact hexG_app t b _
def hexD (L : List Nat) (n : Nat) : Option Nat := if L.length < n then none else hexG 0 (L.take n)
set_option maxRecDepth 100000 in
set_option maxHeartbeats 4000000 in
theorem rHex_any (s : ByteArray) (n : Nat) (hn : n ≤ 8) (hs : s.size ≤ 1000000) (w : World) : Calls Try.prog 42 #[.string s, .int .i64 (n : Int)] w fun e w' => e = .returned (.tuple #[.int .i64 (((hexD (bl s) n).getD 0 : Nat) : Int), .bool (hexD (bl s) n).isSome]) ∧ w' = w := by
  go_enter Try.func42, Try.ntmps42
  go_wp2
  go_loopw [6, 7] (fun o p wr => ∃ i X : Nat, i ≤ n ∧ i ≤ s.size ∧ p = .int .i64 (i : Int) ∧ o = .int .i64 (X : Int) ∧ Hid (hexG 0 ((bl s).take i) = some X) ∧ w = wr) (fun _ p _ => n - (intOf p).toNat)
  case atStart => exact ⟨0, 0, by omega, by omega, rfl, rfl, Lib.hid rfl, rfl⟩
  case round =>
    obtain ⟨i, X, hi, his, rfl, rfl, HX, rfl⟩ := hrel
    have hXl : X < 4294967296 := by
      have := hexG_lt (k := 1) _ 0 X (by omega) HX.out
      rw [Nat.one_mul, List.length_take, bl_len, Nat.min_eq_left his] at this
      exact Nat.lt_of_lt_of_le this (Nat.le_trans (Nat.pow_le_pow_right (by omega) (by omega : i ≤ 8)) (by decide))
    by_cases hlt : i < n
    · have f1 : decide ((i : Int) < (n : Int)) = true := decide_eq_true (by omega)
      by_cases hsz : i < s.size
      · have f2 : decide ((s.size : Int) ≤ (i : Int)) = false := decide_eq_false (by omega)
        have g0 : (0 : Int) ≤ (i : Int) := by omega
        have g1 : (i : Int) < (s.size : Int) := by omega
        obtain ⟨c, hc⟩ : ∃ c, (bl s).getD i 0 = c := ⟨_, rfl⟩
        have hget : (s[i]'hsz).toNat = c := by rw [bl_get, hc]
        have hc8 : c < 256 := by rw [← hget]; exact (s[i]'hsz).toNat_lt
        have htk : (bl s).take (i + 1) = (bl s).take i ++ [c] := by
          have hl : i < (bl s).length := by rw [bl_len]; exact hsz
          rw [List.take_succ_eq_append_getElem hl, ← hc, List.getD_eq_getElem?_getD, List.getElem?_eq_getElem hl]; rfl
        have HG : Hid (hexG 0 ((bl s).take (i + 1)) = (digV c).bind fun d => some (X * 16 + d)) := Lib.hid (by
          rw [htk, hexG_app, HX.out]
          show hexG X [c] = _
          rw [hexG_next]; rfl)
        have HD := Lib.hid (fun w => rDigit_any c hc8 w)
        clear hc htk
        cases hd : digV c with
        | none =>
          rw [digI_none hd] at HD
          rw [hd] at HG
          have HN : Hid (hexD (bl s) n = none) := Lib.hid (by
            unfold hexD
            split
            · rfl
            · have : (bl s).take n = (bl s).take (i + 1) ++ ((bl s).take n).drop (i + 1) := by
                have := (List.take_append_drop (i + 1) ((bl s).take n)).symm
                rwa [List.take_take, Nat.min_eq_left (by omega)] at this
              rw [this, hexG_app, HG.out]; rfl)
          clear hd HG
          go_wp2_with fail
          with_reducible refine (HD.out _).mono ?_
          rintro e w1 ⟨rfl, rfl⟩
          go_wp2_with fail
          go_ret2
          rw [HN.out]
          exact ⟨rfl, rfl⟩
        | some d =>
          rw [digI_some hd] at HD
          rw [hd] at HG
          have hd16 := digV_lt hd
          have f3 : decide ((d : Int) < 0) = false := decide_eq_false (by omega)
          have w1 : IntKind.i64.wrap ((X : Int) * 16) = (X : Int) * 16 := by rw [IntKind.wrap_i64]; omega
          have w2 : IntKind.i64.wrap ((X : Int) * 16 + (d : Int)) = (X : Int) * 16 + (d : Int) := by rw [IntKind.wrap_i64]; omega
          clear hd
          go_wp2_with fail
          with_reducible refine (HD.out _).mono ?_
          rintro e w1 ⟨rfl, rfl⟩
          dsimp only
          go_wp2_with fail
          with_reducible refine (HD.out _).mono ?_
          rintro e w1 ⟨rfl, rfl⟩
          dsimp only
          go_wp2_with fail
          exact ⟨⟨i + 1, X * 16 + d, by omega, by omega, by go_num, by go_num, HG, trivial⟩, by simp [intOf]; omega⟩
      · have f2 : decide ((s.size : Int) ≤ (i : Int)) = true := decide_eq_true (by omega)
        have HN : Hid (hexD (bl s) n = none) := Lib.hid (by unfold hexD; rw [if_pos (by rw [bl_len]; omega)])
        go_wp2_with fail
        go_ret2
        rw [HN.out]
        exact ⟨rfl, rfl⟩
    · have f1 : decide ((i : Int) < (n : Int)) = false := decide_eq_false (by omega)
      have HN : Hid (hexD (bl s) n = some X) := Lib.hid (by
        unfold hexD
        rw [if_neg (by rw [bl_len]; omega), show n = i by omega]; exact HX.out)
      go_wp2_with fail
      go_ret2
      rw [HN.out]
      exact ⟨rfl, rfl⟩
end Go.Proofs.Ytbhhakobkpdadaa
