/- The document's piece: what an escape stands for. -/
import Derived.Test.YtbhhakobkpdadaaQRNum
import Derived.Test.YtbhhakobkpdadaaQUnq
namespace Go.Proofs.Ytbhhakobkpdadaa
open Go.RowKit Go.Shelf

def frS : ByteArray := ⟨#[97, 98, 102, 110, 114, 116, 118, 92, 39, 34]⟩
def toS : ByteArray := ⟨#[7, 8, 12, 10, 13, 9, 11, 92, 39, 34]⟩
def frN (i : Nat) : Nat := (bl frS).getD i 0
theorem fr_run (j : Nat) (h : j < 10) (w : World) : Sem.run Try.prog (Instr.index 9 (.string ⟨#[97, 98, 102, 110, 114, 116, 118, 92, 39, 34]⟩) (.int .i64 (j : Int))) w = .ok (.int .u8 ((frN j : Nat) : Int)) w := by
  have hz : frS.size = 10 := rfl
  have hi : (0 : Int) ≤ (j : Int) ∧ (j : Int) < (frS.size : Int) := by omega
  have := run_index_string (P := Try.prog) w 9 frS .i64 (j : Int) Try.underlying9
  rw [dif_pos hi] at this
  refine this.trans ?_
  congr 3
  exact bl_get frS j (by omega)
theorem esc_at : ∀ i, i < 10 → escF (frN i) = some ((bl toS).getD i 0) := by decide
theorem esc_not {k : Nat} (h : ∀ j, j < 10 → frN j ≠ k) : escF k = none := by
  have h0 := h 0 (by omega)
  have h1 := h 1 (by omega)
  have h2 := h 2 (by omega)
  have h3 := h 3 (by omega)
  have h4 := h 4 (by omega)
  have h5 := h 5 (by omega)
  have h6 := h 6 (by omega)
  have h7 := h 7 (by omega)
  have h8 := h 8 (by omega)
  have h9 := h 9 (by omega)
  change 97 ≠ k at h0
  change 98 ≠ k at h1
  change 102 ≠ k at h2
  change 110 ≠ k at h3
  change 114 ≠ k at h4
  change 116 ≠ k at h5
  change 118 ≠ k at h6
  change 92 ≠ k at h7
  change 39 ≠ k at h8
  change 34 ≠ k at h9
  unfold escF
  simp only [if_neg (Ne.symm h0), if_neg (Ne.symm h1), if_neg (Ne.symm h2), if_neg (Ne.symm h3), if_neg (Ne.symm h4), if_neg (Ne.symm h5), if_neg (Ne.symm h6), if_neg (Ne.symm h7), if_neg (Ne.symm h8), if_neg (Ne.symm h9)]
theorem to_cut : ∀ i, i < 10 → bl (toS.extract i (i + 1)) = [(bl toS).getD i 0] := by
  intro i h
  rw [bl_extract]
  revert i
  decide
theorem hexD_num {L : List Nat} {n : Nat} (h : n ≠ 0) : hexD L n = numB L n := by
  unfold hexD numB
  by_cases h2 : L.length < n
  · rw [if_pos h2, if_pos (Or.inr h2)]
  · rw [if_neg h2, if_neg (by omega)]
def pcN (o : Option (List Nat × Nat)) : Nat := match o with
  | none => 0
  | some p => p.2 - 1
def pcL (o : Option (List Nat × Nat)) : List Nat := match o with
  | none => []
  | some p => p.1
/-- A piece and its length; 0: none. -/
def PcOut (w : World) (o : Option (List Nat × Nat)) (e : Ending) (w' : World) : Prop :=
  ∃ S, e = .returned (.tuple #[.string S, .int .i64 (pcN o : Nat)]) ∧ bl S = pcL o ∧ Below w.heap.size w w'
set_option maxRecDepth 100000 in
set_option maxHeartbeats 8000000 in
theorem rPiece_any (s : ByteArray) (hs : s.size ≤ 1000000) (w : World) : Calls Try.prog 33 #[.string s] w (PcOut w (stepU (92 :: bl s))) := by
  cases hL : bl s with
  | nil =>
    have he : s = ByteArray.empty := bl_nil.2 hL
    subst he
    have HE := Lib.hid stepU_end
    clear hL hs
    go_enter Try.func33, Try.ntmps33
    go_wp2
    go_ret2
    rw [HE.out]
    exact ⟨_, rfl, rfl, Below.refl _ _⟩
  | cons k u =>
    obtain ⟨hc8, hln, h00, h0⟩ := first_byte hL
    have hne := isEmpty_no hL
    have e3 : (1 : Int) ≤ (s.size : Int) := by omega
    have e4 : (0 : Int) < (s.size : Int) := by omega
    obtain ⟨s1, hs1⟩ : ∃ x, s.extract 1 s.size = x := ⟨_, rfl⟩
    have hb1 : bl s1 = u := by rw [drop_one hs1, hL]; rfl
    have hsz1 : s1.size ≤ 1000000 := by rw [← bl_len, hb1]; omega
    have HX : Hid (∀ (n : Nat) (N : Int), (n : Int) = N → n ≤ 8 → ∀ w, Calls Try.prog 42 #[.string s1, .int .i64 N] w fun e w' => e = .returned (.tuple #[.int .i64 (((hexD (bl s1) n).getD 0 : Nat) : Int), .bool (hexD (bl s1) n).isSome]) ∧ w' = w) := Lib.hid (fun n N hN hn w => by subst hN; exact rHex_any s1 n hn hsz1 w)
    rw [hb1] at HX
    clear hL hb1 hsz1 hln
    go_enter Try.func33, Try.ntmps33
    go_wp2_with fail
    go_loopw [6] (fun p wr => ∃ i : Nat, i ≤ 10 ∧ p = .int .i64 (i : Int) ∧ Hid (∀ j, j < i → frN j ≠ k) ∧ Below w.heap.size w wr) (fun p _ => 10 - (intOf p).toNat)
    case atStart => exact ⟨0, by omega, rfl, Lib.hid (fun j h => by omega), Below.refl _ _⟩
    case round =>
      obtain ⟨i, hi, rfl, HI, hb⟩ := hrel
      by_cases hlt : i < 10
      · have f1 : decide ((i : Int) < 10) = true := decide_eq_true (by omega)
        have g0 : (0 : Int) ≤ (i : Int) := by omega
        have g1 : (i : Int) < 10 := by omega
        have r1 := fr_run i hlt
        have HE := Lib.hid (esc_at i hlt)
        have HT := Lib.hid (to_cut i hlt)
        obtain ⟨F, hF⟩ : ∃ F, frN i = F := ⟨_, rfl⟩
        rw [hF] at r1 HE
        by_cases k1 : F = k
        · have HD : Hid (stepU (92 :: k :: u) = some ([(bl toS).getD i 0], 2)) := Lib.hid (stepU_esc (by rw [← k1]; exact HE.out))
          have f2 : ((F : Int) == (k : Int)) = true := by simp; omega
          have n1 : ((i : Int) + 1).toNat = i + 1 := by omega
          have g2 : (i : Int) + 1 ≤ 10 := by omega
          have g3 : (i : Int) ≤ (i : Int) + 1 := by omega
          have t5 : IntKind.i64.wrap ((i : Int) + 1) = (i : Int) + 1 := by rw [IntKind.wrap_i64]; omega
          clear k1 hF hi hlt HE hc8
          go_wp2_with fail
          go_quiet (fail)
          go_wp2_with fail
          go_ret2
          rw [HD.out]
          exact ⟨_, rfl, HT.out, Below.dn hb _⟩
        · have f2 : ((F : Int) == (k : Int)) = false := by simp; omega
          have HN : Hid (∀ j, j < i + 1 → frN j ≠ k) := Lib.hid (fun j h => by
            rcases Nat.lt_or_ge j i with h2 | h2
            · exact HI.out j h2
            · have he : j = i := by omega
              subst he
              rw [hF]; exact k1)
          clear k1 hF HE hc8
          go_wp2_with fail
          go_quiet (fail)
          go_wp2_with fail
          exact ⟨⟨i + 1, by omega, by go_num, HN, Below.dn hb _⟩, by simp [intOf]; omega⟩
      · have f1 : decide ((i : Int) < 10) = false := decide_eq_false (by omega)
        have HE : Hid (escF k = none) := Lib.hid (esc_not (fun j hj => HI.out j (by omega)))
        clear hi HI
        have HB := Lib.hid hb
        clear hb hlt
        by_cases k120 : k = 120
        · have f120 : ((k : Int) == 120) = true := by simp; omega
          have hdc : dcB k = 2 := by rw [k120]; rfl
          have HH : Hid (hexD u 2 = numB u 2) := Lib.hid (hexD_num (by omega))
          have HHX := Lib.hid (HX.out 2 2 rfl (by omega))
          rw [HH.out] at HHX
          cases hn : numB u 2 with
          | none =>
            have HD : Hid (stepU (92 :: k :: u) = none) := Lib.hid (stepU_num HE.out (by rw [hdc, hn]))
            rw [hn] at HHX
            clear k120 hdc hn hc8
            go_wp2_with fail
            with_reducible refine (HHX.out _).mono ?_
            rintro e w1 ⟨rfl, rfl⟩
            dsimp only [Option.getD, Option.isSome]
            go_wp2_with fail
            go_ret2
            rw [HD.out]
            exact ⟨_, rfl, rfl, HB.out⟩
          | some x =>
            have HD : Hid (stepU (92 :: k :: u) = some ([x], 4)) := Lib.hid (by rw [k120]; exact stepU_x hn)
            have hx8 := hexG_two hn
            have hw2 : IntKind.u8.wrap (x : Int) = (x : Int) := u8_wrap x hx8
            have kc := fun (W : World) (x0 : Int) => cv_row W #[.int .u8 x0] [x0] 1 1 rfl rfl
            have HBt : Hid (Byt [x]) := Lib.hid (Byt.cons hx8 Byt.nil)
            rw [hn] at HHX
            clear k120 hdc hn hc8 hx8
            go_wp2_with fail
            with_reducible refine (HHX.out _).mono ?_
            rintro e w1 ⟨rfl, rfl⟩
            dsimp only [Option.getD, Option.isSome]
            go_wp2_with fail
            go_ret2
            rw [HD.out]
            exact ⟨_, rfl, bl_str (l := [x]) rfl HBt.out, HB.out.alloc HB.out.size _⟩
        have f120 : ((k : Int) == 120) = false := by simp; omega
        by_cases k117 : k = 117
        · have f117 : ((k : Int) == 117) = true := by simp; omega
          have hdc : dcB k = 4 := by rw [k117]; rfl
          have HH : Hid (hexD u 4 = numB u 4) := Lib.hid (hexD_num (by omega))
          have HHX := Lib.hid (HX.out 4 4 rfl (by omega))
          rw [HH.out] at HHX
          cases hn : numB u 4 with
          | none =>
            have HD : Hid (stepU (92 :: k :: u) = none) := Lib.hid (stepU_num HE.out (by rw [hdc, hn]))
            rw [hn] at HHX
            clear k117 hdc hn hc8
            go_wp2_with fail
            with_reducible refine (HHX.out _).mono ?_
            rintro e w1 ⟨rfl, rfl⟩
            dsimp only [Option.getD, Option.isSome]
            go_wp2_with fail
            go_ret2
            rw [HD.out]
            exact ⟨_, rfl, rfl, HB.out⟩
          | some x =>
            have hx9 := numB_lt (by omega) hn
            have hk120 : k ≠ 120 := by omega
            rw [hn] at HHX
            by_cases hR : runeN x = true
            · have hx1 := runeN_le hR
              have HD : Hid (stepU (92 :: k :: u) = some (encN x, 2 + 4)) := Lib.hid (by rw [← hdc]; exact stepU_rune HE.out hk120 (by rw [hdc]; exact hn) hR)
              have d1 : decide ((1114111 : Int) < (x : Int)) = false := decide_eq_false (by omega)
              have hw1 : IntKind.i32.wrap (x : Int) = (x : Int) := i32_wrap x (by omega)
              have HR := Lib.hid (fun w => rIsRune_any (x : Int) true (by rw [isR_nat]; exact hR) w)
              have HEn := Lib.hid (fun w => rEncode_any (x : Int) w)
              rw [enc_rune0 hR] at HEn
              clear k117 hdc hn hc8 hx9 hx1 hR hk120
              go_wp2_with fail
              with_reducible refine (HHX.out _).mono ?_
              rintro e w1 ⟨rfl, rfl⟩
              dsimp only [Option.getD, Option.isSome]
              go_wp2_with fail
              with_reducible refine (HR.out _).mono ?_
              rintro e w2 ⟨rfl, rfl⟩
              go_wp2_with fail
              with_reducible refine (HEn.out _).mono ?_
              rintro e w3 ⟨S, rfl, hS, b3⟩
              have hb3 := next HB.out b3
              clear b3
              go_wp2_with fail
              go_ret2
              rw [HD.out]
              exact ⟨S, rfl, hS, hb3⟩
            · have HD : Hid (stepU (92 :: k :: u) = none) := Lib.hid (stepU_no HE.out hk120 (by rw [hdc]; exact hn) (by simpa using hR))
              by_cases hbig : 1114111 < x
              · have d1 : decide ((1114111 : Int) < (x : Int)) = true := decide_eq_true (by omega)
                clear k117 hdc hn hc8 hx9 hR hk120 hbig
                go_wp2_with fail
                with_reducible refine (HHX.out _).mono ?_
                rintro e w1 ⟨rfl, rfl⟩
                dsimp only [Option.getD, Option.isSome]
                go_wp2_with fail
                go_ret2
                rw [HD.out]
                exact ⟨_, rfl, rfl, HB.out⟩
              · have d1 : decide ((1114111 : Int) < (x : Int)) = false := decide_eq_false (by omega)
                have hw1 : IntKind.i32.wrap (x : Int) = (x : Int) := i32_wrap x (by omega)
                have HR := Lib.hid (fun w => rIsRune_any (x : Int) false (by rw [isR_nat]; simpa using hR) w)
                clear k117 hdc hn hc8 hx9 hR hk120 hbig
                go_wp2_with fail
                with_reducible refine (HHX.out _).mono ?_
                rintro e w1 ⟨rfl, rfl⟩
                dsimp only [Option.getD, Option.isSome]
                go_wp2_with fail
                with_reducible refine (HR.out _).mono ?_
                rintro e w2 ⟨rfl, rfl⟩
                go_wp2_with fail
                go_ret2
                rw [HD.out]
                exact ⟨_, rfl, rfl, HB.out⟩
        have f117 : ((k : Int) == 117) = false := by simp; omega
        by_cases k85 : k = 85
        · have f85 : ((k : Int) == 85) = true := by simp; omega
          have hdc : dcB k = 8 := by rw [k85]; rfl
          have HH : Hid (hexD u 8 = numB u 8) := Lib.hid (hexD_num (by omega))
          have HHX := Lib.hid (HX.out 8 8 rfl (by omega))
          rw [HH.out] at HHX
          cases hn : numB u 8 with
          | none =>
            have HD : Hid (stepU (92 :: k :: u) = none) := Lib.hid (stepU_num HE.out (by rw [hdc, hn]))
            rw [hn] at HHX
            clear k85 hdc hn hc8
            go_wp2_with fail
            with_reducible refine (HHX.out _).mono ?_
            rintro e w1 ⟨rfl, rfl⟩
            dsimp only [Option.getD, Option.isSome]
            go_wp2_with fail
            go_ret2
            rw [HD.out]
            exact ⟨_, rfl, rfl, HB.out⟩
          | some x =>
            have hx9 := numB_lt (by omega) hn
            have hk120 : k ≠ 120 := by omega
            rw [hn] at HHX
            by_cases hR : runeN x = true
            · have hx1 := runeN_le hR
              have HD : Hid (stepU (92 :: k :: u) = some (encN x, 2 + 8)) := Lib.hid (by rw [← hdc]; exact stepU_rune HE.out hk120 (by rw [hdc]; exact hn) hR)
              have d1 : decide ((1114111 : Int) < (x : Int)) = false := decide_eq_false (by omega)
              have hw1 : IntKind.i32.wrap (x : Int) = (x : Int) := i32_wrap x (by omega)
              have HR := Lib.hid (fun w => rIsRune_any (x : Int) true (by rw [isR_nat]; exact hR) w)
              have HEn := Lib.hid (fun w => rEncode_any (x : Int) w)
              rw [enc_rune0 hR] at HEn
              clear k85 hdc hn hc8 hx9 hx1 hR hk120
              go_wp2_with fail
              with_reducible refine (HHX.out _).mono ?_
              rintro e w1 ⟨rfl, rfl⟩
              dsimp only [Option.getD, Option.isSome]
              go_wp2_with fail
              with_reducible refine (HR.out _).mono ?_
              rintro e w2 ⟨rfl, rfl⟩
              go_wp2_with fail
              with_reducible refine (HEn.out _).mono ?_
              rintro e w3 ⟨S, rfl, hS, b3⟩
              have hb3 := next HB.out b3
              clear b3
              go_wp2_with fail
              go_ret2
              rw [HD.out]
              exact ⟨S, rfl, hS, hb3⟩
            · have HD : Hid (stepU (92 :: k :: u) = none) := Lib.hid (stepU_no HE.out hk120 (by rw [hdc]; exact hn) (by simpa using hR))
              by_cases hbig : 1114111 < x
              · have d1 : decide ((1114111 : Int) < (x : Int)) = true := decide_eq_true (by omega)
                clear k85 hdc hn hc8 hx9 hR hk120 hbig
                go_wp2_with fail
                with_reducible refine (HHX.out _).mono ?_
                rintro e w1 ⟨rfl, rfl⟩
                dsimp only [Option.getD, Option.isSome]
                go_wp2_with fail
                go_ret2
                rw [HD.out]
                exact ⟨_, rfl, rfl, HB.out⟩
              · have d1 : decide ((1114111 : Int) < (x : Int)) = false := decide_eq_false (by omega)
                have hw1 : IntKind.i32.wrap (x : Int) = (x : Int) := i32_wrap x (by omega)
                have HR := Lib.hid (fun w => rIsRune_any (x : Int) false (by rw [isR_nat]; simpa using hR) w)
                clear k85 hdc hn hc8 hx9 hR hk120 hbig
                go_wp2_with fail
                with_reducible refine (HHX.out _).mono ?_
                rintro e w1 ⟨rfl, rfl⟩
                dsimp only [Option.getD, Option.isSome]
                go_wp2_with fail
                with_reducible refine (HR.out _).mono ?_
                rintro e w2 ⟨rfl, rfl⟩
                go_wp2_with fail
                go_ret2
                rw [HD.out]
                exact ⟨_, rfl, rfl, HB.out⟩
        have f85 : ((k : Int) == 85) = false := by simp; omega
        have hdc : dcB k = 0 := by unfold dcB; rw [if_neg k85, if_neg k117, if_neg k120]
        have HD : Hid (stepU (92 :: k :: u) = none) := Lib.hid (stepU_num HE.out (by rw [hdc]; rfl))
        have HHX := Lib.hid (HX.out 0 0 rfl (by omega))
        clear k120 k117 k85 hdc hc8
        go_wp2_with fail
        with_reducible refine (HHX.out _).mono ?_
        rintro e w1 ⟨rfl, rfl⟩
        go_wp2_with fail
        go_ret2
        rw [HD.out]
        exact ⟨_, rfl, rfl, HB.out⟩
end Go.Proofs.Ytbhhakobkpdadaa
