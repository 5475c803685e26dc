/- The document's Decode. -/
import Derived.Test.YtbhhakobkpdadaaQREnc
namespace Go.Proofs.Ytbhhakobkpdadaa
open Go.RowKit Go.Shelf

/-- The end of Decode: what was told against the rune's own bytes. -/
theorem rest_getD {s : ByteArray} {c : Nat} {t : List Nat} (h : bl s = c :: t) (i : Nat) (hi : 1 ≤ i) (hs : i < s.size) : (s[i]'hs).toNat = t.getD (i - 1) 0 := by
  rw [bl_get, h]
  cases i with
  | zero => omega
  | succ j => rfl
theorem enc_high {c : Nat} (h : 128 ≤ c) (h2 : c < 256) : enc (c : Nat) ≠ [c] := by
  have hr : runeN c = true := decide_eq_true (by omega)
  rw [enc_rune0 hr, encN, if_neg (by omega), if_pos (by omega)]
  simp
set_option maxRecDepth 100000 in
set_option maxHeartbeats 4000000 in
theorem rDecode_low (s : ByteArray) (c : Nat) (t : List Nat) (hL : bl s = c :: t) (hc : c < 128) (w : World) : Calls Try.prog 11 #[.string s] w (DecOut w (c, 1)) := by
  obtain ⟨hc8, hln, h00, h0⟩ := first_byte hL
  have hne := isEmpty_no hL
  have hs0 : (0 : Int) < (s.size : Int) := by omega
  have hs1 : (1 : Int) ≤ (s.size : Int) := by omega
  have hw : IntKind.i32.wrap (c : Int) = (c : Int) := i32_wrap c (by omega)
  have d0 : decide ((192 : Int) ≤ (c : Int)) = false := decide_eq_false (by omega)
  have d1 : decide ((224 : Int) ≤ (c : Int)) = false := decide_eq_false (by omega)
  have d2 : decide ((240 : Int) ≤ (c : Int)) = false := decide_eq_false (by omega)
  have d8 : decide ((s.size : Int) < 1) = false := decide_eq_false (by omega)
  have d9 : decide (s.size < 1) = false := decide_eq_false (by omega)
  have hX : bl (s.extract 0 1) = [c] := by rw [bl_extract, hL]; rfl
  have HQ : Hid (∀ S, bl S = enc (c : Nat) → (S.toList == (s.extract 0 1).toList) = true) := Lib.hid (fun S h => by rw [toList_bl, h, hX]; exact decide_eq_true (enc_one hc))
  have HE := Lib.hid (fun w => rEncode_any (c : Nat) w)
  clear hX hL hln hc hc8
  go_enter Try.func11, Try.ntmps11
  go_wp2_with fail
  go_loopw [6, 7] (fun r i wr => r = .int .i32 c ∧ i = .int .i64 1 ∧ w = wr) (fun _ _ _ => 0)
  case atStart => exact ⟨rfl, rfl, rfl⟩
  case round =>
    obtain ⟨rfl, rfl, rfl⟩ := hrel
    go_wp2_with fail
    go_region_held3 (fun w' => Below w.heap.size w w') (first | exact (Below.refl _ _).drew | assumption | exact (Below.refl _ _).drew.trans (by assumption)) ((first
      | (go_at_call 16
         with_reducible refine (HE.out _).mono ?_
         rintro e w2 ⟨S, rfl, hS, hb2⟩
         have hq := HQ.out S hS)))
    all_goals
      go_wp2
      go_ret2
      exact ⟨rfl, by assumption⟩
set_option maxRecDepth 100000 in
set_option maxHeartbeats 4000000 in
theorem rDecode_mid (s : ByteArray) (c : Nat) (t : List Nat) (hL : bl s = c :: t) (hc : 128 ≤ c ∧ c < 192) (w : World) : Calls Try.prog 11 #[.string s] w (DecOut w (65533, 1)) := by
  obtain ⟨hc8, hln, h00, h0⟩ := first_byte hL
  have hne := isEmpty_no hL
  have hs0 : (0 : Int) < (s.size : Int) := by omega
  have hs1 : (1 : Int) ≤ (s.size : Int) := by omega
  have hw : IntKind.i32.wrap (c : Int) = (c : Int) := i32_wrap c (by omega)
  have d0 : decide ((192 : Int) ≤ (c : Int)) = false := decide_eq_false (by omega)
  have d1 : decide ((224 : Int) ≤ (c : Int)) = false := decide_eq_false (by omega)
  have d2 : decide ((240 : Int) ≤ (c : Int)) = false := decide_eq_false (by omega)
  have d8 : decide ((s.size : Int) < 1) = false := decide_eq_false (by omega)
  have d9 : decide (s.size < 1) = false := decide_eq_false (by omega)
  have hX : bl (s.extract 0 1) = [c] := by rw [bl_extract, hL]; rfl
  have HQ : Hid (∀ S, bl S = enc (c : Nat) → (S.toList == (s.extract 0 1).toList) = false) := Lib.hid (fun S h => by rw [toList_bl, h, hX]; exact decide_eq_false (enc_high (by omega) (by omega)))
  have HE := Lib.hid (fun w => rEncode_any (c : Nat) w)
  clear hX hL hln hc hc8
  go_enter Try.func11, Try.ntmps11
  go_wp2_with fail
  go_loopw [6, 7] (fun r i wr => r = .int .i32 c ∧ i = .int .i64 1 ∧ w = wr) (fun _ _ _ => 0)
  case atStart => exact ⟨rfl, rfl, rfl⟩
  case round =>
    obtain ⟨rfl, rfl, rfl⟩ := hrel
    go_wp2_with fail
    go_region_held3 (fun w' => Below w.heap.size w w') (first | exact (Below.refl _ _).drew | assumption | exact (Below.refl _ _).drew.trans (by assumption)) ((first
      | (go_at_call 16
         with_reducible refine (HE.out _).mono ?_
         rintro e w2 ⟨S, rfl, hS, hb2⟩
         have hq := HQ.out S hS)))
    all_goals
      go_wp2
      go_ret2
      exact ⟨rfl, by assumption⟩
set_option maxRecDepth 100000 in
set_option maxHeartbeats 4000000 in
theorem rDecode_top (s : ByteArray) (c : Nat) (t : List Nat) (hL : bl s = c :: t) (hc : 248 ≤ c ∧ c < 256) (w : World) : Calls Try.prog 11 #[.string s] w (DecOut w (65533, 1)) := by
  obtain ⟨hc8, hln, h00, h0⟩ := first_byte hL
  have hne := isEmpty_no hL
  have hs0 : (0 : Int) < (s.size : Int) := by omega
  have hs1 : (1 : Int) ≤ (s.size : Int) := by omega
  have hw : IntKind.i32.wrap (c : Int) = (c : Int) := i32_wrap c (by omega)
  have d0 : decide ((192 : Int) ≤ (c : Int)) = true := decide_eq_true (by omega)
  have d1 : decide ((c : Int) < 224) = false := decide_eq_false (by omega)
  have d2 : decide ((224 : Int) ≤ (c : Int)) = true := decide_eq_true (by omega)
  have d3 : decide ((c : Int) < 240) = false := decide_eq_false (by omega)
  have d4 : decide ((240 : Int) ≤ (c : Int)) = true := decide_eq_true (by omega)
  have d5 : decide ((c : Int) < 248) = false := decide_eq_false (by omega)
  have d8 : decide ((s.size : Int) < 1) = false := decide_eq_false (by omega)
  have d9 : decide (s.size < 1) = false := decide_eq_false (by omega)
  have hX : bl (s.extract 0 1) = [c] := by rw [bl_extract, hL]; rfl
  have HQ : Hid (∀ S, bl S = enc (c : Nat) → (S.toList == (s.extract 0 1).toList) = false) := Lib.hid (fun S h => by rw [toList_bl, h, hX]; exact decide_eq_false (enc_high (by omega) (by omega)))
  have HE := Lib.hid (fun w => rEncode_any (c : Nat) w)
  clear hX hL hln hc hc8
  go_enter Try.func11, Try.ntmps11
  go_wp2_with fail
  go_loopw [6, 7] (fun r i wr => r = .int .i32 c ∧ i = .int .i64 1 ∧ w = wr) (fun _ _ _ => 0)
  case atStart => exact ⟨rfl, rfl, rfl⟩
  case round =>
    obtain ⟨rfl, rfl, rfl⟩ := hrel
    go_wp2_with fail
    go_region_held3 (fun w' => Below w.heap.size w w') (first | exact (Below.refl _ _).drew | assumption | exact (Below.refl _ _).drew.trans (by assumption)) ((first
      | (go_at_call 16
         with_reducible refine (HE.out _).mono ?_
         rintro e w2 ⟨S, rfl, hS, hb2⟩
         have hq := HQ.out S hS)))
    all_goals
      go_wp2
      go_ret2
      exact ⟨rfl, by assumption⟩
end Go.Proofs.Ytbhhakobkpdadaa
