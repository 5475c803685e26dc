/- The document's Encode. -/
import Derived.Test.YtbhhakobkpdadaaQWorks
namespace Go.Proofs.Ytbhhakobkpdadaa
open Go.RowKit Go.Shelf

theorem enc_rune0 {v : Nat} (h : runeN v = true) : enc (v : Nat) = encN v := by
  rw [enc, runeOf, isR_nat, h, if_pos rfl, Int.toNat_natCast]
theorem rIsRune_any (r : Int) (v : Bool) (hv : isR r = v) (w : World) : Calls Try.prog 30 #[.int .i32 r] w fun e w' => e = .returned (.bool v) ∧ w' = w := by
  subst hv
  by_cases h0 : 0 ≤ r
  · by_cases h1 : r ≤ 1114111
    · by_cases h2 : r < 55296
      · have hR : isR r = true := decide_eq_true (by omega)
        rw [hR]
        go_enter Try.func30, Try.ntmps30
        go_wp2
        go_ret
        exact ⟨rfl, rfl⟩
      · by_cases h3 : 57343 < r
        · have hR : isR r = true := decide_eq_true (by omega)
          rw [hR]
          go_enter Try.func30, Try.ntmps30
          go_wp2
          go_ret
          exact ⟨rfl, rfl⟩
        · have hR : isR r = false := decide_eq_false (by omega)
          rw [hR]
          go_enter Try.func30, Try.ntmps30
          go_wp2
          go_ret
          exact ⟨rfl, rfl⟩
    · have hR : isR r = false := decide_eq_false (by omega)
      rw [hR]
      go_enter Try.func30, Try.ntmps30
      go_wp2
      go_ret
      exact ⟨rfl, rfl⟩
  · have hR : isR r = false := decide_eq_false (by omega)
    rw [hR]
    go_enter Try.func30, Try.ntmps30
    go_wp2
    go_ret
    exact ⟨rfl, rfl⟩
theorem six_val (v k : Nat) (h : v ≤ 1114111) : bits .and .i32 ((v : Int) / 2 ^ k) 63 = ((v / 2 ^ k % 64 : Nat) : Int) := by
  have h2 : v / 2 ^ k ≤ v := Nat.div_le_self _ _
  rw [show (v : Int) / 2 ^ k = ((v / 2 ^ k : Nat) : Int) by rw [Int.natCast_ediv, Int.natCast_pow]; rfl, and63 _ (by omega)]
theorem six_any (v k : Nat) (x : Nat) (hx : v / 2 ^ k % 64 = x) (hk : k ≤ 12) (hv : v ≤ 1114111) (w : World) :
    Calls Try.prog 31 #[.int .i32 (v : Int), .int .i64 (k : Int)] w fun e w' => e = .returned (.int .u8 ((128 + x : Nat) : Int)) ∧ w' = w := by
  have hk0 : (0 : Int) ≤ (k : Int) := by omega
  have hk1 : (k : Int) ≤ 12 := by omega
  have hs := six_val v k hv
  rw [hx] at hs
  have hx64 : x < 64 := by omega
  have hw1 : IntKind.i32.wrap (128 + (x : Int)) = 128 + (x : Int) := by rw [IntKind.wrap_i32]; omega
  have hw2 : IntKind.u8.wrap (128 + (x : Int)) = 128 + (x : Int) := by
    rw [show (128 : Int) + (x : Int) = ((128 + x : Nat) : Int) by omega, u8_wrap _ (by omega)]
  clear hx
  go_enter Try.func31, Try.ntmps31
  go_wp2
  go_ret
  exact ⟨by simp, rfl⟩
theorem six0 (v x : Nat) (hx : v % 64 = x) (hv : v ≤ 1114111) (w : World) : Calls Try.prog 31 #[.int .i32 (v : Int), .int .i64 0] w fun e w' => e = .returned (.int .u8 ((128 + x : Nat) : Int)) ∧ w' = w := six_any v 0 x (by rw [Nat.pow_zero, Nat.div_one]; exact hx) (by omega) hv w
theorem six6 (v x : Nat) (hx : v / 64 % 64 = x) (hv : v ≤ 1114111) (w : World) : Calls Try.prog 31 #[.int .i32 (v : Int), .int .i64 6] w fun e w' => e = .returned (.int .u8 ((128 + x : Nat) : Int)) ∧ w' = w := six_any v 6 x hx (by omega) hv w
theorem six12 (v x : Nat) (hx : v / 4096 % 64 = x) (hv : v ≤ 1114111) (w : World) : Calls Try.prog 31 #[.int .i32 (v : Int), .int .i64 12] w fun e w' => e = .returned (.int .u8 ((128 + x : Nat) : Int)) ∧ w' = w := six_any v 12 x hx (by omega) hv w
theorem headw (b q : Nat) (h : b + q < 256) : IntKind.i32.wrap ((b : Int) + (q : Int)) = (b : Int) + (q : Int) ∧ IntKind.u8.wrap ((b : Int) + (q : Int)) = (b : Int) + (q : Int) := by
  refine ⟨by rw [IntKind.wrap_i32]; omega, ?_⟩
  rw [show (b : Int) + (q : Int) = ((b + q : Nat) : Int) by omega, u8_wrap _ h]
set_option maxRecDepth 100000 in
set_option maxHeartbeats 4000000 in
theorem rEncode_one (v : Nat) (hR : runeN v = true) (hc : v < 128) (w : World) : Calls Try.prog 16 #[.int .i32 (v : Int)] w (StrOut w [v]) := by
  have hv1 := runeN_le hR
  obtain ⟨z, hz⟩ : ∃ x, v % 64 = x := ⟨_, rfl⟩
  obtain ⟨y, hy⟩ : ∃ x, v / 64 % 64 = x := ⟨_, rfl⟩
  obtain ⟨u, hu⟩ : ∃ x, v / 4096 % 64 = x := ⟨_, rfl⟩
  have HR := Lib.hid (fun w => rIsRune_any (v : Int) true (by rw [isR_nat]; exact hR) w)
  have HZ := Lib.hid (fun w => six0 v z hz hv1 w)
  have HY := Lib.hid (fun w => six6 v y hy hv1 w)
  have HU := Lib.hid (fun w => six12 v u hu hv1 w)
  have d1 : decide ((v : Int) < 128) = true := decide_eq_true (by omega)
  have kc := fun (W : World) (x0 : Int) => cv_row W #[.int .u8 x0] [x0] 1 1 rfl rfl
  have hw2 : IntKind.u8.wrap (v : Int) = (v : Int) := u8_wrap v (by omega)
  have HE : Hid ([v] = [v] ∧ Byt [v]) := Lib.hid ⟨by rfl, by intro x hx; simp at hx; omega⟩
  clear hR hc hv1 hz hy hu
  go_enter Try.func16, Try.ntmps16
  go_wp2_with fail
  with_reducible refine (HR.out _).mono ?_
  rintro e w' ⟨rfl, rfl⟩
  go_wp2_with fail
  with_reducible refine (HZ.out _).mono ?_
  rintro e w' ⟨rfl, rfl⟩
  go_wp2_with fail
  go_ret
  exact ⟨_, rfl, bl_str (by simp) HE.out.2, (Below.refl _ _).alloc (Nat.le_refl _) _⟩
set_option maxRecDepth 100000 in
set_option maxHeartbeats 4000000 in
theorem rEncode_two (v : Nat) (hR : runeN v = true) (hc : 128 ≤ v ∧ v < 2048) (w : World) : Calls Try.prog 16 #[.int .i32 (v : Int)] w (StrOut w [192 + v / 64, 128 + v % 64]) := by
  have hv1 := runeN_le hR
  obtain ⟨z, hz⟩ : ∃ x, v % 64 = x := ⟨_, rfl⟩
  obtain ⟨y, hy⟩ : ∃ x, v / 64 % 64 = x := ⟨_, rfl⟩
  obtain ⟨u, hu⟩ : ∃ x, v / 4096 % 64 = x := ⟨_, rfl⟩
  have HR := Lib.hid (fun w => rIsRune_any (v : Int) true (by rw [isR_nat]; exact hR) w)
  have HZ := Lib.hid (fun w => six0 v z hz hv1 w)
  have HY := Lib.hid (fun w => six6 v y hy hv1 w)
  have HU := Lib.hid (fun w => six12 v u hu hv1 w)
  have d1 : decide ((v : Int) < 128) = false := decide_eq_false (by omega)
  have d2 : decide ((v : Int) < 2048) = true := decide_eq_true (by omega)
  have kc := fun (W : World) (x0 x1 : Int) => cv_row W #[.int .u8 x0, .int .u8 x1] [x0, x1] 2 2 rfl rfl
  obtain ⟨q, hq⟩ : ∃ x, v / 64 = x := ⟨_, rfl⟩
  have hq' : (v : Int) / 64 = (q : Int) := by omega
  have hww := headw 192 q (by omega)
  have hw1 : IntKind.i32.wrap (192 + (q : Int)) = 192 + (q : Int) := hww.1
  have hw2 : IntKind.u8.wrap (192 + (q : Int)) = 192 + (q : Int) := hww.2
  clear hww
  have HE : Hid ([192 + v / 64, 128 + v % 64] = [192 + q, 128 + z] ∧ Byt [192 + q, 128 + z]) := Lib.hid ⟨by rw [hq, hz], by intro x hx; simp at hx; omega⟩
  clear hR hc hv1 hz hy hu hq
  go_enter Try.func16, Try.ntmps16
  go_wp2_with fail
  with_reducible refine (HR.out _).mono ?_
  rintro e w' ⟨rfl, rfl⟩
  go_wp2_with fail
  with_reducible refine (HZ.out _).mono ?_
  rintro e w' ⟨rfl, rfl⟩
  go_wp2_with fail
  go_ret
  rw [HE.out.1]
  exact ⟨_, rfl, bl_str (by simp) HE.out.2, (Below.refl _ _).alloc (Nat.le_refl _) _⟩
set_option maxRecDepth 100000 in
set_option maxHeartbeats 4000000 in
theorem rEncode_three (v : Nat) (hR : runeN v = true) (hc : 2048 ≤ v ∧ v < 65536) (w : World) : Calls Try.prog 16 #[.int .i32 (v : Int)] w (StrOut w [224 + v / 4096, 128 + v / 64 % 64, 128 + v % 64]) := by
  have hv1 := runeN_le hR
  obtain ⟨z, hz⟩ : ∃ x, v % 64 = x := ⟨_, rfl⟩
  obtain ⟨y, hy⟩ : ∃ x, v / 64 % 64 = x := ⟨_, rfl⟩
  obtain ⟨u, hu⟩ : ∃ x, v / 4096 % 64 = x := ⟨_, rfl⟩
  have HR := Lib.hid (fun w => rIsRune_any (v : Int) true (by rw [isR_nat]; exact hR) w)
  have HZ := Lib.hid (fun w => six0 v z hz hv1 w)
  have HY := Lib.hid (fun w => six6 v y hy hv1 w)
  have HU := Lib.hid (fun w => six12 v u hu hv1 w)
  have d1 : decide ((v : Int) < 128) = false := decide_eq_false (by omega)
  have d2 : decide ((v : Int) < 2048) = false := decide_eq_false (by omega)
  have d3 : decide ((v : Int) < 65536) = true := decide_eq_true (by omega)
  have kc := fun (W : World) (x0 x1 x2 : Int) => cv_row W #[.int .u8 x0, .int .u8 x1, .int .u8 x2] [x0, x1, x2] 3 3 rfl rfl
  obtain ⟨q, hq⟩ : ∃ x, v / 4096 = x := ⟨_, rfl⟩
  have hq' : (v : Int) / 4096 = (q : Int) := by omega
  have hww := headw 224 q (by omega)
  have hw1 : IntKind.i32.wrap (224 + (q : Int)) = 224 + (q : Int) := hww.1
  have hw2 : IntKind.u8.wrap (224 + (q : Int)) = 224 + (q : Int) := hww.2
  clear hww
  have HE : Hid ([224 + v / 4096, 128 + v / 64 % 64, 128 + v % 64] = [224 + q, 128 + y, 128 + z] ∧ Byt [224 + q, 128 + y, 128 + z]) := Lib.hid ⟨by rw [hq, hy, hz], by intro x hx; simp at hx; omega⟩
  clear hR hc hv1 hz hy hu hq
  go_enter Try.func16, Try.ntmps16
  go_wp2_with fail
  with_reducible refine (HR.out _).mono ?_
  rintro e w' ⟨rfl, rfl⟩
  go_wp2_with fail
  with_reducible refine (HZ.out _).mono ?_
  rintro e w' ⟨rfl, rfl⟩
  go_wp2_with fail
  with_reducible refine (HY.out _).mono ?_
  rintro e w' ⟨rfl, rfl⟩
  go_wp2_with fail
  go_ret
  rw [HE.out.1]
  exact ⟨_, rfl, bl_str (by simp) HE.out.2, (Below.refl _ _).alloc (Nat.le_refl _) _⟩
set_option maxRecDepth 100000 in
set_option maxHeartbeats 4000000 in
theorem rEncode_four (v : Nat) (hR : runeN v = true) (hc : 65536 ≤ v) (w : World) : Calls Try.prog 16 #[.int .i32 (v : Int)] w (StrOut w [240 + v / 262144, 128 + v / 4096 % 64, 128 + v / 64 % 64, 128 + v % 64]) := by
  have hv1 := runeN_le hR
  obtain ⟨z, hz⟩ : ∃ x, v % 64 = x := ⟨_, rfl⟩
  obtain ⟨y, hy⟩ : ∃ x, v / 64 % 64 = x := ⟨_, rfl⟩
  obtain ⟨u, hu⟩ : ∃ x, v / 4096 % 64 = x := ⟨_, rfl⟩
  have HR := Lib.hid (fun w => rIsRune_any (v : Int) true (by rw [isR_nat]; exact hR) w)
  have HZ := Lib.hid (fun w => six0 v z hz hv1 w)
  have HY := Lib.hid (fun w => six6 v y hy hv1 w)
  have HU := Lib.hid (fun w => six12 v u hu hv1 w)
  have d1 : decide ((v : Int) < 128) = false := decide_eq_false (by omega)
  have d2 : decide ((v : Int) < 2048) = false := decide_eq_false (by omega)
  have d3 : decide ((v : Int) < 65536) = false := decide_eq_false (by omega)
  have kc := fun (W : World) (x0 x1 x2 x3 : Int) => cv_row W #[.int .u8 x0, .int .u8 x1, .int .u8 x2, .int .u8 x3] [x0, x1, x2, x3] 4 4 rfl rfl
  obtain ⟨q, hq⟩ : ∃ x, v / 262144 = x := ⟨_, rfl⟩
  have hq' : (v : Int) / 262144 = (q : Int) := by omega
  have hww := headw 240 q (by omega)
  have hw1 : IntKind.i32.wrap (240 + (q : Int)) = 240 + (q : Int) := hww.1
  have hw2 : IntKind.u8.wrap (240 + (q : Int)) = 240 + (q : Int) := hww.2
  clear hww
  have HE : Hid ([240 + v / 262144, 128 + v / 4096 % 64, 128 + v / 64 % 64, 128 + v % 64] = [240 + q, 128 + u, 128 + y, 128 + z] ∧ Byt [240 + q, 128 + u, 128 + y, 128 + z]) := Lib.hid ⟨by rw [hq, hu, hy, hz], by intro x hx; simp at hx; omega⟩
  clear hR hc hv1 hz hy hu hq
  go_enter Try.func16, Try.ntmps16
  go_wp2_with fail
  with_reducible refine (HR.out _).mono ?_
  rintro e w' ⟨rfl, rfl⟩
  go_wp2_with fail
  with_reducible refine (HZ.out _).mono ?_
  rintro e w' ⟨rfl, rfl⟩
  go_wp2_with fail
  with_reducible refine (HU.out _).mono ?_
  rintro e w' ⟨rfl, rfl⟩
  go_wp2_with fail
  with_reducible refine (HY.out _).mono ?_
  rintro e w' ⟨rfl, rfl⟩
  go_wp2_with fail
  go_ret
  rw [HE.out.1]
  exact ⟨_, rfl, bl_str (by simp) HE.out.2, (Below.refl _ _).alloc (Nat.le_refl _) _⟩
set_option maxRecDepth 100000 in
set_option maxHeartbeats 4000000 in
theorem rEncode_bad (r : Int) (hr : isR r = false) (w : World) : Calls Try.prog 16 #[.int .i32 r] w (StrOut w [239, 191, 189]) := by
  have HR := Lib.hid (fun w => rIsRune_any r false hr w)
  have HZ := Lib.hid (fun w => six0 65533 61 (by decide) (by decide) w)
  have HY := Lib.hid (fun w => six6 65533 63 (by decide) (by decide) w)
  have kc := fun (W : World) (x0 x1 x2 : Int) => cv_row W #[.int .u8 x0, .int .u8 x1, .int .u8 x2] [x0, x1, x2] 3 3 rfl rfl
  go_enter Try.func16, Try.ntmps16
  go_wp2_with fail
  with_reducible refine (HR.out _).mono ?_
  rintro e w' ⟨rfl, rfl⟩
  go_wp2_with fail
  refine (HZ.out _).mono ?_
  rintro e w' ⟨rfl, rfl⟩
  go_wp2_with fail
  refine (HY.out _).mono ?_
  rintro e w' ⟨rfl, rfl⟩
  go_wp2_with fail
  go_ret
  exact ⟨_, rfl, bl_str (by rfl) (by intro x hx; simp at hx; omega), (Below.refl _ _).alloc (Nat.le_refl _) _⟩
theorem rEncode_any (r : Int) (w : World) : Calls Try.prog 16 #[.int .i32 r] w (StrOut w (enc r)) := by
  by_cases hR : isR r = true
  · have h := of_decide_eq_true hR
    obtain ⟨v, rfl⟩ := Int.eq_ofNat_of_zero_le h.1
    have hN : runeN v = true := by rw [← isR_nat]; exact hR
    rw [enc_rune0 hN]
    unfold encN
    by_cases h1 : v < 128
    · rw [if_pos h1]; exact rEncode_one v hN h1 w
    · rw [if_neg h1]
      by_cases h2 : v < 2048
      · rw [if_pos h2]; exact rEncode_two v hN ⟨by omega, h2⟩ w
      · rw [if_neg h2]
        by_cases h3 : v < 65536
        · rw [if_pos h3]; exact rEncode_three v hN ⟨by omega, h3⟩ w
        · rw [if_neg h3]; exact rEncode_four v hN (by omega) w
  · rw [enc, runeOf, if_neg hR]
    exact rEncode_bad r (by simpa using hR) w
end Go.Proofs.Ytbhhakobkpdadaa
