/- Encoding a rune: longer ones. -/
import Derived.Test.YtbhhakobkpdadaaQEnc
import Derived.Deep.CutRange
namespace Go.Proofs.Ytbhhakobkpdadaa
open Go.RowKit
set_option maxRecDepth 100000 in
set_option maxHeartbeats 4000000 in
theorem Encode_three (v : Nat) (h1 : 2048 ≤ v) (h2 : v < 65536) (h3 : v < 55296 ∨ 57343 < v) (w : World) : Calls Try.prog 15 #[.int .i32 (v : Int)] w (StrOut w [224 + v / 4096, 128 + v / 64 % 64, 128 + v % 64]) := by
  have hR : runeN v = true := decide_eq_true (by omega)
  clear h3
  have hv1 : v ≤ 1114111 := by omega
  have d1 : decide ((v : Int) < 128) = false := decide_eq_false (by omega)
  have d2 : decide ((v : Int) < 2048) = false := decide_eq_false (by omega)
  have d3 : decide ((v : Int) < 65536) = true := decide_eq_true (by omega)
  have H1 := Lib.hid h1
  have H2 := Lib.hid h2
  have hv1 := Lib.hid hv1
  clear h1 h2
  go_enter Try.func15, Try.ntmps15
  go_wp2_with fail
  with_reducible refine (is_yes v hR _).mono ?_
  rintro e w' ⟨rfl, rfl⟩
  obtain ⟨b, hb⟩ : ∃ b, w.heap.size = b := ⟨_, rfl⟩
  obtain ⟨W, hW⟩ : ∃ W, w.alloc (.cells #[.int .i32 (v : Int)] 21) = W := ⟨_, rfl⟩
  rw [hb, hW]
  have hc : W.cell? ⟨b, 0, none⟩ = some (.int .i32 (v : Int)) := by rw [← hW, ← hb]; exact (Blk.cell (Blk.made w 21 [.int .i32 (v : Int)]) 0)
  have HB : Hid (Below w.heap.size w W) := Lib.hid (by rw [← hW]; exact (Below.refl _ _).alloc (Nat.le_refl _) _)
  have hbW : b < W.heap.size := by rw [← hW, ← hb]; simp
  have hS0 : Hid (W.drew.cell? ⟨b, 0, none⟩ = some (.int .i32 (v : Int)) ∧ Below w.heap.size w W.drew) := Lib.hid ⟨hc, HB.out.drew⟩
  have hSA : Hid (∀ o, (W.drew.alloc o).cell? ⟨b, 0, none⟩ = some (.int .i32 (v : Int)) ∧ Below w.heap.size w (W.drew.alloc o)) := Lib.hid (fun o => ⟨(World.cell?_alloc_lt W.drew o _ hbW).trans hc, (HB.out.drew).alloc HB.out.size _⟩)
  have kc := fun (W : World) (x0 x1 x2 : Int) => cv_row W #[.int .u8 x0, .int .u8 x1, .int .u8 x2] [x0, x1, x2] 3 3 rfl rfl
  have kd := fun (W : World) (x0 x1 x2 : Int) => cv_drew W #[.int .u8 x0, .int .u8 x1, .int .u8 x2] [x0, x1, x2] 3 3 rfl rfl
  clear hbW hb hW
  go_wp2_with fail
  go_region_with (first
      | (go_at_call 29
         with_reducible refine (tail6 b v _ hv1.out hS0.out.1).mono ?_
         rintro e w' ⟨rfl, rfl⟩)
      | (go_at_call 29
         with_reducible refine (tail0 b v _ hv1.out hS0.out.1).mono ?_
         rintro e w' ⟨rfl, rfl⟩))
  all_goals
    go_wp2
    go_ret
    have h1 := H1.out
    have h2 := H2.out
    refine ⟨_, rfl, bl_str ?_ (by intro x hx; simp at hx; omega), (hSA.out _).2⟩
    have hq : IntKind.u8.wrap ((v : Int) / 4096) = ((v / 4096 : Nat) : Int) := by
      rw [show (v : Int) / 4096 = ((v / 4096 : Nat) : Int) by omega, u8_wrap _ (by omega)]
    rw [hq, or224 _ (by omega)]
    simp

set_option maxRecDepth 100000 in
set_option maxHeartbeats 4000000 in
theorem Encode_four (v : Nat) (h1 : 65536 ≤ v) (h2 : v ≤ 1114111) (w : World) : Calls Try.prog 15 #[.int .i32 (v : Int)] w (StrOut w [240 + v / 262144, 128 + v / 4096 % 64, 128 + v / 64 % 64, 128 + v % 64]) := by
  have hR : runeN v = true := decide_eq_true (by omega)
  have hv1 : v ≤ 1114111 := by omega
  have d1 : decide ((v : Int) < 128) = false := decide_eq_false (by omega)
  have d2 : decide ((v : Int) < 2048) = false := decide_eq_false (by omega)
  have d3 : decide ((v : Int) < 65536) = false := decide_eq_false (by omega)
  have H1 := Lib.hid h1
  have H2 := Lib.hid h2
  have hv1 := Lib.hid hv1
  clear h1 h2
  go_enter Try.func15, Try.ntmps15
  go_wp2_with fail
  with_reducible refine (is_yes v hR _).mono ?_
  rintro e w' ⟨rfl, rfl⟩
  obtain ⟨b, hb⟩ : ∃ b, w.heap.size = b := ⟨_, rfl⟩
  obtain ⟨W, hW⟩ : ∃ W, w.alloc (.cells #[.int .i32 (v : Int)] 21) = W := ⟨_, rfl⟩
  rw [hb, hW]
  have hc : W.cell? ⟨b, 0, none⟩ = some (.int .i32 (v : Int)) := by rw [← hW, ← hb]; exact (Blk.cell (Blk.made w 21 [.int .i32 (v : Int)]) 0)
  have HB : Hid (Below w.heap.size w W) := Lib.hid (by rw [← hW]; exact (Below.refl _ _).alloc (Nat.le_refl _) _)
  have hbW : b < W.heap.size := by rw [← hW, ← hb]; simp
  have hS0 : Hid (W.drew.cell? ⟨b, 0, none⟩ = some (.int .i32 (v : Int)) ∧ Below w.heap.size w W.drew) := Lib.hid ⟨hc, HB.out.drew⟩
  have hSA : Hid (∀ o, (W.drew.alloc o).cell? ⟨b, 0, none⟩ = some (.int .i32 (v : Int)) ∧ Below w.heap.size w (W.drew.alloc o)) := Lib.hid (fun o => ⟨(World.cell?_alloc_lt W.drew o _ hbW).trans hc, (HB.out.drew).alloc HB.out.size _⟩)
  have kc := fun (W : World) (x0 x1 x2 x3 : Int) => cv_row W #[.int .u8 x0, .int .u8 x1, .int .u8 x2, .int .u8 x3] [x0, x1, x2, x3] 4 4 rfl rfl
  have kd := fun (W : World) (x0 x1 x2 x3 : Int) => cv_drew W #[.int .u8 x0, .int .u8 x1, .int .u8 x2, .int .u8 x3] [x0, x1, x2, x3] 4 4 rfl rfl
  clear hbW hb hW
  go_wp2_with fail
  go_region_with (first
      | (go_at_call 29
         with_reducible refine (tail12 b v _ hv1.out hS0.out.1).mono ?_
         rintro e w' ⟨rfl, rfl⟩)
      | (go_at_call 29
         with_reducible refine (tail6 b v _ hv1.out hS0.out.1).mono ?_
         rintro e w' ⟨rfl, rfl⟩)
      | (go_at_call 29
         with_reducible refine (tail0 b v _ hv1.out hS0.out.1).mono ?_
         rintro e w' ⟨rfl, rfl⟩))
  all_goals
    go_wp2
    go_ret
    have h1 := H1.out
    have h2 := H2.out
    refine ⟨_, rfl, bl_str ?_ (by intro x hx; simp at hx; omega), (hSA.out _).2⟩
    have hq : IntKind.u8.wrap ((v : Int) / 262144) = ((v / 262144 : Nat) : Int) := by
      rw [show (v : Int) / 262144 = ((v / 262144 : Nat) : Int) by omega, u8_wrap _ (by omega)]
    rw [hq, or240 _ (by omega)]
    simp

set_option maxRecDepth 100000 in
set_option maxHeartbeats 4000000 in
theorem Encode_bad (r : Int) (hr : isR r = false) (w : World) : Calls Try.prog 15 #[.int .i32 r] w (StrOut w [239, 191, 189]) := by
  go_enter Try.func15, Try.ntmps15
  go_wp2_with fail
  with_reducible refine (is_no r hr _).mono ?_
  rintro e w' ⟨rfl, rfl⟩
  obtain ⟨b, hb⟩ : ∃ b, w.heap.size = b := ⟨_, rfl⟩
  obtain ⟨W, hW⟩ : ∃ W, w.alloc (.cells #[.int .i32 r] 21) = W := ⟨_, rfl⟩
  rw [hb, hW]
  have hc : W.cell? ⟨b, 0, none⟩ = some (.int .i32 r) := by rw [← hW, ← hb]; exact (Blk.cell (Blk.made w 21 [.int .i32 r]) 0)
  have HB : Hid (Below w.heap.size w W) := Lib.hid (by rw [← hW]; exact (Below.refl _ _).alloc (Nat.le_refl _) _)
  have hbW : b < W.heap.size := by rw [← hW, ← hb]; simp
  have hfz : W.frozen? ⟨b, 0, none⟩ = false := by rw [← hW, ← hb]; exact (Blk.frozen (Blk.made w 21 [.int .i32 r]) 0)
  have hbw : w.heap.size ≤ b := Nat.le_of_eq hb
  clear hb hW
  go_upto_region 3 with fail
  obtain ⟨V, hV⟩ : ∃ V, W.setCell ⟨b, 0, none⟩ (.int .i32 65533) = V := ⟨_, rfl⟩
  have hc2 : V.cell? ⟨b, 0, none⟩ = some (.int .i32 ((65533 : Nat) : Int)) := by rw [← hV]; exact World.cell?_setCell_same' _ _ _ (by rw [hc]; rfl)
  have HB2 : Hid (Below w.heap.size w V) := Lib.hid (by rw [← hV]; exact HB.out.setCell (p := ⟨b, 0, none⟩) hbw _)
  have hbV : b < V.heap.size := by rw [← hV]; simpa [World.setCell] using hbW
  rw [hV]
  clear hV hc hfz HB hbW
  have hS0 : Hid (V.drew.cell? ⟨b, 0, none⟩ = some (.int .i32 ((65533 : Nat) : Int)) ∧ Below w.heap.size w V.drew) := Lib.hid ⟨hc2, HB2.out.drew⟩
  have hSA : Hid (∀ o, (V.drew.alloc o).cell? ⟨b, 0, none⟩ = some (.int .i32 ((65533 : Nat) : Int)) ∧ Below w.heap.size w (V.drew.alloc o)) := Lib.hid (fun o => ⟨(World.cell?_alloc_lt V.drew o _ hbV).trans hc2, (HB2.out.drew).alloc HB2.out.size _⟩)
  have kc := fun (W : World) (x0 x1 x2 : Int) => cv_row W #[.int .u8 x0, .int .u8 x1, .int .u8 x2] [x0, x1, x2] 3 3 rfl rfl
  have kd := fun (W : World) (x0 x1 x2 : Int) => cv_drew W #[.int .u8 x0, .int .u8 x1, .int .u8 x2] [x0, x1, x2] 3 3 rfl rfl
  clear hbV
  go_wp2_with fail
  go_region_with (first
      | (go_at_call 29
         with_reducible refine (tail6 b 65533 _ (by omega) hS0.out.1).mono ?_
         rintro e w' ⟨rfl, rfl⟩)
      | (go_at_call 29
         with_reducible refine (tail0 b 65533 _ (by omega) hS0.out.1).mono ?_
         rintro e w' ⟨rfl, rfl⟩))
  all_goals
    go_wp2
    go_ret
    exact ⟨_, rfl, bl_str (by first | rfl | decide) (by intro x hx; simp at hx; omega), (hSA.out _).2⟩

theorem Encode_any (r : Int) (w : World) : Calls Try.prog 15 #[.int .i32 r] w (StrOut w (enc r)) := by
  by_cases hR : isR r = true
  · have h := of_decide_eq_true hR
    obtain ⟨v, rfl⟩ := Int.eq_ofNat_of_zero_le h.1
    rw [enc, runeOf, if_pos hR, Int.toNat_natCast]
    unfold encN
    by_cases h1 : v < 128
    · rw [if_pos h1]; exact Encode_one v h1 w
    · rw [if_neg h1]
      by_cases h2 : v < 2048
      · rw [if_pos h2]; exact Encode_two v (by omega) h2 w
      · rw [if_neg h2]
        by_cases h3 : v < 65536
        · rw [if_pos h3]; exact Encode_three v (by omega) h3 (by omega) w
        · rw [if_neg h3]; exact Encode_four v (by omega) (by omega) w
  · rw [enc, runeOf, if_neg hR]
    exact Encode_bad r (by simpa using hR) w
end Go.Proofs.Ytbhhakobkpdadaa
