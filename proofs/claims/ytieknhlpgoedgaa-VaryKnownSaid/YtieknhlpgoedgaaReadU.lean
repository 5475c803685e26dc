/- (*Reader).U: one number off the bytes. -/
import Derived.Test.YtieknhlpgoedgaaIndex
namespace Go.Proofs.Ytieknhlpgoedgaa
open Go.RowKit

/-- A reader's answer of a number: what it says, and the reader behind it. -/
def RdPost (g B : Nat) (w : World) (v : Int) (l : List Int) (x : Int) (e : Ending) (w' : World) : Prop :=
  e = .returned (.int .i64 v) ∧ Rd w' g B l x ∧ Only g w w'

theorem Rd.failed {g B : Nat} {w : World} {x : Int} (hB : B ≤ w.heap.size) (h : Blk w g 51 [.bool true, .slice none 0 0, .int .i64 x]) : Rd w g B [] x :=
  ⟨none, 0, h, Row.zero _ _ _, by simp, by simp, by simp, hB, by simp⟩

theorem RU_err (g B : Nat) (l : List Int) (x : Int) (w : World) (h : Rd w g B l x) (hx : x ≠ 0) :
    Calls Try.prog 25 #[.pointer (some ⟨g, 0, none⟩)] w fun e w' => e = .returned (.int .i64 0) ∧ w = w' := by
  obtain ⟨A, c, hblk, _⟩ := h
  have hd : (x != 0) = true := by simp [hx]
  go_enter Try.func25, Try.ntmps25
  go_wp2_with fail
  refine (Err_made g _ _ _ hblk).mono ?_
  rintro e w' ⟨rfl, rfl⟩
  go_wp2
  go_ret
  exact ⟨rfl, rfl⟩

theorem RU_none (g B : Nat) (l : List Int) (w : World) (h : Rd w g B l 0) (hn : endAt l = none) :
    Calls Try.prog 25 #[.pointer (some ⟨g, 0, none⟩)] w (RdPost g B w 0 [] (if 8 ≤ l.length then 4 else 3)) := by
  obtain ⟨A, c, hblk, hrow, hne, hl, hlc, hB, _⟩ := h
  have c1 : w.cell? ⟨g, 1, none⟩ = some (.slice A l.length c) := hblk.cell 1
  have hI := Index_any A c B l w hrow hl
  rw [show endInt l = -1 by simp [endInt, hn]] at hI
  have HI := Lib.hid hI
  have HB := Lib.hid hblk
  clear hI hblk hn
  by_cases h8 : 8 ≤ l.length
  · rw [if_pos h8]
    have hd : decide ((8 : Int) ≤ (l.length : Int)) = true := by simp; omega
    go_enter Try.func25, Try.ntmps25
    go_wp2_with fail
    refine (Err_made g _ _ _ HB.out).mono ?_
    rintro e w' ⟨rfl, rfl⟩
    go_wp2_with fail
    refine HI.out.mono ?_
    rintro e w' ⟨rfl, rfl⟩
    go_wp2_with fail
    refine (fail_made g _ _ _ _ _ HB.out).mono ?_
    rintro e w1 ⟨rfl, ho, hb1⟩
    go_wp2
    go_ret
    exact ⟨rfl, Rd.failed (Nat.le_trans hB ho.size) hb1, ho⟩
  · rw [if_neg h8]
    have hd : decide ((8 : Int) ≤ (l.length : Int)) = false := by simp; omega
    go_enter Try.func25, Try.ntmps25
    go_wp2_with fail
    refine (Err_made g _ _ _ HB.out).mono ?_
    rintro e w' ⟨rfl, rfl⟩
    go_wp2_with fail
    refine HI.out.mono ?_
    rintro e w' ⟨rfl, rfl⟩
    go_wp2_with fail
    refine (fail_made g _ _ _ _ _ HB.out).mono ?_
    rintro e w1 ⟨rfl, ho, hb1⟩
    go_wp2
    go_ret
    exact ⟨rfl, Rd.failed (Nat.le_trans hB ho.size) hb1, ho⟩

theorem RU_long (g B i : Nat) (l : List Int) (w : World) (h : Rd w g B l 0) (hn : endAt l = some i) (h8 : 8 ≤ i) (hi : i < l.length) :
    Calls Try.prog 25 #[.pointer (some ⟨g, 0, none⟩)] w (RdPost g B w 0 [] 4) := by
  obtain ⟨A, c, hblk, hrow, hne, hl, hlc, hB, _⟩ := h
  have c1 : w.cell? ⟨g, 1, none⟩ = some (.slice A l.length c) := hblk.cell 1
  have hI := Index_any A c B l w hrow hl
  rw [show endInt l = i by simp [endInt, hn]] at hI
  have HI := Lib.hid hI
  have HB := Lib.hid hblk
  clear hI hblk hn
  go_enter Try.func25, Try.ntmps25
  go_wp2_with fail
  refine (Err_made g _ _ _ HB.out).mono ?_
  rintro e w' ⟨rfl, rfl⟩
  go_wp2_with fail
  refine HI.out.mono ?_
  rintro e w' ⟨rfl, rfl⟩
  go_wp2_with fail
  refine (fail_made g _ _ _ _ _ HB.out).mono ?_
  rintro e w1 ⟨rfl, ho, hb1⟩
  go_wp2
  go_ret
  exact ⟨rfl, Rd.failed (Nat.le_trans hB ho.size) hb1, ho⟩

/-- The last byte is 0, and not the only one. -/
theorem RU_zero (g B i : Nat) (l : List Int) (w : World) (h : Rd w g B l 0) (hn : endAt l = some i) (h8 : i < 8) (h0 : 0 < i) (hz : l[i]? = some 0) (hi : i < l.length) :
    Calls Try.prog 25 #[.pointer (some ⟨g, 0, none⟩)] w (RdPost g B w 0 [] 4) := by
  obtain ⟨A, c, hblk, hrow, hne, hl, hlc, hB, _⟩ := h
  have c1 : w.cell? ⟨g, 1, none⟩ = some (.slice A l.length c) := hblk.cell 1
  have hI := Index_any A c B l w hrow hl
  rw [show endInt l = i by simp [endInt, hn]] at hI
  obtain ⟨b, off, rfl, _, hc⟩ := hrow.2 (by omega)
  have ci : w.cell? ⟨b, off + i, none⟩ = some (.int .u8 0) := (hc i hi).trans (by simp [ints, hz])
  have HI := Lib.hid hI
  have HB := Lib.hid hblk
  clear hI hblk hn hc hz
  go_enter Try.func25, Try.ntmps25
  go_wp2_with fail
  refine (Err_made g _ _ _ HB.out).mono ?_
  rintro e w' ⟨rfl, rfl⟩
  go_wp2_with fail
  refine HI.out.mono ?_
  rintro e w' ⟨rfl, rfl⟩
  go_wp2_with fail
  refine (fail_made g _ _ _ _ _ HB.out).mono ?_
  rintro e w1 ⟨rfl, ho, hb1⟩
  go_wp2
  go_ret
  exact ⟨rfl, Rd.failed (Nat.le_trans hB ho.size) hb1, ho⟩

end Go.Proofs.Ytieknhlpgoedgaa
