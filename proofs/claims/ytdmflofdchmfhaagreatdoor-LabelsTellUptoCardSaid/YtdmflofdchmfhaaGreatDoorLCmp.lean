/- Compare. -/
import Derived.Test.YtdmflofdchmfhaaGreatDoorLSame
import Derived.Test.YtdmflofdchmfhaaGreatDoorLSort
import Derived.Test.YtdmflofdchmfhaaGreatDoorLIdx
namespace Go.Proofs.YtdmflofdchmfhaaGreatDoor
open Go.RowKit Go.Shelf

/-- The order of two labels. -/
def cmp1 (x y : Lb) : Int := if x.1 = y.1 then (if x.2 = y.2 then 0 else if lt x.2 y.2 then -1 else 1) else if lt x.1 y.1 then -1 else 1
theorem cmpS (a b : ByteArray) : Lib.compareBytes a.data.toList b.data.toList = if a = b then 0 else if lt a b then -1 else 1 := by
  rw [cmp_lt]
  by_cases h : a = b
  · rw [if_neg (fun k => lt_ne k h), if_pos h, if_pos h]
  · rw [if_neg h]
    by_cases k : lt a b
    · rw [if_pos k, if_neg h]
    · rw [if_neg k, if_neg h]
set_option maxHeartbeats 1000000 in
theorem cmp1_any (x y : Lb) (w : World) : Calls Tryz.prog 40 #[.agg #[.string x.1, .string x.2], .agg #[.string y.1, .string y.2]] w fun e w' => e = .returned (.int .i64 (cmp1 x y)) ∧ Below w.heap.size w w' := by
  have HC1 := Lib.hid (fun v : World => Tryz.strings_Compare x.1 y.1 v)
  have HC2 := Lib.hid (fun v : World => Tryz.strings_Compare x.2 y.2 v)
  have hb1 := (Below.refl w.heap.size w).alloc (Nat.le_refl _) (.cells #[.string x.1, .string x.2] 29)
  have HB := Lib.hid (hb1.alloc hb1.size (.cells #[.string y.1, .string y.2] 29))
  obtain ⟨x1, x2⟩ := x
  obtain ⟨y1, y2⟩ := y
  dsimp only at HC1 HC2 HB ⊢
  rw [cmpS] at HC1 HC2
  clear hb1
  by_cases h1 : x1 = y1
  · have HE : Hid (cmp1 (x1, x2) (y1, y2) = if x2 = y2 then 0 else if lt x2 y2 then -1 else 1) := Lib.hid (by unfold cmp1; rw [if_pos h1])
    rw [if_pos h1] at HC1
    obtain ⟨r, hr⟩ : ∃ r : Int, (if x2 = y2 then 0 else if lt x2 y2 then -1 else 1) = r := ⟨_, rfl⟩
    rw [hr] at HC2 HE
    have z0 : ((0 : Int) == 0) = true := rfl
    clear h1 hr
    go_enter Tryz.func40, Tryz.ntmps40
    go_wp2_with fail
    with_reducible refine (HC1.out _).mono ?_
    rintro e v ⟨rfl, rfl⟩
    go_wp2_with fail
    with_reducible refine (HC2.out _).mono ?_
    rintro e v ⟨rfl, rfl⟩
    go_wp2_with fail
    go_ret
    rw [HE.out]
    exact ⟨rfl, HB.out⟩
  · have HE : Hid (cmp1 (x1, x2) (y1, y2) = if lt x1 y1 then -1 else 1) := Lib.hid (by unfold cmp1; rw [if_neg h1])
    rw [if_neg h1] at HC1
    obtain ⟨r, hr, hr0⟩ : ∃ r : Int, (if lt x1 y1 then -1 else 1) = r ∧ (r == 0) = false := by
      by_cases k : lt x1 y1
      · exact ⟨-1, by rw [if_pos k], rfl⟩
      · exact ⟨1, by rw [if_neg k], rfl⟩
    rw [hr] at HC1 HE
    clear h1 hr
    go_enter Tryz.func40, Tryz.ntmps40
    go_wp2_with fail
    with_reducible refine (HC1.out _).mono ?_
    rintro e v ⟨rfl, rfl⟩
    go_wp2_with fail
    go_ret
    rw [HE.out]
    exact ⟨rfl, HB.out⟩
end Go.Proofs.YtdmflofdchmfhaaGreatDoor
