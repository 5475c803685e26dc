/- QuoteQuotes, walked. -/
import Derived.Test.YtbhhakobkpdadaaQRUnq
namespace Go.Proofs.Ytbhhakobkpdadaa
open Go.RowKit Go.Shelf

set_option maxRecDepth 100000 in
set_option maxHeartbeats 8000000 in
theorem QuoteQuotes_in (s : ByteArray) (hs9 : s.size ≤ 140737488351232) (w : World) : Calls Try.prog 4 #[.string s] w (YesOut w true) := by
  obtain ⟨p0, hp0⟩ : ∃ p, min s.size 2000 = p := ⟨_, rfl⟩
  have i0 : min (s.size : Int) 2000 = (p0 : Int) := by omega
  have j0 : (p0 : Int) ≤ (s.size : Int) := by omega
  have k0 : (0 : Int) ≤ (p0 : Int) := by omega
  obtain ⟨s1, hs1⟩ : ∃ x, s.extract 0 p0 = x := ⟨_, rfl⟩
  have hss : s1.size ≤ 2000 := by
    rw [← hs1, ← bl_len, bl_extract]
    simp only [List.drop_zero, List.length_take]; omega
  obtain ⟨en, hen⟩ : ∃ x : Int, (if (unqL (bl s1)).isSome then (0 : Int) else 40) = x := ⟨_, rfl⟩
  have HU : Hid (∀ w, Calls Try.prog 18 #[.string s1] w fun e w' => ∃ T, e = .returned (.tuple #[.string T, .int .i64 en]) ∧ bl T = (unqL (bl s1)).getD [] ∧ Below w.heap.size w w') := Lib.hid (fun w => by
    rw [← hen]; exact Unquote_any s1 (by omega) w)
  have HU' : Hid (∀ w, Calls Try.prog 19 #[.string s1] w fun e w' => ∃ T, e = .returned (.tuple #[.string T, .int .i64 en]) ∧ bl T = (unqL (bl s1)).getD [] ∧ Below w.heap.size w w') := Lib.hid (fun w => by
    rw [← hen]; exact rUnquote_any s1 (by omega) w)
  have HQ := Lib.hid (fun w => Quote_any s1 (by omega) w)
  have HQ' := Lib.hid (fun w => rQuote_any s1 (by omega) w)
  have HW := Lib.hid (fun w => works_true w)
  clear hp0 hen
  go_enter Try.func4, Try.ntmps4
  go_wp2_with fail
  with_reducible refine (HU.out _).mono ?_
  rintro e w1 ⟨T, rfl, hT, b1⟩
  have HB1 := Lib.hid b1
  clear HU b1
  go_wp2_with fail
  with_reducible refine (HU'.out _).mono ?_
  rintro e w2 ⟨T', rfl, hT', b2⟩
  have HB2 := Lib.hid (next HB1.out b2)
  have hq : (T.toList == T'.toList) = true := by rw [toList_bl, hT, hT']; exact decide_eq_true rfl
  clear HU' b2 HB1 hT hT'
  go_wp2_with fail
  with_reducible refine (HQ.out _).mono ?_
  rintro e w3 ⟨S, rfl, hS, b3⟩
  have HB3 := Lib.hid (next HB2.out b3)
  clear HQ b3 HB2
  go_wp2_with fail
  with_reducible refine (HQ'.out _).mono ?_
  rintro e w4 ⟨S', rfl, hS', b4⟩
  have HB4 := Lib.hid (next HB3.out b4)
  have hq2 : (S.toList == S'.toList) = true := by rw [toList_bl, hS, hS']; exact decide_eq_true rfl
  clear HQ' b4 HB3 hS hS'
  go_wp2_with fail
  with_reducible refine (HW.out _).mono ?_
  rintro e w5 ⟨rfl, b5⟩
  have hb5 := next HB4.out b5
  clear HW b5 HB4
  go_wp2_with fail
  go_ret
  exact ⟨rfl, hb5⟩
theorem QuoteQuotes_walk (s : ByteArray) (w : World) (hs9 : s.size ≤ 140737488351232) : Calls Try.prog 4 #[.string s] w fun e w' => e = .returned (.bool true) ∧ Below w.heap.size w w' := QuoteQuotes_in s hs9 w
end Go.Proofs.Ytbhhakobkpdadaa
