/- QuoteRunes, walked. -/
import Derived.Test.YtbhhakobkpdadaaQRRunes
namespace Go.Proofs.Ytbhhakobkpdadaa
open Go.RowKit Go.Shelf

theorem own_sl {w : World} {base : Nat} {e : TypeId} {n : Nat} {v : Value} {xs : List Value} (h : w.ownsRow base e 1 v n xs) : ∃ A c, v = .slice A n c := by
  rcases h.2 with ⟨rfl, rfl⟩ | ⟨g, cap, _, rfl, _⟩
  · exact ⟨none, 0, rfl⟩
  · exact ⟨_, cap, rfl⟩
set_option maxRecDepth 100000 in
set_option maxHeartbeats 8000000 in
theorem QuoteRunes_in (s : ByteArray) (n : Int) (hs9 : s.size ≤ 140737488351232) (w : World) : Calls Try.prog 3 #[.string s, .int .i32 n] w (YesOut w true) := by
  obtain ⟨p0, hp0⟩ : ∃ p, min s.size 2000 = p := ⟨_, rfl⟩
  have i0 : min (s.size : Int) 2000 = (p0 : Int) := by omega
  have j0 : (p0 : Int) ≤ (s.size : Int) := by omega
  have k0 : (0 : Int) ≤ (p0 : Int) := by omega
  obtain ⟨s1, hs1⟩ : ∃ x, s.extract 0 p0 = x := ⟨_, rfl⟩
  have hss : s1.size ≤ 2000 := by
    rw [← hs1, ← bl_len, bl_extract]
    simp only [List.drop_zero, List.length_take]; omega
  have HD := Lib.hid (fun w => Decode_any s1 (by omega) w)
  have HD' := Lib.hid (fun w => rDecode_any s1 (by omega) w)
  have HR := Lib.hid (fun w => Runes_any s1 (by omega) w)
  have HR' := Lib.hid (fun w => rRunes_any s1 (by omega) w)
  have HE := Lib.hid (fun w => Encode_any n w)
  have HE' := Lib.hid (fun w => rEncode_any n w)
  have HW := Lib.hid (fun w => works_true w)
  have hml := parts_len (bl s1)
  rw [bl_len] at hml
  obtain ⟨m, hm⟩ : ∃ m, (parts (bl s1)).length = m := ⟨_, rfl⟩
  rw [hm] at HR HR' hml
  obtain ⟨⟨d1, d2⟩, hd⟩ : ∃ d, dec (bl s1) = d := ⟨_, rfl⟩
  rw [hd] at HD HD'
  clear hp0 hm hd
  go_enter Try.func3, Try.ntmps3
  go_wp2_with fail
  with_reducible refine (HD.out _).mono ?_
  rintro e w1 ⟨rfl, b1⟩
  have HB1 := Lib.hid b1
  clear HD b1
  go_wp2_with fail
  with_reducible refine (HD'.out _).mono ?_
  rintro e w2 ⟨rfl, b2⟩
  have HB2 := Lib.hid (next HB1.out b2)
  clear HD' b2 HB1
  go_wp2_with fail
  with_reducible refine (HR.out _).mono ?_
  rintro e w3 ⟨v, rfl, own3, b3⟩
  have HB3 := Lib.hid (next HB2.out b3)
  obtain ⟨A, c, rfl⟩ := own_sl own3
  have HR3 := Lib.hid (Row.own own3)
  clear HR b3 HB2 own3
  go_wp2_with fail
  with_reducible refine (HR'.out _).mono ?_
  rintro e w4 ⟨v, rfl, own4, b4⟩
  have HB4 := Lib.hid (next HB3.out b4)
  obtain ⟨A', c', rfl⟩ := own_sl own4
  have HS := Lib.hid (fun h1 h2 => rSame_yes A A' m c c' (parts (bl s1)) w4 (by omega) h1 h2)
  have HR4 := Lib.hid (And.intro (HR3.out.on b4) (Row.own own4))
  clear HR' b4 HB3 own4 HR3
  go_wp2_with fail
  with_reducible refine (HS.out HR4.out.1 HR4.out.2).mono ?_
  rintro e w5 ⟨rfl, b5⟩
  have HB5 := Lib.hid (next HB4.out b5)
  clear HS b5 HB4 HR4
  go_wp2_with fail
  with_reducible refine (HE.out _).mono ?_
  rintro e w6 ⟨S, rfl, hS, b6⟩
  have HB6 := Lib.hid (next HB5.out b6)
  clear HE b6 HB5
  go_wp2_with fail
  with_reducible refine (HE'.out _).mono ?_
  rintro e w7 ⟨S', rfl, hS', b7⟩
  have HB7 := Lib.hid (next HB6.out b7)
  have hq : (S.toList == S'.toList) = true := by rw [toList_bl, hS, hS']; exact decide_eq_true rfl
  clear HE' b7 HB6 hS hS'
  go_wp2_with fail
  with_reducible refine (HW.out _).mono ?_
  rintro e w8 ⟨rfl, b8⟩
  have hb8 := next HB7.out b8
  clear HW b8 HB7
  go_wp2_with fail
  go_ret
  exact ⟨rfl, hb8⟩
theorem QuoteRunes_walk (s : ByteArray) (n : Int) (w : World) (hs9 : s.size ≤ 140737488351232) (_ : (Lit.int .i32 n).wf = true) : Calls Try.prog 3 #[.string s, .int .i32 n] w fun e w' => e = .returned (.bool true) ∧ Below w.heap.size w w' := QuoteRunes_in s n hs9 w
end Go.Proofs.Ytbhhakobkpdadaa
