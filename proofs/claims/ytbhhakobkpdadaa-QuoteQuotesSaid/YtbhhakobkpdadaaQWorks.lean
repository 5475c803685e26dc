/- The chapter's examples. -/
import Derived.Test.YtbhhakobkpdadaaQUnq2
namespace Go.Proofs.Ytbhhakobkpdadaa
open Go.RowKit Go.Shelf

def YesOut (w : World) (v : Bool) (e : Ending) (w' : World) : Prop := e = .returned (.bool v) ∧ Below w.heap.size w w'
set_option maxRecDepth 100000 in
theorem first_yes (s : ByteArray) (r n : Nat) (hs : s.size ≤ 1000000) (h : dec (bl s) = (r, n)) (w : World) :
    Calls Try.prog 25 #[.string s, .int .i32 (r : Int), .int .i64 (n : Int)] w (YesOut w true) := by
  have HD := Lib.hid (Decode_any s (by omega) w)
  rw [h] at HD
  have e1 : ((r : Int) == (r : Int)) = true := by simp
  have e2 : ((n : Int) == (n : Int)) = true := by simp
  clear h hs
  go_enter Try.func25, Try.ntmps25
  go_wp2_with fail
  with_reducible refine HD.out.mono ?_
  rintro e w2 ⟨rfl, b2⟩
  go_wp2_with fail
  go_ret
  exact ⟨rfl, b2⟩
set_option maxRecDepth 100000 in
theorem is_any (s t : ByteArray) (hs : s.size ≤ 100000) (w : World) :
    Calls Try.prog 22 #[.string s, .string t] w (YesOut w (decide (unqL (bl s) = some (bl t)))) := by
  have HD := Lib.hid (Unquote_any s hs w)
  obtain ⟨o, ho⟩ : ∃ o, unqL (bl s) = o := ⟨_, rfl⟩
  rw [ho] at HD ⊢
  clear hs ho
  cases o with
  | none =>
    go_enter Try.func22, Try.ntmps22
    go_wp2_with fail
    with_reducible refine HD.out.mono ?_
    rintro e w2 ⟨T, rfl, hT, b2⟩
    go_wp2_with fail
    go_ret
    exact ⟨rfl, b2⟩
  | some l =>
    have HQ : Hid (∀ T, bl T = l → (T.toList == t.toList) = decide (some l = some (bl t))) := Lib.hid (fun T h => by rw [toList_bl, h]; simp)
    go_enter Try.func22, Try.ntmps22
    go_wp2_with fail
    with_reducible refine HD.out.mono ?_
    rintro e w2 ⟨T, rfl, hT, b2⟩
    have hq := HQ.out T hT
    obtain ⟨v, hv⟩ : ∃ v, decide (some l = some (bl t)) = v := ⟨_, rfl⟩
    rw [hv] at hq
    have HV := Lib.hid hv
    clear hv hT HQ
    go_wp2_with fail
    go_ret
    rw [HV.out]
    exact ⟨rfl, b2⟩
set_option maxRecDepth 100000 in
theorem fails_any (s : ByteArray) (hs : s.size ≤ 100000) (w : World) :
    Calls Try.prog 24 #[.string s] w (YesOut w (decide (unqL (bl s) = none))) := by
  have HD := Lib.hid (Unquote_any s hs w)
  obtain ⟨o, ho⟩ : ∃ o, unqL (bl s) = o := ⟨_, rfl⟩
  rw [ho] at HD ⊢
  clear hs ho
  cases o with
  | none =>
    go_enter Try.func24, Try.ntmps24
    go_wp2_with fail
    with_reducible refine HD.out.mono ?_
    rintro e w2 ⟨T, rfl, hT, b2⟩
    obtain rfl : T = ⟨#[]⟩ := bl_inj hT
    go_wp2_with fail
    go_ret
    exact ⟨rfl, b2⟩
  | some l =>
    go_enter Try.func24, Try.ntmps24
    go_wp2_with fail
    with_reducible refine HD.out.mono ?_
    rintro e w2 ⟨T, rfl, hT, b2⟩
    go_wp2_with fail
    go_ret
    exact ⟨rfl, b2⟩
theorem is_yes' (s t : ByteArray) (hs : s.size ≤ 100000) (h : unqL (bl s) = some (bl t)) (w : World) :
    Calls Try.prog 22 #[.string s, .string t] w (YesOut w true) := by
  have := is_any s t hs w
  rwa [decide_eq_true h] at this
theorem fails_yes (s : ByteArray) (hs : s.size ≤ 100000) (h : unqL (bl s) = none) (w : World) :
    Calls Try.prog 24 #[.string s] w (YesOut w true) := by
  have := fails_any s hs w
  rwa [decide_eq_true h] at this
theorem quote_is (s t : ByteArray) (hs : s.size ≤ 100000) (h : quoteL (bl s) = bl t) (w : World) :
    Calls Try.prog 20 #[.string s] w fun e w' => e = .returned (.string t) ∧ Below w.heap.size w w' := by
  refine (Quote_any s hs w).mono ?_
  rintro e w' ⟨T, rfl, hT, b⟩
  obtain rfl : T = t := bl_inj (hT.trans h)
  exact ⟨rfl, b⟩
set_option maxRecDepth 100000 in
set_option maxHeartbeats 2000000 in
theorem works_true (w : World) : Calls Try.prog 17 #[] w (YesOut w true) := by
  have c1 := fun w => first_yes ⟨#[195, 169, 33]⟩ 233 2 (by decide) (by decide +kernel) w
  have c2 := fun w => first_yes ⟨#[195]⟩ 65533 1 (by decide) (by decide +kernel) w
  have c3 := fun w => first_yes ⟨#[237, 160, 128]⟩ 65533 1 (by decide) (by decide +kernel) w
  have c4 := fun w => quote_is ⟨#[97, 34, 98, 10]⟩ ⟨#[34, 97, 92, 34, 98, 92, 110, 34]⟩ (by decide) (by decide +kernel) w
  have c5 := fun w => quote_is ⟨#[255]⟩ ⟨#[34, 92, 120, 102, 102, 34]⟩ (by decide) (by decide +kernel) w
  have c6 := fun w => is_yes' ⟨#[34, 92, 117, 48, 48, 101, 57, 92, 120, 50, 49, 34]⟩ ⟨#[195, 169, 33]⟩ (by decide) (by decide +kernel) w
  have c7 := fun w => is_yes' ⟨#[96, 97, 92, 110, 96]⟩ ⟨#[97, 92, 110]⟩ (by decide) (by decide +kernel) w
  have c8 := fun w => fails_yes ⟨#[34, 97]⟩ (by decide) (by decide +kernel) w
  have c9 := fun w => fails_yes ⟨#[34, 92, 117, 100, 56, 48, 48, 34]⟩ (by decide) (by decide +kernel) w
  have c10 := fun w => fails_yes ⟨#[34, 92, 113, 34]⟩ (by decide) (by decide +kernel) w
  replace c1 := Lib.hid c1; replace c2 := Lib.hid c2; replace c3 := Lib.hid c3; replace c4 := Lib.hid c4; replace c5 := Lib.hid c5
  replace c6 := Lib.hid c6; replace c7 := Lib.hid c7; replace c8 := Lib.hid c8; replace c9 := Lib.hid c9; replace c10 := Lib.hid c10
  go_enter Try.func17, Try.ntmps17
  go_wp2_with fail
  refine (c1.out _).mono ?_
  rintro e w1 ⟨rfl, b1⟩
  go_wp2_with fail
  refine (c2.out _).mono ?_
  rintro e w2 ⟨rfl, b2⟩
  replace b2 := next b1 b2
  go_wp2_with fail
  refine (c3.out _).mono ?_
  rintro e w3 ⟨rfl, b3⟩
  replace b3 := next b2 b3
  go_wp2_with fail
  refine (c4.out _).mono ?_
  rintro e w4 ⟨rfl, b4⟩
  replace b4 := next b3 b4
  go_wp2_with fail
  refine (c5.out _).mono ?_
  rintro e w5 ⟨rfl, b5⟩
  replace b5 := next b4 b5
  go_wp2_with fail
  refine (c6.out _).mono ?_
  rintro e w6 ⟨rfl, b6⟩
  replace b6 := next b5 b6
  go_wp2_with fail
  refine (c7.out _).mono ?_
  rintro e w7 ⟨rfl, b7⟩
  replace b7 := next b6 b7
  go_wp2_with fail
  refine (c8.out _).mono ?_
  rintro e w8 ⟨rfl, b8⟩
  replace b8 := next b7 b8
  go_wp2_with fail
  refine (c9.out _).mono ?_
  rintro e w9 ⟨rfl, b9⟩
  replace b9 := next b8 b9
  go_wp2_with fail
  refine (c10.out _).mono ?_
  rintro e w10 ⟨rfl, b10⟩
  replace b10 := next b9 b10
  go_wp2_with fail
  go_ret
  exact ⟨rfl, b10⟩
end Go.Proofs.Ytbhhakobkpdadaa
