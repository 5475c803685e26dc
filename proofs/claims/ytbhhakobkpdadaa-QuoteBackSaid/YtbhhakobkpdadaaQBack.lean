/- QuoteBack, walked. -/
import Derived.Test.YtbhhakobkpdadaaQLawO
import Derived.Test.YtbhhakobkpdadaaQTwo
namespace Go.Proofs.Ytbhhakobkpdadaa
open Go.RowKit Go.Shelf

set_option maxRecDepth 100000 in
set_option maxHeartbeats 8000000 in
theorem QuoteBack_in (s0 : ByteArray) (hs9 : s0.size ≤ 140737488351232) (w : World) : Calls Try.prog 5 #[.string s0] w (YesOut w true) := by
  obtain ⟨p0, hp0⟩ : ∃ p, min s0.size 2000 = p := ⟨_, rfl⟩
  have i0 : min (s0.size : Int) 2000 = (p0 : Int) := by omega
  have j0 : (p0 : Int) ≤ (s0.size : Int) := by omega
  have k0 : (0 : Int) ≤ (p0 : Int) := by omega
  obtain ⟨s, hs⟩ : ∃ x, s0.extract 0 p0 = x := ⟨_, rfl⟩
  have hss : s.size ≤ 2000 := by
    rw [← hs, ← bl_len, bl_extract]
    simp only [List.drop_zero, List.length_take]; omega
  have HQ := Lib.hid (fun w => Quote_any s (by omega) w)
  have qa := quote_len (bl_byt s)
  rw [bl_len] at qa
  have HW := Lib.hid (fun w => works_true w)
  clear hp0
  go_enter Try.func5, Try.ntmps5
  go_wp2_with fail
  with_reducible refine (HW.out _).mono ?_
  rintro e w1 ⟨rfl, b1⟩
  go_wp2_with fail
  with_reducible refine (HQ.out _).mono ?_
  rintro e w2 ⟨q, rfl, hq, b2⟩
  have b2' := next b1 b2
  have zq : q.size = (quoteL (bl s)).length := by rw [← hq, bl_len]
  have HI := Lib.hid (fun w => is_yes' q s (by omega) (by rw [hq]; exact unq_quote (bl_byt s)) w)
  have hn2 : IntKind.i64.wrap ((s.size : Int) + 2) = (s.size : Int) + 2 := by rw [IntKind.wrap_i64]; omega
  have hn4 : IntKind.i64.wrap (4 * (s.size : Int)) = 4 * (s.size : Int) := by rw [IntKind.wrap_i64]; omega
  have hn42 : IntKind.i64.wrap (4 * (s.size : Int) + 2) = 4 * (s.size : Int) + 2 := by rw [IntKind.wrap_i64]; omega
  have d1 : decide ((q.size : Int) < (s.size : Int) + 2) = false := decide_eq_false (by omega)
  have d2 : decide (4 * (s.size : Int) + 2 < (q.size : Int)) = false := decide_eq_false (by omega)
  have hqs : q.size ≤ 10000 := by omega
  have HCl := Lib.hid (quote_clean (bl_byt s))
  have HQv := Lib.hid hq
  clear b1 b2 zq hq HQ HW qa
  go_wp2_with fail
  with_reducible refine (HI.out _).mono ?_
  rintro e w3 ⟨rfl, b3⟩
  have hb3 := next b2' b3
  clear b2' b3 HI
  go_wp2_with fail
  have H0 : Hid (q.size ≤ 10000 ∧ ∀ x ∈ parts (bl q), 32 ≤ x.2 ∧ x.2 ≠ 127 ∧ ¬ (x.2 = 65533 ∧ x.1.length = 1)) := Lib.hid ⟨hqs, by rw [HQv.out]; exact HCl.out⟩
  clear d1 d2 hn2 hn4 hn42 hqs HCl HQv
  go_loopw [4] (fun v wr => ∃ r : ByteArray, v = .string r ∧ Hid (r.size ≤ 10000 ∧ ∀ x ∈ parts (bl r), 32 ≤ x.2 ∧ x.2 ≠ 127 ∧ ¬ (x.2 = 65533 ∧ x.1.length = 1)) ∧ Below w.heap.size w wr) (fun v _ => strLen v)
  case atStart => exact ⟨q, rfl, H0, hb3⟩
  case round =>
    clear hb3
    obtain ⟨r, rfl, HR, hb⟩ := hrel
    rename World => wr
    cases hL : bl r with
    | nil =>
      have he : r = ByteArray.empty := bl_nil.2 hL
      subst he
      obtain ⟨S1, e1⟩ : ∃ S, (⟨#[96]⟩ : ByteArray) ++ s = S := ⟨_, rfl⟩
      obtain ⟨S2, e2⟩ : ∃ S, S1 ++ (⟨#[96]⟩ : ByteArray) = S := ⟨_, rfl⟩
      have one : (⟨#[96]⟩ : ByteArray).size = 1 := rfl
      have hz1 : S1.size = s.size + 1 := by rw [← e1, add_size]; omega
      have hz2 : S2.size = s.size + 2 := by rw [← e2, add_size]; omega
      have r1 := add_run ⟨#[96]⟩ s S1 e1 (by omega)
      have r2 := add_run S1 ⟨#[96]⟩ S2 e2 (by omega)
      have hbS : bl S2 = 96 :: (bl s ++ [96]) := by rw [← e2, bl_append, ← e1, bl_append]; rfl
      have HC := Lib.hid (fun w => contains_any s w)
      have HI := Lib.hid (fun w => is_any S2 s (by omega) w)
      by_cases hm : 96 ∈ bl s
      · have hv : decide (unqL (bl S2) = some (bl s)) = false := decide_eq_false (by rw [hbS, unq_back]; simpa using hm)
        rw [decide_eq_true hm] at HC
        rw [hv] at HI
        clear hL e1 e2 one hz1 hz2 hbS hm hv hss
        go_wp2_with fail
        with_reducible refine (HC.out _).mono ?_
        rintro e w' ⟨rfl, rfl⟩
        go_wp2_with fail
        with_reducible refine (HI.out _).mono ?_
        rintro e w5 ⟨rfl, b5⟩
        have hb5 := next hb b5
        go_wp2_with fail
        go_ret
        exact ⟨rfl, hb5⟩
      · have hv : decide (unqL (bl S2) = some (bl s)) = true := decide_eq_true (by rw [hbS, unq_back]; exact hm)
        rw [decide_eq_false hm] at HC
        rw [hv] at HI
        clear hL e1 e2 one hz1 hz2 hbS hm hv hss
        go_wp2_with fail
        with_reducible refine (HC.out _).mono ?_
        rintro e w' ⟨rfl, rfl⟩
        go_wp2_with fail
        with_reducible refine (HI.out _).mono ?_
        rintro e w5 ⟨rfl, b5⟩
        have hb5 := next hb b5
        go_wp2_with fail
        go_ret
        exact ⟨rfl, hb5⟩
    | cons c t =>
      have hne := isEmpty_no hL
      have hnn : bl r ≠ [] := by rw [hL]; simp
      have hd := dec_size hnn
      rw [bl_len] at hd
      have hp := parts_cons hnn
      have hok := HR.out.2
      rw [hp] at hok
      have hx := hok _ List.mem_cons_self
      have hrest : ∀ x ∈ parts ((bl r).drop (dec (bl r)).2), 32 ≤ x.2 ∧ x.2 ≠ 127 ∧ ¬ (x.2 = 65533 ∧ x.1.length = 1) := fun x hx => hok x (List.mem_cons_of_mem _ hx)
      simp only [List.length_take, bl_len] at hx
      have HD := Lib.hid (fun w => Decode_any r (by have := HR.out.1; omega) w)
      obtain ⟨d2, h2⟩ : ∃ d, (dec (bl r)).2 = d := ⟨_, rfl⟩
      obtain ⟨d1, h1⟩ : ∃ d, (dec (bl r)).1 = d := ⟨_, rfl⟩
      have HD' : Hid (∀ w, Calls Try.prog 10 #[.string r] w (DecOut w (d1, d2))) := Lib.hid (fun w => by have := HD.out w; rw [← h1, ← h2]; exact this)
      rw [h2] at hd hx hrest
      rw [h1] at hx
      rw [show min d2 r.size = d2 by omega] at hx
      have f1 : decide ((d2 : Int) < 1) = false := decide_eq_false (by omega)
      have f2 : decide ((d1 : Int) < 32) = false := decide_eq_false (by omega)
      have f3 : ((d1 : Int) == 127) = false := by simp; omega
      have e1 : (0 : Int) ≤ (d2 : Int) := by omega
      have e2 : (d2 : Int) ≤ (r.size : Int) := by omega
      obtain ⟨r1, hr1⟩ : ∃ x, r.extract d2 r.size = x := ⟨_, rfl⟩
      have hb1 : bl r1 = (bl r).drop d2 := drop_n hr1
      have hsz1 : r1.size < r.size := by
        have := bl_len r1
        rw [hb1, List.length_drop, bl_len] at this
        omega
      have HN : Hid (r1.size ≤ 10000 ∧ ∀ x ∈ parts (bl r1), 32 ≤ x.2 ∧ x.2 ≠ 127 ∧ ¬ (x.2 = 65533 ∧ x.1.length = 1)) := Lib.hid ⟨by have := HR.out.1; omega, by rw [hb1]; exact hrest⟩
      by_cases g : d1 = 65533
      · have f4 : ((d1 : Int) == 65533) = true := by simp; omega
        have f5 : ((d2 : Int) == 1) = false := by simp; omega
        clear hL hnn hd hp hok hx hrest h1 h2 hb1 g HD
        go_wp2_with fail
        with_reducible refine (HD'.out _).mono ?_
        rintro e w4 ⟨rfl, b4⟩
        have hb4 := next hb b4
        clear b4
        go_wp2_with fail
        exact ⟨⟨r1, rfl, HN, hb4⟩, hsz1⟩
      · have f4 : ((d1 : Int) == 65533) = false := by simp; omega
        clear hL hnn hd hp hok hx hrest h1 h2 hb1 g HD
        go_wp2_with fail
        with_reducible refine (HD'.out _).mono ?_
        rintro e w4 ⟨rfl, b4⟩
        have hb4 := next hb b4
        clear b4
        go_wp2_with fail
        exact ⟨⟨r1, rfl, HN, hb4⟩, hsz1⟩
theorem QuoteBack_walk (s : ByteArray) (w : World) (hs9 : s.size ≤ 140737488351232) : Calls Try.prog 5 #[.string s] w fun e w' => e = .returned (.bool true) ∧ Below w.heap.size w w' := QuoteBack_in s hs9 w
end Go.Proofs.Ytbhhakobkpdadaa
