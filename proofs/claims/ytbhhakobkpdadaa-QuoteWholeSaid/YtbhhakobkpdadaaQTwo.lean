/- QuoteTwo, walked. -/
import Derived.Test.YtbhhakobkpdadaaQLawN
namespace Go.Proofs.Ytbhhakobkpdadaa
open Go.RowKit Go.Shelf

theorem add_run (a b S : ByteArray) (h : a ++ b = S) (hs : a.size + b.size ≤ 1000000) : ∀ w, Sem.run Try.prog (Op.stringOp .add a b) w = Result.ok (.string S) w := fun w => by
  rw [← h]; exact run_string_add_sum w a b (by omega)
theorem add_size (a b : ByteArray) : (a ++ b).size = a.size + b.size := by
  rw [← bl_len, bl_append, List.length_append, bl_len, bl_len]
set_option maxRecDepth 100000 in
set_option maxHeartbeats 8000000 in
theorem QuoteTwo_in (s t : ByteArray) (hs9 : s.size ≤ 140737488351232) (ht9 : t.size ≤ 140737488351232) (w : World) : Calls Try.prog 7 #[.string s, .string t] w (YesOut w true) := by
  obtain ⟨p0, hp0⟩ : ∃ p, min s.size 500 = p := ⟨_, rfl⟩
  obtain ⟨p1, hp1⟩ : ∃ p, min t.size 500 = p := ⟨_, rfl⟩
  have i0 : min (s.size : Int) 500 = (p0 : Int) := by omega
  have i1 : min (t.size : Int) 500 = (p1 : Int) := by omega
  have j0 : (p0 : Int) ≤ (s.size : Int) := by omega
  have j1 : (p1 : Int) ≤ (t.size : Int) := by omega
  have k0 : (0 : Int) ≤ (p0 : Int) := by omega
  have k1 : (0 : Int) ≤ (p1 : Int) := by omega
  obtain ⟨s1, hs1⟩ : ∃ x, s.extract 0 p0 = x := ⟨_, rfl⟩
  obtain ⟨t1, ht1⟩ : ∃ x, t.extract 0 p1 = x := ⟨_, rfl⟩
  have hss : s1.size ≤ 500 := by
    rw [← hs1, ← bl_len, bl_extract]
    simp only [List.drop_zero, List.length_take]; omega
  have hts : t1.size ≤ 500 := by
    rw [← ht1, ← bl_len, bl_extract]
    simp only [List.drop_zero, List.length_take]; omega
  have HQa := Lib.hid (fun w => Quote_any s1 (by omega) w)
  have HQb := Lib.hid (fun w => Quote_any t1 (by omega) w)
  have qa := quote_len (bl_byt s1)
  have qb := quote_len (bl_byt t1)
  rw [bl_len] at qa qb
  have HF1 := Lib.hid (two_quotes (bl_byt s1) (bl_byt t1))
  have HF2 := Lib.hid (cut_end (bl_byt s1))
  have HF5 := Lib.hid (cut_start (bl_byt s1))
  have HW := Lib.hid (fun w => works_true w)
  clear hp0 hp1
  go_enter Try.func7, Try.ntmps7
  go_wp2_with fail
  with_reducible refine (HW.out _).mono ?_
  rintro e w1 ⟨rfl, b1⟩
  have HB1 := Lib.hid b1
  clear b1
  go_wp2_with fail
  go_region_with (first
    | (go_at_call 20
       with_reducible refine (HQa.out _).mono ?_
       rintro e wa ⟨a, rfl, ha, ba⟩)
    | (go_at_call 20
       with_reducible refine (HQb.out _).mono ?_
       rintro e wb ⟨b, rfl, hb, bb⟩))
  all_goals
    first
      | (have HB2 := Lib.hid (next (next HB1.out.drew ba) bb))
      | (have HB2 := Lib.hid (next (next HB1.out.drew bb) ba))
    clear ba bb HB1 HQa HQb HW
    have za : a.size = (quoteL (bl s1)).length := by rw [← ha, bl_len]
    have zb : b.size = (quoteL (bl t1)).length := by rw [← hb, bl_len]
    have da1 : decide ((a.size : Int) < 2) = false := decide_eq_false (by omega)
    have da2 : decide (a.size < 2) = false := decide_eq_false (by omega)
    have db1 : decide ((b.size : Int) < 2) = false := decide_eq_false (by omega)
    have db2 : decide (b.size < 2) = false := decide_eq_false (by omega)
    obtain ⟨S1, e1⟩ : ∃ S, a ++ b = S := ⟨_, rfl⟩
    obtain ⟨S3, e3⟩ : ∃ S, a ++ (⟨#[32]⟩ : ByteArray) = S := ⟨_, rfl⟩
    obtain ⟨S4, e4⟩ : ∃ S, (⟨#[32]⟩ : ByteArray) ++ a = S := ⟨_, rfl⟩
    have one : (⟨#[32]⟩ : ByteArray).size = 1 := rfl
    have r1 := add_run a b S1 e1 (by omega)
    have r3 := add_run a ⟨#[32]⟩ S3 e3 (by omega)
    have r4 := add_run ⟨#[32]⟩ a S4 e4 (by omega)
    obtain ⟨q, hq⟩ : ∃ q, a.size - 1 = q := ⟨_, rfl⟩
    have g0 : (0 : Int) ≤ (q : Int) := by omega
    have g1 : (q : Int) ≤ (a.size : Int) := by omega
    have g2 : (1 : Int) ≤ (a.size : Int) := by omega
    obtain ⟨S2, e2⟩ : ∃ S, a.extract 0 q = S := ⟨_, rfl⟩
    obtain ⟨S5, e5⟩ : ∃ S, a.extract 1 a.size = S := ⟨_, rfl⟩
    have HC1 := Lib.hid (fun w => fails_yes S1 (by rw [← e1, add_size]; omega) (by rw [← e1, bl_append, ha, hb]; exact HF1.out) w)
    have HC2 := Lib.hid (fun w => fails_yes S2 (by rw [← bl_len, ← e2, bl_extract]; simp only [List.drop_zero, List.length_take]; rw [bl_len]; omega) (by
      rw [← e2, bl_extract, ha, List.drop_zero, ← hq, za]
      rw [show (quoteL (bl s1)).take ((quoteL (bl s1)).length - 1) = 34 :: qFlat (parts (bl s1)) by simp [quoteL]]
      exact HF2.out) w)
    have HC3 := Lib.hid (fun w => fails_yes S3 (by rw [← e3, add_size]; omega) (by
      rw [← e3, bl_append, ha, quoteL]
      exact unq_apart (a := 34) (z := 32) (qFlat (parts (bl s1)) ++ [34]) (by omega)) w)
    have HC4 := Lib.hid (fun w => fails_yes S4 (by rw [← e4, add_size]; omega) (by
      rw [← e4, bl_append, ha, quoteL]
      exact unq_apart (a := 32) (z := 34) (34 :: qFlat (parts (bl s1))) (by omega)) w)
    have HC5 := Lib.hid (fun w => fails_yes S5 (by rw [← bl_len, ← e5, bl_extract]; simp only [List.length_drop, List.length_take]; rw [bl_len]; omega) (by
      rw [drop_one e5, ha]
      exact HF5.out) w)
    have hwq : IntKind.i64.wrap ((a.size : Int) - 1) = (q : Int) := by rw [IntKind.wrap_i64]; omega
    clear hq za zb ha hb qa qb hss hts e1 e3 e4 one HF1 HF2 HF5
    go_wp2_with fail
    with_reducible refine (HC1.out _).mono ?_
    rintro e w3 ⟨rfl, b3⟩
    have HB3 := Lib.hid (next HB2.out b3)
    clear b3 HB2 HC1
    go_wp2_with fail
    with_reducible refine (HC2.out _).mono ?_
    rintro e w4 ⟨rfl, b4⟩
    have HB4 := Lib.hid (next HB3.out b4)
    clear b4 HB3 HC2
    go_wp2_with fail
    with_reducible refine (HC3.out _).mono ?_
    rintro e w5 ⟨rfl, b5⟩
    have HB5 := Lib.hid (next HB4.out b5)
    clear b5 HB4 HC3
    go_wp2_with fail
    with_reducible refine (HC4.out _).mono ?_
    rintro e w6 ⟨rfl, b6⟩
    have HB6 := Lib.hid (next HB5.out b6)
    clear b6 HB5 HC4
    go_wp2_with fail
    with_reducible refine (HC5.out _).mono ?_
    rintro e w7 ⟨rfl, b7⟩
    have hb7 := next HB6.out b7
    go_wp2_with fail
    go_ret
    exact ⟨rfl, hb7⟩
theorem QuoteTwo_walk (s t : ByteArray) (w : World) (hs9 : s.size ≤ 140737488351232) (ht9 : t.size ≤ 140737488351232) : Calls Try.prog 7 #[.string s, .string t] w fun e w' => e = .returned (.bool true) ∧ Below w.heap.size w w' := QuoteTwo_in s t hs9 ht9 w
end Go.Proofs.Ytbhhakobkpdadaa
