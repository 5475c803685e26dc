/- The document's Quote. -/
import Derived.Test.YtbhhakobkpdadaaQRRunes
import Derived.Test.YtbhhakobkpdadaaQLawN
import Derived.Deep.QuietTactic
import Derived.BigQuiet
namespace Go.Proofs.Ytbhhakobkpdadaa
open Go.RowKit Go.Shelf

theorem qB_low {c : Nat} (t : List Nat) (h : c < 128) : qB ((c :: t).take (dec (c :: t)).2, (dec (c :: t)).1) = if c = 34 ∨ c = 92 then [92, c] else if c = 10 then [92, 110] else if c = 13 then [92, 114] else if c = 9 then [92, 116] else if c < 32 ∨ c = 127 then [92, 120, hx (c / 16), hx (c % 16)] else [c] := by
  rw [dec_one h]
  simp only [qB, List.take_succ_cons, List.take_zero, List.getD_cons_zero]
  have : (c = 65533 ∧ [c].length = 1) ↔ False := by simp; omega
  simp only [this, or_false]
theorem dec_ge {c : Nat} {t : List Nat} (h : 128 ≤ c) : 128 ≤ (dec (c :: t)).1 := by
  rcases dec_cases (c := c) (t := t) with ⟨v, hv, ht, hd⟩ | ⟨hd, _⟩
  · rw [hd]
    refine Nat.le_of_not_lt fun hlt => ?_
    have e : encN v = [v] := by rw [encN, if_pos hlt]
    rw [e] at ht
    simp at ht
    omega
  · rw [hd]; decide
theorem qB_high {c : Nat} {t : List Nat} (h : 128 ≤ c) : qB ((c :: t).take (dec (c :: t)).2, (dec (c :: t)).1) = if (dec (c :: t)).1 = 65533 ∧ (dec (c :: t)).2 = 1 then [92, 120, hx (c / 16), hx (c % 16)] else (c :: t).take (dec (c :: t)).2 := by
  have h1 := dec_ge (t := t) h
  have h2 := dec_size (L := c :: t) (by simp)
  have h3 : ((c :: t).take (dec (c :: t)).2).length = (dec (c :: t)).2 := by rw [List.length_take]; omega
  have h4 : ((c :: t).take (dec (c :: t)).2).getD 0 0 = c := by
    obtain ⟨m, hm⟩ : ∃ m, (dec (c :: t)).2 = m + 1 := ⟨(dec (c :: t)).2 - 1, by omega⟩
    rw [hm, List.take_succ_cons]; rfl
  unfold qB
  rw [h3, h4]
  dsimp only
  rw [if_neg (by omega), if_neg (by omega), if_neg (by omega), if_neg (by omega)]
  by_cases hc : (dec (c :: t)).1 = 65533 ∧ (dec (c :: t)).2 = 1
  · rw [if_pos (Or.inr (Or.inr hc)), if_pos hc]
  · rw [if_neg (by omega), if_neg hc]
theorem add_run' (a b S : ByteArray) (h : a ++ b = S) (hs : a.size + b.size ≤ 1000000) : ∀ w, Sem.run Try.prog (Op.stringOp .add a b) w = Result.ok (.string S) w := fun w => by
  rw [← h]; exact run_string_add_sum w a b (by omega)
theorem hex_cut (q : Nat) (h : q < 16) : bl (hexS.extract q (q + 1)) = [hx q] := by
  rw [bl_extract]
  revert q
  decide
set_option maxRecDepth 100000 in
set_option maxHeartbeats 8000000 in
theorem rQuote_any (s : ByteArray) (hs : s.size ≤ 100000) (w : World) :
    Calls Try.prog 21 #[.string s] w (StrOut w (quoteL (bl s))) := by
  have HQL := Lib.hid (quote_len (bl_byt s)).2
  go_enter Try.func21, Try.ntmps21
  go_wp2
  go_loopw [0, 3] (fun p o wr => ∃ (pre : List (List Nat × Nat)) (r q : ByteArray), p = .string r ∧ o = .string q ∧ Hid (parts (bl s) = pre ++ parts (bl r)) ∧ r.size ≤ s.size ∧ Hid (bl q = 34 :: qFlat pre) ∧ Below w.heap.size w wr) (fun p _ _ => strLen p)
  case atStart => exact ⟨[], s, _, rfl, rfl, Lib.hid rfl, Nat.le_refl _, Lib.hid rfl, Below.refl _ _⟩
  case round =>
    obtain ⟨pre, r, q, rfl, rfl, HP, hr, HQ, hb⟩ := hrel
    have hx := HP.out
    have hq : q.size ≤ 400001 := by
      have h1 := HQL.out
      have h2 : q.size = 1 + (qFlat pre).length := by rw [← bl_len, HQ.out, List.length_cons]; omega
      have h3 : (quoteL (bl s)).length = 1 + ((qFlat pre).length + (qFlat (parts (bl r))).length + 1) := by
        rw [quoteL, hx, qFlat_snoc']
        simp [qFlat]; omega
      rw [bl_len] at h1
      omega
    cases hL : bl r with
    | nil =>
      have he : r = ByteArray.empty := bl_nil.2 hL
      subst he
      rw [hL, parts_nil, List.append_nil] at hx
      obtain ⟨S, hS⟩ : ∃ S, q ++ (⟨#[34]⟩ : ByteArray) = S := ⟨_, rfl⟩
      have one : (⟨#[34]⟩ : ByteArray).size = 1 := rfl
      have a1 := add_run' q ⟨#[34]⟩ S hS (by omega)
      have HF : Hid (bl S = quoteL (bl s)) := Lib.hid (by rw [← hS, bl_append, HQ.out, quoteL, hx]; rfl)
      clear hx hS one hq hL
      go_wp2_with fail
      go_ret
      exact ⟨S, rfl, HF.out, hb⟩
    | cons c t =>
      have hne := isEmpty_no hL
      have hnn : bl r ≠ [] := by rw [hL]; simp
      have hd := dec_size hnn
      rw [bl_len] at hd
      have hp := parts_cons hnn
      obtain ⟨hc8, hln, h00, h0⟩ := first_byte hL
      have HD := Lib.hid (fun w => rDecode_any r (by omega) w)
      have hlow := qB_low (c := c) t
      have hhigh := qB_high (c := c) (t := t)
      rw [← hL] at hlow hhigh
      obtain ⟨x, hX⟩ : ∃ x, ((bl r).take (dec (bl r)).2, (dec (bl r)).1) = x := ⟨_, rfl⟩
      have hgood : (qB x).length ≤ 5 := by
        rw [← hX]; refine qB_len ?_
        have := dec_size4 (bl r)
        dsimp only
        rw [List.length_take]; omega
      rw [hX] at hp hlow hhigh
      obtain ⟨d2, h2⟩ : ∃ d, (dec (bl r)).2 = d := ⟨_, rfl⟩
      obtain ⟨d1, h1⟩ : ∃ d, (dec (bl r)).1 = d := ⟨_, rfl⟩
      have hlow2 : c < 128 → d2 = 1 := fun h => by rw [← h2, hL, dec_one h]
      have HD1 : Hid (c < 128 → d1 = c) := Lib.hid (fun h => by rw [← h1, hL, dec_one h])
      rw [h2] at hd hp hhigh
      rw [h1] at hhigh
      have e1 : (0 : Int) ≤ (d2 : Int) := by omega
      have e2 : (d2 : Int) ≤ (r.size : Int) := by omega
      have e3 : (1 : Int) ≤ (r.size : Int) := by omega
      have e4 : (0 : Int) < (r.size : Int) := by omega
      have hsz : r.size - d2 < r.size := by omega
      have HP2 : Hid (parts (bl s) = (pre ++ [x]) ++ parts (bl (r.extract d2 r.size))) := Lib.hid (by
        rw [bl_extract, ← bl_len, List.take_length, hx, hp, List.append_assoc]; rfl)
      have hs2 : (r.extract d2 r.size).size = r.size - d2 := by
        have : (bl (r.extract d2 r.size)).length = r.size - d2 := by rw [bl_extract, List.length_drop, List.length_take, bl_len]; omega
        rwa [bl_len] at this
      have HS2 := Lib.hid hs2
      have HN : Hid (∀ S E, bl E = qB x → q ++ E = S → bl S = 34 :: qFlat (pre ++ [x])) := Lib.hid (fun S E hE hS => by
        rw [← hS, bl_append, HQ.out, qFlat_snoc, hE]; rfl)
      have HB := Lib.hid hb
      have HX1 : Hid (bl (r.extract 0 1) = [c]) := Lib.hid (by rw [bl_extract, hL]; rfl)
      have HXd : Hid (bl (r.extract 0 d2) = (bl r).take d2) := Lib.hid (by rw [bl_extract]; rfl)
      have HLow := Lib.hid hlow
      have HHigh := Lib.hid hhigh
      clear hL hnn hx hp hs2 hb HP hlow hhigh hX
      go_wp2_with fail
      refine (HD.out _).mono ?_
      rintro e w2 ⟨rfl, b2⟩
      rw [h1, h2]
      have hb := next HB.out b2
      clear HD HB b2 h1 h2
      by_cases k34 : c = 34
      · have f34 : (((c : Nat) : Int) == 34) = true := by simp; omega
        obtain ⟨S1, hS1⟩ : ∃ S, q ++ (⟨#[92]⟩ : ByteArray) = S := ⟨_, rfl⟩
        obtain ⟨E, hE⟩ : ∃ E, r.extract 0 1 = E := ⟨_, rfl⟩
        obtain ⟨S, hS⟩ : ∃ S, S1 ++ E = S := ⟨_, rfl⟩
        have one : (⟨#[92]⟩ : ByteArray).size = 1 := rfl
        have hE1 : bl E = [c] := by rw [← hE]; exact HX1.out
        have oneE : E.size = 1 := by rw [← bl_len, hE1]; rfl
        have sz1 : S1.size = q.size + 1 := by rw [← hS1, ← bl_len, bl_append, List.length_append, bl_len]; rfl
        have a1 := add_run' q ⟨#[92]⟩ S1 hS1 (by omega)
        have a2 := add_run' S1 E S hS (by omega)
        have HS : Hid (bl S = 34 :: qFlat (pre ++ [x])) := Lib.hid (HN.out S (⟨#[92]⟩ ++ E) (by rw [HLow.out (by omega), if_pos (by omega), bl_append, hE1]; rfl) (by rw [← hS, ← hS1, ByteArray.append_assoc]))
        clear hS hS1 one oneE hE1 sz1
        clear hc8 hln hlow2 hgood hd hq
        go_wp2_with fail
        exact ⟨⟨_, _, _, rfl, rfl, HP2, by rw [HS2.out]; omega, HS, hb⟩, by simp only [strLen]; rw [HS2.out]; exact hsz⟩
      by_cases k92 : c = 92
      · have f34 : (((c : Nat) : Int) == 34) = false := by simp; omega
        have f92 : (((c : Nat) : Int) == 92) = true := by simp; omega
        obtain ⟨S1, hS1⟩ : ∃ S, q ++ (⟨#[92]⟩ : ByteArray) = S := ⟨_, rfl⟩
        obtain ⟨E, hE⟩ : ∃ E, r.extract 0 1 = E := ⟨_, rfl⟩
        obtain ⟨S, hS⟩ : ∃ S, S1 ++ E = S := ⟨_, rfl⟩
        have one : (⟨#[92]⟩ : ByteArray).size = 1 := rfl
        have hE1 : bl E = [c] := by rw [← hE]; exact HX1.out
        have oneE : E.size = 1 := by rw [← bl_len, hE1]; rfl
        have sz1 : S1.size = q.size + 1 := by rw [← hS1, ← bl_len, bl_append, List.length_append, bl_len]; rfl
        have a1 := add_run' q ⟨#[92]⟩ S1 hS1 (by omega)
        have a2 := add_run' S1 E S hS (by omega)
        have HS : Hid (bl S = 34 :: qFlat (pre ++ [x])) := Lib.hid (HN.out S (⟨#[92]⟩ ++ E) (by rw [HLow.out (by omega), if_pos (by omega), bl_append, hE1]; rfl) (by rw [← hS, ← hS1, ByteArray.append_assoc]))
        clear hS hS1 one oneE hE1 sz1
        clear hc8 hln hlow2 hgood hd hq
        go_wp2_with fail
        exact ⟨⟨_, _, _, rfl, rfl, HP2, by rw [HS2.out]; omega, HS, hb⟩, by simp only [strLen]; rw [HS2.out]; exact hsz⟩
      by_cases k10 : c = 10
      · have f34 : (((c : Nat) : Int) == 34) = false := by simp; omega
        have f92 : (((c : Nat) : Int) == 92) = false := by simp; omega
        have f10 : (((c : Nat) : Int) == 10) = true := by simp; omega
        obtain ⟨S, hS⟩ : ∃ S, q ++ (⟨#[92, 110]⟩ : ByteArray) = S := ⟨_, rfl⟩
        have one : (⟨#[92, 110]⟩ : ByteArray).size = 2 := rfl
        have a1 := add_run' q ⟨#[92, 110]⟩ S hS (by omega)
        have HS : Hid (bl S = 34 :: qFlat (pre ++ [x])) := Lib.hid (HN.out S _ (by rw [HLow.out (by omega), if_neg (by omega), if_pos (by omega)]; rfl) hS)
        clear hS one
        clear hc8 hln hlow2 hgood hd hq
        go_wp2_with fail
        exact ⟨⟨_, _, _, rfl, rfl, HP2, by rw [HS2.out]; omega, HS, hb⟩, by simp only [strLen]; rw [HS2.out]; exact hsz⟩
      by_cases k13 : c = 13
      · have f34 : (((c : Nat) : Int) == 34) = false := by simp; omega
        have f92 : (((c : Nat) : Int) == 92) = false := by simp; omega
        have f10 : (((c : Nat) : Int) == 10) = false := by simp; omega
        have f13 : (((c : Nat) : Int) == 13) = true := by simp; omega
        obtain ⟨S, hS⟩ : ∃ S, q ++ (⟨#[92, 114]⟩ : ByteArray) = S := ⟨_, rfl⟩
        have one : (⟨#[92, 114]⟩ : ByteArray).size = 2 := rfl
        have a1 := add_run' q ⟨#[92, 114]⟩ S hS (by omega)
        have HS : Hid (bl S = 34 :: qFlat (pre ++ [x])) := Lib.hid (HN.out S _ (by rw [HLow.out (by omega), if_neg (by omega), if_neg (by omega), if_pos (by omega)]; rfl) hS)
        clear hS one
        clear hc8 hln hlow2 hgood hd hq
        go_wp2_with fail
        exact ⟨⟨_, _, _, rfl, rfl, HP2, by rw [HS2.out]; omega, HS, hb⟩, by simp only [strLen]; rw [HS2.out]; exact hsz⟩
      by_cases k9 : c = 9
      · have f34 : (((c : Nat) : Int) == 34) = false := by simp; omega
        have f92 : (((c : Nat) : Int) == 92) = false := by simp; omega
        have f10 : (((c : Nat) : Int) == 10) = false := by simp; omega
        have f13 : (((c : Nat) : Int) == 13) = false := by simp; omega
        have f9 : (((c : Nat) : Int) == 9) = true := by simp; omega
        obtain ⟨S, hS⟩ : ∃ S, q ++ (⟨#[92, 116]⟩ : ByteArray) = S := ⟨_, rfl⟩
        have one : (⟨#[92, 116]⟩ : ByteArray).size = 2 := rfl
        have a1 := add_run' q ⟨#[92, 116]⟩ S hS (by omega)
        have HS : Hid (bl S = 34 :: qFlat (pre ++ [x])) := Lib.hid (HN.out S _ (by rw [HLow.out (by omega), if_neg (by omega), if_neg (by omega), if_neg (by omega), if_pos (by omega)]; rfl) hS)
        clear hS one
        clear hc8 hln hlow2 hgood hd hq
        go_wp2_with fail
        exact ⟨⟨_, _, _, rfl, rfl, HP2, by rw [HS2.out]; omega, HS, hb⟩, by simp only [strLen]; rw [HS2.out]; exact hsz⟩
      have f34 : (((c : Nat) : Int) == 34) = false := by simp; omega
      have f92 : (((c : Nat) : Int) == 92) = false := by simp; omega
      have f10 : (((c : Nat) : Int) == 10) = false := by simp; omega
      have f13 : (((c : Nat) : Int) == 13) = false := by simp; omega
      have f9 : (((c : Nat) : Int) == 9) = false := by simp; omega
      by_cases k32 : c < 32
      · have f32 : decide ((c : Int) < 32) = true := decide_eq_true (by omega)
        have HS0 : Hid (qB x = [92, 120, hx (c / 16), hx (c % 16)]) := Lib.hid (by rw [HLow.out (by omega), if_neg (by omega), if_neg (by omega), if_neg (by omega), if_neg (by omega), if_pos (by omega)])
        obtain ⟨u, hu⟩ : ∃ u, c / 16 = u := ⟨_, rfl⟩
        obtain ⟨v, hv⟩ : ∃ v, c % 16 = v := ⟨_, rfl⟩
        rw [hu, hv] at HS0
        have hu16 : u < 16 := by omega
        have hv16 : v < 16 := by omega
        obtain ⟨E1, hE1⟩ : ∃ E, (⟨#[48, 49, 50, 51, 52, 53, 54, 55, 56, 57, 97, 98, 99, 100, 101, 102]⟩ : ByteArray).extract u (u + 1) = E := ⟨_, rfl⟩
        obtain ⟨E2, hE2⟩ : ∃ E, (⟨#[48, 49, 50, 51, 52, 53, 54, 55, 56, 57, 97, 98, 99, 100, 101, 102]⟩ : ByteArray).extract v (v + 1) = E := ⟨_, rfl⟩
        have bE1 := hex_cut u hu16
        have bE2 := hex_cut v hv16
        rw [show hexS.extract u (u + 1) = E1 from hE1] at bE1
        rw [show hexS.extract v (v + 1) = E2 from hE2] at bE2
        obtain ⟨S1, hS1⟩ : ∃ S, q ++ (⟨#[92, 120]⟩ : ByteArray) = S := ⟨_, rfl⟩
        obtain ⟨S2, hS2⟩ : ∃ S, S1 ++ E1 = S := ⟨_, rfl⟩
        obtain ⟨S, hS⟩ : ∃ S, S2 ++ E2 = S := ⟨_, rfl⟩
        have one : (⟨#[92, 120]⟩ : ByteArray).size = 2 := rfl
        have oneE : E1.size = 1 := by rw [← bl_len, bE1]; rfl
        have oneF : E2.size = 1 := by rw [← bl_len, bE2]; rfl
        have sz1 : S1.size = q.size + 2 := by rw [← hS1, ← bl_len, bl_append, List.length_append, bl_len]; rfl
        have sz2 : S2.size = q.size + 3 := by rw [← hS2, ← bl_len, bl_append, List.length_append, bl_len, bl_len]; omega
        have a1 := add_run' q ⟨#[92, 120]⟩ S1 hS1 (by omega)
        have a2 := add_run' S1 E1 S2 hS2 (by omega)
        have a3 := add_run' S2 E2 S hS (by omega)
        have HS : Hid (bl S = 34 :: qFlat (pre ++ [x])) := Lib.hid (HN.out S (⟨#[92, 120]⟩ ++ (E1 ++ E2)) (by rw [HS0.out, bl_append, bl_append, bE1, bE2]; rfl) (by rw [← hS, ← hS2, ← hS1, ByteArray.append_assoc, ByteArray.append_assoc]))
        have t1 : (c : Int).tdiv 16 = (u : Int) := by rw [Int.tdiv_eq_ediv_of_nonneg (by omega)]; omega
        have t2 : (c : Int).tmod 16 = (v : Int) := by rw [Int.tmod_eq_emod_of_nonneg (by omega)]; omega
        have t3 : IntKind.u8.wrap (u : Int) = (u : Int) := u8_wrap u (by omega)
        have t4 : IntKind.u8.wrap (v : Int) = (v : Int) := u8_wrap v (by omega)
        have t5 : IntKind.u8.wrap ((u : Int) + 1) = (u : Int) + 1 := by have := u8_wrap (u + 1) (by omega); simpa using this
        have t6 : IntKind.u8.wrap ((v : Int) + 1) = (v : Int) + 1 := by have := u8_wrap (v + 1) (by omega); simpa using this
        have n1 : ((u : Int) + 1).toNat = u + 1 := by omega
        have n2 : ((v : Int) + 1).toNat = v + 1 := by omega
        have g1 : (0 : Int) ≤ (u : Int) := by omega
        have g2 : (u : Int) + 1 ≤ 16 := by omega
        have g3 : (u : Int) ≤ (u : Int) + 1 := by omega
        have g4 : (0 : Int) ≤ (v : Int) := by omega
        have g5 : (v : Int) + 1 ≤ 16 := by omega
        have g6 : (v : Int) ≤ (v : Int) + 1 := by omega
        clear hu hv hS hS1 hS2 one oneE oneF sz1 sz2 bE1 bE2 hln hu16 hv16
        clear hc8 hlow2 hgood hd hq
        go_wp2_with fail
        go_quiet (fail)
        go_wp2_with fail
        exact ⟨⟨_, _, _, rfl, rfl, HP2, by rw [HS2.out]; omega, HS, Below.dn hb _⟩, by simp only [strLen]; rw [HS2.out]; exact hsz⟩
      have f32 : decide ((c : Int) < 32) = false := decide_eq_false (by omega)
      by_cases k127 : c = 127
      · have f127 : (((c : Nat) : Int) == 127) = true := by simp; omega
        have HS0 : Hid (qB x = [92, 120, hx (c / 16), hx (c % 16)]) := Lib.hid (by rw [HLow.out (by omega), if_neg (by omega), if_neg (by omega), if_neg (by omega), if_neg (by omega), if_pos (by omega)])
        obtain ⟨u, hu⟩ : ∃ u, c / 16 = u := ⟨_, rfl⟩
        obtain ⟨v, hv⟩ : ∃ v, c % 16 = v := ⟨_, rfl⟩
        rw [hu, hv] at HS0
        have hu16 : u < 16 := by omega
        have hv16 : v < 16 := by omega
        obtain ⟨E1, hE1⟩ : ∃ E, (⟨#[48, 49, 50, 51, 52, 53, 54, 55, 56, 57, 97, 98, 99, 100, 101, 102]⟩ : ByteArray).extract u (u + 1) = E := ⟨_, rfl⟩
        obtain ⟨E2, hE2⟩ : ∃ E, (⟨#[48, 49, 50, 51, 52, 53, 54, 55, 56, 57, 97, 98, 99, 100, 101, 102]⟩ : ByteArray).extract v (v + 1) = E := ⟨_, rfl⟩
        have bE1 := hex_cut u hu16
        have bE2 := hex_cut v hv16
        rw [show hexS.extract u (u + 1) = E1 from hE1] at bE1
        rw [show hexS.extract v (v + 1) = E2 from hE2] at bE2
        obtain ⟨S1, hS1⟩ : ∃ S, q ++ (⟨#[92, 120]⟩ : ByteArray) = S := ⟨_, rfl⟩
        obtain ⟨S2, hS2⟩ : ∃ S, S1 ++ E1 = S := ⟨_, rfl⟩
        obtain ⟨S, hS⟩ : ∃ S, S2 ++ E2 = S := ⟨_, rfl⟩
        have one : (⟨#[92, 120]⟩ : ByteArray).size = 2 := rfl
        have oneE : E1.size = 1 := by rw [← bl_len, bE1]; rfl
        have oneF : E2.size = 1 := by rw [← bl_len, bE2]; rfl
        have sz1 : S1.size = q.size + 2 := by rw [← hS1, ← bl_len, bl_append, List.length_append, bl_len]; rfl
        have sz2 : S2.size = q.size + 3 := by rw [← hS2, ← bl_len, bl_append, List.length_append, bl_len, bl_len]; omega
        have a1 := add_run' q ⟨#[92, 120]⟩ S1 hS1 (by omega)
        have a2 := add_run' S1 E1 S2 hS2 (by omega)
        have a3 := add_run' S2 E2 S hS (by omega)
        have HS : Hid (bl S = 34 :: qFlat (pre ++ [x])) := Lib.hid (HN.out S (⟨#[92, 120]⟩ ++ (E1 ++ E2)) (by rw [HS0.out, bl_append, bl_append, bE1, bE2]; rfl) (by rw [← hS, ← hS2, ← hS1, ByteArray.append_assoc, ByteArray.append_assoc]))
        have t1 : (c : Int).tdiv 16 = (u : Int) := by rw [Int.tdiv_eq_ediv_of_nonneg (by omega)]; omega
        have t2 : (c : Int).tmod 16 = (v : Int) := by rw [Int.tmod_eq_emod_of_nonneg (by omega)]; omega
        have t3 : IntKind.u8.wrap (u : Int) = (u : Int) := u8_wrap u (by omega)
        have t4 : IntKind.u8.wrap (v : Int) = (v : Int) := u8_wrap v (by omega)
        have t5 : IntKind.u8.wrap ((u : Int) + 1) = (u : Int) + 1 := by have := u8_wrap (u + 1) (by omega); simpa using this
        have t6 : IntKind.u8.wrap ((v : Int) + 1) = (v : Int) + 1 := by have := u8_wrap (v + 1) (by omega); simpa using this
        have n1 : ((u : Int) + 1).toNat = u + 1 := by omega
        have n2 : ((v : Int) + 1).toNat = v + 1 := by omega
        have g1 : (0 : Int) ≤ (u : Int) := by omega
        have g2 : (u : Int) + 1 ≤ 16 := by omega
        have g3 : (u : Int) ≤ (u : Int) + 1 := by omega
        have g4 : (0 : Int) ≤ (v : Int) := by omega
        have g5 : (v : Int) + 1 ≤ 16 := by omega
        have g6 : (v : Int) ≤ (v : Int) + 1 := by omega
        clear hu hv hS hS1 hS2 one oneE oneF sz1 sz2 bE1 bE2 hln hu16 hv16
        clear k127
        clear hc8 hlow2 hgood hd hq
        go_wp2_with fail
        go_quiet (fail)
        go_wp2_with fail
        exact ⟨⟨_, _, _, rfl, rfl, HP2, by rw [HS2.out]; omega, HS, Below.dn hb _⟩, by simp only [strLen]; rw [HS2.out]; exact hsz⟩
      have f127 : (((c : Nat) : Int) == 127) = false := by simp; omega
      by_cases k128 : c < 128
      · have hd2 := hlow2 k128
        have hc1 : (bl r).take d2 = [c] := by rw [hd2, ← HX1.out, bl_extract]; rfl
        by_cases kr : d1 = 65533
        · exact absurd (HD1.out k128) (by omega)
        have fr : (((d1 : Nat) : Int) == 65533) = false := by simp; omega
        obtain ⟨E, hE⟩ : ∃ E, r.extract 0 d2 = E := ⟨_, rfl⟩
        obtain ⟨S, hS⟩ : ∃ S, q ++ E = S := ⟨_, rfl⟩
        have hE1 : bl E = (bl r).take d2 := by rw [← hE]; exact HXd.out
        have hEq : bl E = qB x := by rw [hE1, hc1, HLow.out (by omega), if_neg (by omega), if_neg (by omega), if_neg (by omega), if_neg (by omega), if_neg (by omega)]
        have oneE : E.size ≤ 5 := by rw [← bl_len, hEq]; exact hgood
        have a1 := add_run' q E S hS (by omega)
        have HS : Hid (bl S = 34 :: qFlat (pre ++ [x])) := Lib.hid (HN.out S E hEq hS)
        clear hS hE1 hEq oneE
        clear hd2 hc1 kr
        clear hc8 hln hlow2 hgood hd hq
        go_wp2_with fail
        exact ⟨⟨_, _, _, rfl, rfl, HP2, by rw [HS2.out]; omega, HS, hb⟩, by simp only [strLen]; rw [HS2.out]; exact hsz⟩
      by_cases kr : d1 = 65533
      · have fr : (((d1 : Nat) : Int) == 65533) = true := by simp; omega
        by_cases kn : d2 = 1
        · have fn : (((d2 : Nat) : Int) == 1) = true := by simp; omega
          have HS0 : Hid (qB x = [92, 120, hx (c / 16), hx (c % 16)]) := Lib.hid (by rw [HHigh.out (by omega), if_pos ⟨kr, kn⟩])
          obtain ⟨u, hu⟩ : ∃ u, c / 16 = u := ⟨_, rfl⟩
          obtain ⟨v, hv⟩ : ∃ v, c % 16 = v := ⟨_, rfl⟩
          rw [hu, hv] at HS0
          have hu16 : u < 16 := by omega
          have hv16 : v < 16 := by omega
          obtain ⟨E1, hE1⟩ : ∃ E, (⟨#[48, 49, 50, 51, 52, 53, 54, 55, 56, 57, 97, 98, 99, 100, 101, 102]⟩ : ByteArray).extract u (u + 1) = E := ⟨_, rfl⟩
          obtain ⟨E2, hE2⟩ : ∃ E, (⟨#[48, 49, 50, 51, 52, 53, 54, 55, 56, 57, 97, 98, 99, 100, 101, 102]⟩ : ByteArray).extract v (v + 1) = E := ⟨_, rfl⟩
          have bE1 := hex_cut u hu16
          have bE2 := hex_cut v hv16
          rw [show hexS.extract u (u + 1) = E1 from hE1] at bE1
          rw [show hexS.extract v (v + 1) = E2 from hE2] at bE2
          obtain ⟨S1, hS1⟩ : ∃ S, q ++ (⟨#[92, 120]⟩ : ByteArray) = S := ⟨_, rfl⟩
          obtain ⟨S2, hS2⟩ : ∃ S, S1 ++ E1 = S := ⟨_, rfl⟩
          obtain ⟨S, hS⟩ : ∃ S, S2 ++ E2 = S := ⟨_, rfl⟩
          have one : (⟨#[92, 120]⟩ : ByteArray).size = 2 := rfl
          have oneE : E1.size = 1 := by rw [← bl_len, bE1]; rfl
          have oneF : E2.size = 1 := by rw [← bl_len, bE2]; rfl
          have sz1 : S1.size = q.size + 2 := by rw [← hS1, ← bl_len, bl_append, List.length_append, bl_len]; rfl
          have sz2 : S2.size = q.size + 3 := by rw [← hS2, ← bl_len, bl_append, List.length_append, bl_len, bl_len]; omega
          have a1 := add_run' q ⟨#[92, 120]⟩ S1 hS1 (by omega)
          have a2 := add_run' S1 E1 S2 hS2 (by omega)
          have a3 := add_run' S2 E2 S hS (by omega)
          have HS : Hid (bl S = 34 :: qFlat (pre ++ [x])) := Lib.hid (HN.out S (⟨#[92, 120]⟩ ++ (E1 ++ E2)) (by rw [HS0.out, bl_append, bl_append, bE1, bE2]; rfl) (by rw [← hS, ← hS2, ← hS1, ByteArray.append_assoc, ByteArray.append_assoc]))
          have t1 : (c : Int).tdiv 16 = (u : Int) := by rw [Int.tdiv_eq_ediv_of_nonneg (by omega)]; omega
          have t2 : (c : Int).tmod 16 = (v : Int) := by rw [Int.tmod_eq_emod_of_nonneg (by omega)]; omega
          have t3 : IntKind.u8.wrap (u : Int) = (u : Int) := u8_wrap u (by omega)
          have t4 : IntKind.u8.wrap (v : Int) = (v : Int) := u8_wrap v (by omega)
          have t5 : IntKind.u8.wrap ((u : Int) + 1) = (u : Int) + 1 := by have := u8_wrap (u + 1) (by omega); simpa using this
          have t6 : IntKind.u8.wrap ((v : Int) + 1) = (v : Int) + 1 := by have := u8_wrap (v + 1) (by omega); simpa using this
          have n1 : ((u : Int) + 1).toNat = u + 1 := by omega
          have n2 : ((v : Int) + 1).toNat = v + 1 := by omega
          have g1 : (0 : Int) ≤ (u : Int) := by omega
          have g2 : (u : Int) + 1 ≤ 16 := by omega
          have g3 : (u : Int) ≤ (u : Int) + 1 := by omega
          have g4 : (0 : Int) ≤ (v : Int) := by omega
          have g5 : (v : Int) + 1 ≤ 16 := by omega
          have g6 : (v : Int) ≤ (v : Int) + 1 := by omega
          clear hu hv hS hS1 hS2 one oneE oneF sz1 sz2 bE1 bE2 hln hu16 hv16
          clear kr kn
          clear hc8 hlow2 hgood hd hq
          go_wp2_with fail
          go_quiet (fail)
          go_wp2_with fail
          exact ⟨⟨_, _, _, rfl, rfl, HP2, by rw [HS2.out]; omega, HS, Below.dn hb _⟩, by simp only [strLen]; rw [HS2.out]; exact hsz⟩
        have fn : (((d2 : Nat) : Int) == 1) = false := by simp; omega
        obtain ⟨E, hE⟩ : ∃ E, r.extract 0 d2 = E := ⟨_, rfl⟩
        obtain ⟨S, hS⟩ : ∃ S, q ++ E = S := ⟨_, rfl⟩
        have hE1 : bl E = (bl r).take d2 := by rw [← hE]; exact HXd.out
        have hEq : bl E = qB x := by rw [hE1, HHigh.out (by omega), if_neg (by omega)]
        have oneE : E.size ≤ 5 := by rw [← bl_len, hEq]; exact hgood
        have a1 := add_run' q E S hS (by omega)
        have HS : Hid (bl S = 34 :: qFlat (pre ++ [x])) := Lib.hid (HN.out S E hEq hS)
        clear hS hE1 hEq oneE
        clear kr kn
        clear hc8 hln hlow2 hgood hd hq
        go_wp2_with fail
        exact ⟨⟨_, _, _, rfl, rfl, HP2, by rw [HS2.out]; omega, HS, hb⟩, by simp only [strLen]; rw [HS2.out]; exact hsz⟩
      have fr : (((d1 : Nat) : Int) == 65533) = false := by simp; omega
      obtain ⟨E, hE⟩ : ∃ E, r.extract 0 d2 = E := ⟨_, rfl⟩
      obtain ⟨S, hS⟩ : ∃ S, q ++ E = S := ⟨_, rfl⟩
      have hE1 : bl E = (bl r).take d2 := by rw [← hE]; exact HXd.out
      have hEq : bl E = qB x := by rw [hE1, HHigh.out (by omega), if_neg (by omega)]
      have oneE : E.size ≤ 5 := by rw [← bl_len, hEq]; exact hgood
      have a1 := add_run' q E S hS (by omega)
      have HS : Hid (bl S = 34 :: qFlat (pre ++ [x])) := Lib.hid (HN.out S E hEq hS)
      clear hS hE1 hEq oneE
      clear hc8 hln hlow2 hgood hd hq
      go_wp2_with fail
      exact ⟨⟨_, _, _, rfl, rfl, HP2, by rw [HS2.out]; omega, HS, hb⟩, by simp only [strLen]; rw [HS2.out]; exact hsz⟩
end Go.Proofs.Ytbhhakobkpdadaa
