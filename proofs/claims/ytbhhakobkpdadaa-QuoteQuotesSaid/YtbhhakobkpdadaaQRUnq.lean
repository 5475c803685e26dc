/- The document's Unquote. -/
import Derived.Test.YtbhhakobkpdadaaQRPiece
import Derived.Test.YtbhhakobkpdadaaQUnq2
namespace Go.Proofs.Ytbhhakobkpdadaa
open Go.RowKit Go.Shelf

theorem stepU_two {t l : List Nat} {m : Nat} (h : stepU (92 :: t) = some (l, m)) : 2 ≤ m := by
  cases t with
  | nil => rw [stepU_end] at h; cases h
  | cons k u =>
    cases he : escF k with
    | some b => rw [stepU_esc he] at h; injection h with h; injection h with _ h; omega
    | none =>
      cases hn : numB u (dcB k) with
      | none => rw [stepU_num he hn] at h; cases h
      | some x =>
        by_cases hk : k = 120
        · subst hk
          rw [stepU_x hn] at h; injection h with h; injection h with _ h; omega
        · cases hR : runeN x with
          | true => rw [stepU_rune he hk hn hR] at h; injection h with h; injection h with _ h; omega
          | false => rw [stepU_no he hk hn hR] at h; cases h
set_option maxRecDepth 100000 in
set_option maxHeartbeats 8000000 in
theorem rUnquote_off (s : ByteArray) (hs : s.size ≤ 100000) (hx : s.size < 2 ∨ (bl s).getD 0 0 ≠ (bl s).getD (s.size - 1) 0 ∨ ((bl s).getD 0 0 ≠ 96 ∧ (bl s).getD 0 0 ≠ 34)) (w : World) : Calls Try.prog 19 #[.string s] w (UnOut w (unqL (bl s))) := by
  by_cases h2 : s.size < 2
  · have HF : Hid (unqL (bl s) = none) := Lib.hid (by rw [unqL, if_pos (Or.inl (by rw [bl_len]; exact h2))])
    have d1 : decide ((s.size : Int) < 2) = true := decide_eq_true (by omega)
    have d2 : decide (s.size < 2) = true := decide_eq_true h2
    clear h2 hx
    go_enter Try.func19, Try.ntmps19
    go_wp2_with fail
    go_quiet (fail)
    go_wp2_with fail
    go_ret2
    rw [HF.out]
    exact bad_out (Below.dn (Below.refl _ _) _)
  · have hx2 := hx.resolve_left h2
    clear hx
    obtain ⟨q, hq⟩ : ∃ q, s.size - 1 = q := ⟨_, rfl⟩
    have hqs : q < s.size := by omega
    obtain ⟨a, ha⟩ : ∃ a, (bl s).getD 0 0 = a := ⟨_, rfl⟩
    obtain ⟨z, hz⟩ : ∃ z, (bl s).getD q 0 = z := ⟨_, rfl⟩
    have h00 : 0 < s.size := by omega
    have g0 : (s[0]'h00).toNat = a := by rw [bl_get, ha]
    have gq : (s[q]'hqs).toNat = z := by rw [bl_get, hz]
    have d1 : decide ((s.size : Int) < 2) = false := decide_eq_false (by omega)
    have d2 : decide (s.size < 2) = false := decide_eq_false (by omega)
    have hs0 : (0 : Int) < (s.size : Int) := by omega
    have hq0 : (0 : Int) ≤ (q : Int) := by omega
    have hq1 : (1 : Int) ≤ (q : Int) := by omega
    have hq2 : (q : Int) < (s.size : Int) := by omega
    have hq3 : (q : Int) ≤ (s.size : Int) := by omega
    have hwq : IntKind.i64.wrap ((s.size : Int) - 1) = (q : Int) := by rw [IntKind.wrap_i64]; omega
    have hlq : (bl s).length - 1 = q := by rw [bl_len, hq]
    rw [ha, hq, hz] at hx2
    by_cases haz : a = z
    · have hneq : ((a : Int) != (z : Int)) = false := by simp [haz]
      have hx3 : a ≠ 96 ∧ a ≠ 34 := hx2.resolve_left (fun h => h haz)
      have HF : Hid (unqL (bl s) = none) := Lib.hid (by rw [unqL, hlq, ha, hz, if_neg (by rw [bl_len]; omega), if_neg hx3.1, if_neg hx3.2])
      have f34 : ((a : Int) != 34) = true := by simp; omega
      have f96 : ((a : Int) != 96) = true := by simp; omega
      clear h2 ha hz hlq haz hq hx2 hx3
      go_enter Try.func19, Try.ntmps19
      go_wp2_with fail
      go_quiet (fail)
      go_wp2_with fail
      go_ret2
      rw [HF.out]
      exact bad_out (Below.dn (Below.refl _ _) _)
    · have hneq : ((a : Int) != (z : Int)) = true := by simp; omega
      have HF : Hid (unqL (bl s) = none) := Lib.hid (by rw [unqL, hlq, ha, hz, if_pos (Or.inr haz)])
      clear h2 ha hz hlq haz hq hx2
      go_enter Try.func19, Try.ntmps19
      go_wp2_with fail
      go_quiet (fail)
      go_wp2_with fail
      go_ret2
      rw [HF.out]
      exact bad_out (Below.dn (Below.refl _ _) _)
set_option maxRecDepth 100000 in
set_option maxHeartbeats 8000000 in
theorem rUnquote_raw (s : ByteArray) (hs : s.size ≤ 100000) (h2 : 2 ≤ s.size) (hx : (bl s).getD 0 0 = (bl s).getD (s.size - 1) 0) (hy : (bl s).getD 0 0 = 96) (w : World) : Calls Try.prog 19 #[.string s] w (UnOut w (unqL (bl s))) := by
  obtain ⟨q, hq⟩ : ∃ q, s.size - 1 = q := ⟨_, rfl⟩
  have hqs : q < s.size := by omega
  obtain ⟨a, ha⟩ : ∃ a, (bl s).getD 0 0 = a := ⟨_, rfl⟩
  obtain ⟨z, hz⟩ : ∃ z, (bl s).getD q 0 = z := ⟨_, rfl⟩
  have h00 : 0 < s.size := by omega
  have g0 : (s[0]'h00).toNat = a := by rw [bl_get, ha]
  have gq : (s[q]'hqs).toNat = z := by rw [bl_get, hz]
  have d1 : decide ((s.size : Int) < 2) = false := decide_eq_false (by omega)
  have d2 : decide (s.size < 2) = false := decide_eq_false (by omega)
  have hs0 : (0 : Int) < (s.size : Int) := by omega
  have hq0 : (0 : Int) ≤ (q : Int) := by omega
  have hq1 : (1 : Int) ≤ (q : Int) := by omega
  have hq2 : (q : Int) < (s.size : Int) := by omega
  have hq3 : (q : Int) ≤ (s.size : Int) := by omega
  have hwq : IntKind.i64.wrap ((s.size : Int) - 1) = (q : Int) := by rw [IntKind.wrap_i64]; omega
  have hlq : (bl s).length - 1 = q := by rw [bl_len, hq]
  have haz : a = z := by rw [← ha, ← hz, ← hq]; exact hx
  have ha96 : a = 96 := by rw [← ha]; exact hy
  have hneq : ((a : Int) != (z : Int)) = false := by simp [haz]
  have hI0 : unqL (bl s) = if a = 96 then (if 96 ∈ ((bl s).take q).drop 1 then none else some (((bl s).take q).drop 1)) else if a = 34 then unL (((bl s).take q).drop 1) else none := by
    rw [unqL, hlq, ha, hz, if_neg (by rw [bl_len]; omega)]
  obtain ⟨I, hI⟩ : ∃ I, s.extract 1 q = I := ⟨_, rfl⟩
  have hbI : bl I = ((bl s).take q).drop 1 := by rw [← hI, bl_extract]
  rw [← hbI] at hI0
  have hIs : I.size ≤ 100000 := by rw [← bl_len, hbI, List.length_drop, List.length_take, bl_len]; omega
  have HI0 : Hid (unqL (bl s) = if 96 ∈ bl I then none else some (bl I)) := Lib.hid (by rw [hI0, if_pos ha96])
  have f34 : ((a : Int) != 34) = true := by simp; omega
  have f96 : ((a : Int) != 96) = false := by simp; omega
  have e34 : ((a : Int) == 34) = false := by simp; omega
  have e96 : ((a : Int) == 96) = true := by simp; omega
  have HA := Lib.hid ha96
  clear h2 ha hz hlq haz hq hI0 hbI hx hy ha96
  go_enter Try.func19, Try.ntmps19
  go_wp2_with fail
  go_quiet (fail)
  go_wp2_with fail
  go_loopw [0, 5] (fun p o wr => ∃ (r O : ByteArray), p = .string r ∧ o = .string O ∧ Hid (bl I = bl O ++ bl r ∧ 96 ∉ bl O) ∧ O.size + r.size ≤ 100000 ∧ Below w.heap.size w wr) (fun p _ _ => strLen p)
  case atStart => exact ⟨I, _, rfl, rfl, Lib.hid ⟨rfl, by simp [bl]⟩, by have : (⟨#[]⟩ : ByteArray).size = 0 := rfl; omega, Below.dn (Below.refl _ _) _⟩
  case round =>
    obtain ⟨r, O, rfl, rfl, HU, hsz, hb⟩ := hrel
    cases hL : bl r with
    | nil =>
      have he : r = ByteArray.empty := bl_nil.2 hL
      subst he
      have HF : Hid (unqL (bl s) = some (bl O)) := Lib.hid (by
        have h := HU.out.1
        rw [hL, List.append_nil] at h
        rw [HI0.out, h, if_neg HU.out.2])
      clear hL hsz
      go_wp2_with fail
      go_ret2
      rw [HF.out]
      exact ⟨O, rfl, rfl, hb⟩
    | cons c t =>
      have hne := isEmpty_no hL
      obtain ⟨hc8, hln, h01, h0⟩ := first_byte hL
      have i0 : (0 : Int) < (r.size : Int) := by omega
      have i1 : (1 : Int) ≤ (r.size : Int) := by omega
      by_cases c96 : c = 96
      · have f1 : ((c : Int) == (a : Int)) = true := by simp; have := HA.out; omega
        have HF : Hid (unqL (bl s) = none) := Lib.hid (by
          rw [HI0.out, HU.out.1, hL, if_pos (by rw [c96]; simp)])
        clear hL hsz c96 hc8 hln
        go_wp2_with fail
        go_ret2
        rw [HF.out]
        exact bad_out hb
      · have f1 : ((c : Int) == (a : Int)) = false := by simp; have := HA.out; omega
        obtain ⟨E, hE⟩ : ∃ E, r.extract 0 1 = E := ⟨_, rfl⟩
        have hE1 : bl E = [c] := by rw [← hE, bl_extract, hL]; rfl
        obtain ⟨S, hS⟩ : ∃ S, O ++ E = S := ⟨_, rfl⟩
        have oneE : E.size = 1 := by rw [← bl_len, hE1]; rfl
        have szS : S.size = O.size + 1 := by rw [← hS, ← bl_len, bl_append, List.length_append, bl_len, bl_len, oneE]
        have blS : bl S = bl O ++ [c] := by rw [← hS, bl_append, hE1]
        have a1 := add_run' O E S hS (by omega)
        obtain ⟨r1, hr1⟩ : ∃ x, r.extract 1 r.size = x := ⟨_, rfl⟩
        have hb1 : bl r1 = t := by rw [drop_one hr1, hL]; rfl
        have sz1 : r1.size + 1 = r.size := by rw [← bl_len r1, hb1]; omega
        have HU2 : Hid (bl I = bl S ++ bl r1 ∧ 96 ∉ bl S) := Lib.hid ⟨by rw [HU.out.1, hL, blS, hb1, List.append_assoc]; rfl, by
          rw [blS]
          intro h
          rcases List.mem_append.1 h with h | h
          · exact HU.out.2 h
          · simp at h; omega⟩
        have hsz2 : S.size + r1.size ≤ 100000 := by omega
        have hsz3 : r1.size < r.size := by omega
        clear hL hsz c96 hc8 hln hE1 hS oneE szS blS hb1 sz1
        go_wp2_with fail
        exact ⟨⟨r1, S, rfl, rfl, HU2, hsz2, hb⟩, hsz3⟩
set_option maxRecDepth 100000 in
set_option maxHeartbeats 8000000 in
theorem rUnquote_esc (s : ByteArray) (hs : s.size ≤ 100000) (h2 : 2 ≤ s.size) (hx : (bl s).getD 0 0 = (bl s).getD (s.size - 1) 0) (hy : (bl s).getD 0 0 = 34) (w : World) : Calls Try.prog 19 #[.string s] w (UnOut w (unqL (bl s))) := by
  obtain ⟨q, hq⟩ : ∃ q, s.size - 1 = q := ⟨_, rfl⟩
  have hqs : q < s.size := by omega
  obtain ⟨a, ha⟩ : ∃ a, (bl s).getD 0 0 = a := ⟨_, rfl⟩
  obtain ⟨z, hz⟩ : ∃ z, (bl s).getD q 0 = z := ⟨_, rfl⟩
  have h00 : 0 < s.size := by omega
  have g0 : (s[0]'h00).toNat = a := by rw [bl_get, ha]
  have gq : (s[q]'hqs).toNat = z := by rw [bl_get, hz]
  have d1 : decide ((s.size : Int) < 2) = false := decide_eq_false (by omega)
  have d2 : decide (s.size < 2) = false := decide_eq_false (by omega)
  have hs0 : (0 : Int) < (s.size : Int) := by omega
  have hq0 : (0 : Int) ≤ (q : Int) := by omega
  have hq1 : (1 : Int) ≤ (q : Int) := by omega
  have hq2 : (q : Int) < (s.size : Int) := by omega
  have hq3 : (q : Int) ≤ (s.size : Int) := by omega
  have hwq : IntKind.i64.wrap ((s.size : Int) - 1) = (q : Int) := by rw [IntKind.wrap_i64]; omega
  have hlq : (bl s).length - 1 = q := by rw [bl_len, hq]
  have haz : a = z := by rw [← ha, ← hz, ← hq]; exact hx
  have ha34 : a = 34 := by rw [← ha]; exact hy
  have hneq : ((a : Int) != (z : Int)) = false := by simp [haz]
  have hI0 : unqL (bl s) = if a = 96 then (if 96 ∈ ((bl s).take q).drop 1 then none else some (((bl s).take q).drop 1)) else if a = 34 then unL (((bl s).take q).drop 1) else none := by
    rw [unqL, hlq, ha, hz, if_neg (by rw [bl_len]; omega)]
  obtain ⟨I, hI⟩ : ∃ I, s.extract 1 q = I := ⟨_, rfl⟩
  have hbI : bl I = ((bl s).take q).drop 1 := by rw [← hI, bl_extract]
  rw [← hbI] at hI0
  have hIs : I.size ≤ 100000 := by rw [← bl_len, hbI, List.length_drop, List.length_take, bl_len]; omega
  have HI0 : Hid (unqL (bl s) = unL (bl I)) := Lib.hid (by rw [hI0, if_neg (by omega), if_pos ha34])
  have f34 : ((a : Int) != 34) = false := by simp; omega
  have e34 : ((a : Int) == 34) = true := by simp; omega
  have e96 : ((a : Int) == 96) = false := by simp; omega
  have HA := Lib.hid ha34
  clear h2 ha hz hlq haz hq hI0 hbI hx hy ha34
  go_enter Try.func19, Try.ntmps19
  go_wp2_with fail
  go_quiet (fail)
  go_wp2_with fail
  go_loopw [0, 5] (fun p o wr => ∃ (r O : ByteArray), p = .string r ∧ o = .string O ∧ Hid (unL (bl I) = (unL (bl r)).map (bl O ++ ·)) ∧ O.size + 4 * r.size ≤ 400000 ∧ Below w.heap.size w wr) (fun p _ _ => strLen p)
  case atStart => exact ⟨I, _, rfl, rfl, Lib.hid (by cases unL (bl I) <;> simp [bl]), by have : (⟨#[]⟩ : ByteArray).size = 0 := rfl; omega, Below.dn (Below.refl _ _) _⟩
  case round =>
    obtain ⟨r, O, rfl, rfl, HU, hsz, hb⟩ := hrel
    cases hL : bl r with
    | nil =>
      have he : r = ByteArray.empty := bl_nil.2 hL
      subst he
      have HF : Hid (unqL (bl s) = some (bl O)) := Lib.hid (by
        have h := HU.out
        rw [hL, unL_nil] at h
        rw [HI0.out, h]; simp)
      clear hL hsz
      go_wp2_with fail
      go_ret2
      rw [HF.out]
      exact ⟨O, rfl, rfl, hb⟩
    | cons c t =>
      have hne := isEmpty_no hL
      obtain ⟨hc8, hln, h01, h0⟩ := first_byte hL
      have hnn : bl r ≠ [] := by rw [hL]; simp
      have i0 : (0 : Int) < (r.size : Int) := by omega
      have i1 : (1 : Int) ≤ (r.size : Int) := by omega
      have HNo : Hid (stepU (bl r) = none → unqL (bl s) = none) := Lib.hid (fun h => by rw [HI0.out, HU.out, unL_none (bl_byt r) hnn h]; rfl)
      have HYes : Hid (∀ l m, stepU (bl r) = some (l, m) → unL (bl I) = (unL ((bl r).drop m)).map ((bl O ++ l) ++ ·)) := Lib.hid (fun l m h => by
        rw [HU.out, unL_some (bl_byt r) hnn h]
        cases unL ((bl r).drop m) <;> simp)
      by_cases c34 : c = 34
      · have f1 : ((c : Int) == (a : Int)) = true := by simp; have := HA.out; omega
        have HF : Hid (unqL (bl s) = none) := Lib.hid (HNo.out (by rw [hL]; exact stepU_bad (.inl c34)))
        clear hL hsz c34 hc8 hln hnn
        go_wp2_with fail
        go_ret2
        rw [HF.out]
        exact bad_out hb
      · have f1 : ((c : Int) == (a : Int)) = false := by simp; have := HA.out; omega
        by_cases c10 : c = 10
        · have f2 : ((c : Int) == 10) = true := by simp; omega
          have HF : Hid (unqL (bl s) = none) := Lib.hid (HNo.out (by rw [hL]; exact stepU_bad (.inr c10)))
          clear hL hsz c34 c10 hc8 hln hnn
          go_wp2_with fail
          go_ret2
          rw [HF.out]
          exact bad_out hb
        · have f2 : ((c : Int) == 10) = false := by simp; omega
          by_cases c92 : c = 92
          · have f3 : ((c : Int) != 92) = false := by simp; omega
            obtain ⟨r1, hr1⟩ : ∃ x, r.extract 1 r.size = x := ⟨_, rfl⟩
            have hb1 : bl r1 = t := by rw [drop_one hr1, hL]; rfl
            have sz1 : r1.size ≤ 1000000 := by rw [← bl_len r1, hb1]; omega
            have HPc := Lib.hid (fun w => rPiece_any r1 sz1 w)
            have hst : stepU (92 :: bl r1) = stepU (bl r) := by rw [hb1, hL, c92]
            rw [hst] at HPc
            have HB := Lib.hid hb
            cases ho : stepU (bl r) with
            | none =>
              rw [ho] at HPc
              have HF : Hid (unqL (bl s) = none) := Lib.hid (HNo.out ho)
              clear hL hsz c34 c10 c92 hc8 hln hnn hb1 sz1 hst ho hb
              go_wp2_with fail
              with_reducible refine (HPc.out _).mono ?_
              rintro e w2 ⟨T, rfl, hT, b2⟩
              have hb := next HB.out b2
              clear b2
              go_wp2_with fail
              go_ret2
              rw [HF.out]
              exact bad_out hb
            | some lm =>
              obtain ⟨l, m⟩ := lm
              rw [ho] at HPc
              have hm2 : 2 ≤ m := by rw [hL, c92] at ho; exact stepU_two ho
              obtain ⟨_, hml, hlm, _⟩ := stepU_size (bl_byt r) ho
              rw [bl_len] at hml
              obtain ⟨n, hn⟩ : ∃ n, m - 1 = n := ⟨_, rfl⟩
              have hm1 : m = n + 1 := by omega
              have HPc2 : Hid (∀ w, Calls Try.prog 33 #[.string r1] w fun e w' => ∃ S, e = .returned (.tuple #[.string S, .int .i64 (n : Int)]) ∧ bl S = l ∧ Below w.heap.size w w') := Lib.hid (fun w => by
                refine (HPc.out w).mono ?_
                rintro e w' ⟨S, rfl, hS, b⟩
                exact ⟨S, by rw [show pcN (some (l, m)) = n from hn], hS, b⟩)
              have f4 : ((n : Int) == 0) = false := by simp; omega
              have w1 : IntKind.i64.wrap (1 + (n : Int)) = 1 + (n : Int) := by rw [IntKind.wrap_i64]; omega
              have n1 : (1 + (n : Int)).toNat = m := by omega
              have k0 : (0 : Int) ≤ 1 + (n : Int) := by omega
              have k1 : 1 + (n : Int) ≤ (r.size : Int) := by omega
              obtain ⟨r2, hr2⟩ : ∃ x, r.extract m r.size = x := ⟨_, rfl⟩
              have hb2 : bl r2 = (bl r).drop m := drop_n hr2
              have HU2 : Hid (∀ T, bl T = l → ∀ S, O ++ T = S → unL (bl I) = (unL (bl r2)).map (bl S ++ ·)) := Lib.hid (fun T hT S hS => by
                rw [HYes.out l m ho, hb2, ← hS, bl_append, hT])
              have hsz3 : r2.size < r.size := by rw [← bl_len r2, hb2, List.length_drop, bl_len]; omega
              have hsz2 : O.size + l.length + 4 * r2.size ≤ 400000 := by rw [← bl_len r2, hb2, List.length_drop, bl_len]; omega
              have hl4 : l.length ≤ 400000 := by omega
              have hO4 : O.size ≤ 400000 := by omega
              clear hL hsz c34 c10 c92 hc8 hln hnn hb1 sz1 hst ho hb HPc hml hlm hn hm1 hb2 hm2
              go_wp2_with fail
              with_reducible refine (HPc2.out _).mono ?_
              rintro e w2 ⟨T, rfl, hT, b2⟩
              have hb := next HB.out b2
              have hTs : T.size = l.length := by rw [← bl_len, hT]
              obtain ⟨S, hS⟩ : ∃ S, O ++ T = S := ⟨_, rfl⟩
              have a1 := add_run' O T S hS (by omega)
              have HU3 := Lib.hid (HU2.out T hT S hS)
              have hsz4 : S.size + 4 * r2.size ≤ 400000 := by
                have : S.size = O.size + T.size := by rw [← hS, ← bl_len, bl_append, List.length_append, bl_len, bl_len]
                omega
              clear b2 hTs hS hT hl4 hO4 hsz2 HPc2
              go_wp2_with fail
              exact ⟨⟨r2, S, rfl, rfl, HU3, hsz4, hb⟩, hsz3⟩
          · have f3 : ((c : Int) != 92) = true := by simp; omega
            obtain ⟨E, hE⟩ : ∃ E, r.extract 0 1 = E := ⟨_, rfl⟩
            have hE1 : bl E = [c] := by rw [← hE, bl_extract, hL]; rfl
            obtain ⟨S, hS⟩ : ∃ S, O ++ E = S := ⟨_, rfl⟩
            have oneE : E.size = 1 := by rw [← bl_len, hE1]; rfl
            have szS : S.size = O.size + 1 := by rw [← hS, ← bl_len, bl_append, List.length_append, bl_len, bl_len, oneE]
            have blS : bl S = bl O ++ [c] := by rw [← hS, bl_append, hE1]
            have a1 := add_run' O E S hS (by omega)
            obtain ⟨r1, hr1⟩ : ∃ x, r.extract 1 r.size = x := ⟨_, rfl⟩
            have hb1 : bl r1 = t := by rw [drop_one hr1, hL]; rfl
            have sz1 : r1.size + 1 = r.size := by rw [← bl_len r1, hb1]; omega
            have HU2 : Hid (unL (bl I) = (unL (bl r1)).map (bl S ++ ·)) := Lib.hid (by
              have h := HYes.out [c] 1 (by rw [hL]; exact stepU_one (by omega) c92)
              rw [h, blS, hb1, hL]; rfl)
            have hsz2 : S.size + 4 * r1.size ≤ 400000 := by omega
            have hsz3 : r1.size < r.size := by omega
            clear hL hsz c34 c10 c92 hc8 hln hE1 hS oneE szS blS hb1 sz1 hnn
            go_wp2_with fail
            exact ⟨⟨r1, S, rfl, rfl, HU2, hsz2, hb⟩, hsz3⟩
theorem rUnquote_any (s : ByteArray) (hs : s.size ≤ 100000) (w : World) : Calls Try.prog 19 #[.string s] w (UnOut w (unqL (bl s))) := by
  by_cases h2 : 2 ≤ s.size
  · by_cases hx : (bl s).getD 0 0 = (bl s).getD (s.size - 1) 0
    · by_cases h96 : (bl s).getD 0 0 = 96
      · exact rUnquote_raw s hs h2 hx h96 w
      · by_cases h34 : (bl s).getD 0 0 = 34
        · exact rUnquote_esc s hs h2 hx h34 w
        · exact rUnquote_off s hs (.inr (.inr ⟨h96, h34⟩)) w
    · exact rUnquote_off s hs (.inr (.inl hx)) w
  · exact rUnquote_off s hs (.inl (by omega)) w
end Go.Proofs.Ytbhhakobkpdadaa
