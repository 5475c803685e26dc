/- QuoteWhole, walked. -/
import Derived.Test.YtbhhakobkpdadaaQBack
namespace Go.Proofs.Ytbhhakobkpdadaa
open Go.RowKit Go.Shelf

theorem encs_parts (l : List Int) : (parts (l.flatMap enc)).length = l.length := by
  have e : l.flatMap enc = (l.map runeOf).flatMap encN := by
    induction l with
    | nil => rfl
    | cons x t ih => rw [List.flatMap_cons, List.map_cons, List.flatMap_cons, ih]; rfl
  rw [e, parts_encs _ (fun v hv => by
    obtain ⟨x, _, rfl⟩ := List.mem_map.1 hv
    exact (runeOf_le x).2)]
  simp
theorem enc_len (x : Int) : 1 ≤ (enc x).length ∧ (enc x).length ≤ 4 := encN_len _
theorem dec_of_enc (x : Int) : dec (enc x) = (runeOf x, (enc x).length) := by
  have := dec_enc (runeOf_le x).2 []
  rwa [List.append_nil] at this
theorem encs_len (l : List Int) : (l.flatMap enc).length ≤ 4 * l.length := by
  induction l with
  | nil => simp
  | cons x t ih =>
    have := (enc_len x).2
    rw [List.flatMap_cons, List.length_append, List.length_cons]
    omega
theorem own_form {w : World} {B n : Nat} {e : TypeId} {v : Value} {xs : List Value} (h : w.ownsRow B e 1 v n xs) : ∃ A c, v = .slice A n c := by
  rcases h.2 with ⟨rfl, rfl⟩ | ⟨g, cap, cur, rfl, _⟩
  · exact ⟨_, _, rfl⟩
  · exact ⟨_, _, rfl⟩
/-- How many runes. -/
theorem Runes_len (s : ByteArray) (hs : s.size ≤ 1000000) (m : Nat) (hm : (parts (bl s)).length = m) (w : World) :
    Calls Try.prog 13 #[.string s] w fun e W' => ∃ A c, e = .returned (.slice A m c) ∧ Below w.heap.size w W' := by
  refine (Runes_any s hs w).mono ?_
  rintro e w' ⟨v, rfl, o, b⟩
  obtain ⟨A, c, rfl⟩ := own_form o
  rw [hm]
  exact ⟨A, c, rfl, b⟩

set_option maxRecDepth 100000 in
set_option maxHeartbeats 8000000 in
theorem QuoteWhole_in (A : Option Addr) (l : List Int) (c : Nat) (s0 : ByteArray) (w : World) (hr : Row w w.heap.size A l.length (ints .i32 l)) (hs9 : s0.size ≤ 140737488351232) (hl9 : l.length ≤ 140737488351232) :
    Calls Try.prog 6 #[.slice A l.length c, .string s0] w (YesOut w true) := by
  obtain ⟨n, hn⟩ : ∃ n, l.length = n := ⟨_, rfl⟩
  rw [hn] at hr hl9 ⊢
  have HLn := Lib.hid hn
  clear hn
  obtain ⟨p, hp⟩ : ∃ p, min n 300 = p := ⟨_, rfl⟩
  have hpn : p ≤ n := by omega
  have hp3 : p ≤ 300 := by omega
  have i0 : min (n : Int) 300 = (p : Int) := by omega
  have HPm := Lib.hid hp
  obtain ⟨p0, hp0⟩ : ∃ p, min s0.size 1000 = p := ⟨_, rfl⟩
  have i1 : min (s0.size : Int) 1000 = (p0 : Int) := by omega
  have j0 : (p0 : Int) ≤ (s0.size : Int) := by omega
  have k0 : (0 : Int) ≤ (p0 : Int) := by omega
  obtain ⟨s, hs⟩ : ∃ x, s0.extract 0 p0 = x := ⟨_, rfl⟩
  have hss : s.size ≤ 1000 := by
    rw [← hs, ← bl_len, bl_extract]
    simp only [List.drop_zero, List.length_take]; omega
  have HW := Lib.hid (fun w => works_true w)
  have HR := Lib.hid hr
  clear hp0 hp hr
  go_enter Try.func6, Try.ntmps6
  go_wp2_with fail
  with_reducible refine (HW.out _).mono ?_
  rintro e w1 ⟨rfl, b1⟩
  have HR1 := Lib.hid (HR.out.on b1)
  clear HR HW
  go_wp2_with fail
  go_loopw [5, 6] (fun t i wr => ∃ (k : Nat) (T : ByteArray), k ≤ p ∧ i = .int .i64 k ∧ t = .string T ∧ Hid (bl T = (l.take k).flatMap enc) ∧ Hid (Row wr wr.heap.size A n (ints .i32 l)) ∧ Below w.heap.size w wr) (fun _ i _ => p - (intOf i).toNat)
  case atStart => exact ⟨0, ⟨#[]⟩, by omega, rfl, rfl, Lib.hid rfl, HR1, b1⟩
  case round =>
    clear b1
    obtain ⟨k, T, hk, rfl, rfl, HT, HR2, hb⟩ := hrel
    rename World => wr
    have hTs : T.size ≤ 4 * 300 := by
      rw [← bl_len, HT.out]
      refine Nat.le_trans (encs_len _) ?_
      rw [List.length_take]; omega
    by_cases hlt : k < p
    · have hkn : k < n := by omega
      have d1 : decide ((k : Int) < (n : Int)) = true := decide_eq_true (by omega)
      have d1' : decide (k < n) = true := decide_eq_true hkn
      have d2 : decide ((k : Int) < 300) = true := decide_eq_true (by omega)
      have hk0 : (0 : Int) ≤ (k : Int) := by omega
      have hk1 : (k : Int) < (n : Int) := by omega
      obtain ⟨g, off, hA, hgb, -⟩ := HR2.out.2 (by omega)
      subst hA
      obtain ⟨x, hx⟩ : ∃ x, l.getD k 0 = x := ⟨_, rfl⟩
      have hcell := (HR2.out.cell hkn).trans (ints_get .i32 l k (by rw [HLn.out]; exact hkn))
      rw [hx] at hcell
      have htk : l.take (k + 1) = l.take k ++ [x] := by
        rw [List.take_add_one, List.getElem?_eq_getElem (by rw [HLn.out]; exact hkn), ← hx, List.getD_eq_getElem?_getD, List.getElem?_eq_getElem (by rw [HLn.out]; exact hkn)]
        rfl
      have HTk := Lib.hid htk
      have HE := Lib.hid (fun w => Encode_any x w)
      have hlen := enc_len x
      obtain ⟨m, hm⟩ : ∃ m, (enc x).length = m := ⟨_, rfl⟩
      rw [hm] at hlen
      have hdx := dec_of_enc x
      rw [hm] at hdx
      have f1 : decide ((m : Int) < 1) = false := decide_eq_false (by omega)
      have f2 : decide ((4 : Int) < (m : Int)) = false := decide_eq_false (by omega)
      have hkk : (k : Int) + 1 ≤ 300 := by omega
      have hcases : (((runeOf x : Nat) : Int) = x) ∨ (runeOf x = 65533 ∧ x ≠ 65533 ∧ (x < 0 ∨ (0 ≤ x ∧ 1114111 < x) ∨ (0 ≤ x ∧ x ≤ 1114111 ∧ 55296 ≤ x ∧ x ≤ 57343))) := by
        unfold runeOf
        by_cases h : isR x = true
        · rw [if_pos h]
          have := (of_decide_eq_true h).1
          exact .inl (by omega)
        · rw [if_neg h]
          have h2 : ¬ (0 ≤ x ∧ x ≤ 1114111 ∧ (x < 55296 ∨ 57343 < x)) := fun e => h (decide_eq_true e)
          exact .inr ⟨rfl, by omega, by omega⟩
      obtain ⟨v, hv⟩ : ∃ v, runeOf x = v := ⟨_, rfl⟩
      rw [hv] at hcases hdx
      have HB := Lib.hid hb
      have HDx := Lib.hid hdx
      have HM := Lib.hid hm
      clear hx htk hm hdx hv hb
      go_wp2_with fail
      with_reducible refine (HE.out _).mono ?_
      rintro e w2 ⟨bb, rfl, hbb, b2⟩
      have hcell2 := (b2.cell (p := ⟨g, off + k, none⟩) hgb).trans hcell
      have HR3 := Lib.hid (HR2.out.on b2)
      have hgb2 : g < w2.heap.size := Nat.lt_of_lt_of_le hgb b2.size
      have HB2 := Lib.hid (next HB.out b2)
      have hbz : bb.size = m := by rw [← bl_len, hbb, HM.out]
      have HBb := Lib.hid hbb
      have HD : Hid (∀ w, Calls Try.prog 10 #[.string bb] w (DecOut w (v, m))) := Lib.hid (fun w => by
        have := Decode_any bb (by omega) w
        rwa [hbb, HDx.out] at this)
      clear hcell b2 hbb HE HB HR2 hgb
      go_wp2_with fail
      with_reducible refine (HD.out _).mono ?_
      rintro e w3 ⟨rfl, b3⟩
      have hcell := (b3.cell (p := ⟨g, off + k, none⟩) hgb2).trans hcell2
      have HR4 := Lib.hid (HR3.out.on b3)
      have HB3 := Lib.hid (next HB2.out b3)
      obtain ⟨S, hS⟩ : ∃ S, T ++ bb = S := ⟨_, rfl⟩
      have hadd := add_run T bb S hS (by omega)
      have HF : Hid (bl S = (l.take (k + 1)).flatMap enc) := Lib.hid (by
        rw [← hS, bl_append, HT.out, HBb.out, HTk.out, List.flatMap_append]
        simp)
      clear hcell2 b3 HD HR3 HB2 hS
      rcases hcases with q | ⟨q1, q2, q | ⟨q3, q4⟩ | ⟨q3, q4, q5, q6⟩⟩
      · have f3 : ((v : Int) != x) = false := by simp [q]
        clear q
        go_wp2_with fail
        exact ⟨⟨k + 1, S, by omega, by go_num, rfl, HF, HR4, HB3.out⟩, by simp [intOf]; omega⟩
      · have f3 : ((v : Int) != x) = true := by simp; omega
        have f4 : ((v : Int) != 65533) = false := by simp; omega
        have g1 : decide ((0 : Int) ≤ x) = false := decide_eq_false (by omega)
        clear q q1 q2
        go_wp2_with fail
        all_goals first
          | (rename_i h9 _; cases h9; done)
          | exact ⟨⟨k + 1, S, by omega, by go_num, rfl, HF, HR4, HB3.out⟩, by simp [intOf]; omega⟩
      · have f3 : ((v : Int) != x) = true := by simp; omega
        have f4 : ((v : Int) != 65533) = false := by simp; omega
        have g1 : decide ((0 : Int) ≤ x) = true := decide_eq_true (by omega)
        have g2 : decide (x ≤ 1114111) = false := decide_eq_false (by omega)
        clear q1 q2 q3 q4
        go_wp2_with fail
        all_goals first
          | (rename_i h9 _; cases h9; done)
          | exact ⟨⟨k + 1, S, by omega, by go_num, rfl, HF, HR4, HB3.out⟩, by simp [intOf]; omega⟩
      · have f3 : ((v : Int) != x) = true := by simp; omega
        have f4 : ((v : Int) != 65533) = false := by simp; omega
        have g1 : decide ((0 : Int) ≤ x) = true := decide_eq_true (by omega)
        have g2 : decide (x ≤ 1114111) = true := decide_eq_true (by omega)
        have g3 : decide (x < 55296) = false := decide_eq_false (by omega)
        have g4 : decide ((57343 : Int) < x) = false := decide_eq_false (by omega)
        clear q1 q2 q3 q4 q5 q6
        go_wp2_with fail
        all_goals first
          | (rename_i h9 _; cases h9; done)
          | exact ⟨⟨k + 1, S, by omega, by go_num, rfl, HF, HR4, HB3.out⟩, by simp [intOf]; omega⟩
    · have hkp : k = p := by omega
      subst hkp
      have HRn := Lib.hid (fun w => Runes_len T (by omega) k (by
        rw [HT.out, encs_parts, List.length_take, HLn.out]
        omega) w)
      have hst : (decide ((k : Int) < (n : Int)) = false ∧ decide (k < n) = false) ∨ (decide ((k : Int) < (n : Int)) = true ∧ decide (k < n) = true ∧ decide ((k : Int) < 300) = false) := by
        rcases Nat.lt_or_ge k n with h | h
        · exact .inr ⟨decide_eq_true (by omega), decide_eq_true h, decide_eq_false (by have := HPm.out; omega)⟩
        · exact .inl ⟨decide_eq_false (by omega), decide_eq_false (by omega)⟩
      have HTail : Hid (∀ w3 : World, Below w.heap.size w w3 → True) := Lib.hid (fun _ _ => trivial)
      clear HT HR2 hlt hk hpn hTs
      have hst2 : ∃ t1 t2 t3 : Bool, decide ((k : Int) < (n : Int)) = t1 ∧ decide (k < n) = t2 ∧ decide ((k : Int) < 300) = t3 ∧ ((t1 = false ∧ t2 = false) ∨ (t1 = true ∧ t2 = true ∧ t3 = false)) := by
        rcases hst with ⟨q1, q2⟩ | ⟨q1, q2, q3⟩
        · exact ⟨_, _, _, q1, q2, rfl, .inl ⟨rfl, rfl⟩⟩
        · exact ⟨_, _, _, q1, q2, q3, .inr ⟨rfl, rfl, rfl⟩⟩
      obtain ⟨t1, t2, t3, q1, q2, q3, ht⟩ := hst2
      clear hst
      rcases ht with ⟨rfl, rfl⟩ | ⟨rfl, rfl, rfl⟩
      all_goals
        go_wp2_with fail
        with_reducible refine (HRn.out _).mono ?_
        rintro e w4 ⟨A4, c4, rfl, b4⟩
        have hb4 := next hb b4
        clear hb b4 HRn q1 q2 q3
        go_wp2_with fail
        go_loopw [11, 12, 13] (fun o m v wr => ∃ (O r : ByteArray) (N : Nat), o = .string O ∧ m = .int .i64 N ∧ v = .string r ∧ Hid (bl O ++ bl r = bl s ∧ N + (parts (bl r)).length = (parts (bl s)).length) ∧ Below w.heap.size w wr) (fun _ _ v _ => strLen v)
        case atStart => exact ⟨⟨#[]⟩, s, 0, rfl, rfl, rfl, Lib.hid ⟨rfl, by simp⟩, hb4⟩
        case round =>
          clear hb4
          obtain ⟨O, r, N, rfl, rfl, rfl, HX, hb⟩ := hrel
          rename World => wr
          have hpl := parts_len (bl s)
          rw [bl_len] at hpl
          have hsum : O.size + r.size = s.size := by
            have := congrArg List.length HX.out.1
            rw [List.length_append, bl_len, bl_len, bl_len] at this
            exact this
          cases hL : bl r with
          | nil =>
            have he : r = ByteArray.empty := bl_nil.2 hL
            subst he
            have hO : O = s := bl_inj (by have := HX.out.1; rw [hL, List.append_nil] at this; exact this)
            subst hO
            have hN : (parts (bl O)).length = N := by have := HX.out.2; rw [hL, parts_nil] at this; simpa using this.symm
            have HRn := Lib.hid (fun w => Runes_len O (by omega) N hN w)
            clear hL hN hpl hsum HX
            go_wp2_with fail
            with_reducible refine (HRn.out _).mono ?_
            rintro e w5 ⟨A5, c5, rfl, b5⟩
            have hb5 := next hb b5
            go_wp2_with fail
            go_ret
            exact ⟨rfl, hb5⟩
          | cons c t =>
            obtain ⟨hc8, hln, h00, h0⟩ := first_byte hL
            have hne := isEmpty_no hL
            have hs0 : (0 : Int) < (r.size : Int) := by omega
            have hs1 : (1 : Int) ≤ (r.size : Int) := by omega
            have hnn : bl r ≠ [] := by rw [hL]; simp
            have hd := dec_size hnn
            rw [bl_len] at hd
            have hp := parts_cons hnn
            have HD := Lib.hid (fun w => Decode_any r (by omega) w)
            obtain ⟨d2, h2⟩ : ∃ d, (dec (bl r)).2 = d := ⟨_, rfl⟩
            obtain ⟨d1, h1⟩ : ∃ d, (dec (bl r)).1 = d := ⟨_, rfl⟩
            have HD' : Hid (∀ w, Calls Try.prog 10 #[.string r] w (DecOut w (d1, d2))) := Lib.hid (fun w => by have := HD.out w; rw [← h1, ← h2]; exact this)
            rw [h2] at hd hp
            rw [h1] at hp
            obtain ⟨r1, hr1⟩ : ∃ x, r.extract d2 r.size = x := ⟨_, rfl⟩
            have hb1 : bl r1 = (bl r).drop d2 := drop_n hr1
            have hsz1 : r1.size < r.size := by
              have := bl_len r1
              rw [hb1, List.length_drop, bl_len] at this
              omega
            have HN : Hid (∀ S : ByteArray, bl S = bl O ++ (bl r).take d2 → bl S ++ bl r1 = bl s ∧ (N + 1) + (parts (bl r1)).length = (parts (bl s)).length) := Lib.hid (fun S hS => by
              refine ⟨by rw [hS, hb1, List.append_assoc, List.take_append_drop]; exact HX.out.1, ?_⟩
              have := HX.out.2
              rw [hp, List.length_cons] at this
              rw [hb1]; omega)
            have f1 : decide ((d2 : Int) < 1) = false := decide_eq_false (by omega)
            have f2 : decide (r.size < d2) = false := decide_eq_false (by omega)
            have f2' : decide ((r.size : Int) < (d2 : Int)) = false := decide_eq_false (by omega)
            have e1 : (0 : Int) ≤ (d2 : Int) := by omega
            have e2 : (d2 : Int) ≤ (r.size : Int) := by omega
            have hN9 : (N : Int) + 1 ≤ 2000 := by have := HX.out.2; have h9 := hp; rw [h9] at this; simp only [List.length_cons] at this; omega
            have hN0 : (0 : Int) ≤ (N : Int) := by omega
            have hdc := dec_cases (c := c) (t := t)
            rw [← hL] at hdc
            clear HD
            rcases hdc with ⟨v, hv, htk, hdv⟩ | ⟨hdv, hc2⟩
            · rw [hdv] at h1 h2
              simp only at h1 h2
              subst h1
              have HEn : Hid (∀ w, Calls Try.prog 15 #[.int .i32 (v : Int)] w (StrOut w (encN v))) := Lib.hid (fun w => by
                have := Encode_any (v : Int) w
                rwa [enc_rune hv] at this)
              rw [h2] at htk
              have HTk : Hid (encN v = (bl r).take d2) := Lib.hid htk.symm
              have hln4 := encN_len v
              rw [h2] at hln4
              have hOs : O.size ≤ 1000 := by omega
              by_cases q : v < 128
              · have hd21 : d2 = 1 := by rw [← h2, encN, if_pos q]; rfl
                have hcv : c = v := by
                  rw [hd21, hL, encN, if_pos q] at htk
                  simpa using htk
                have g1 : ((d2 : Int) == 1) = true := by simp; omega
                have g2 : decide ((128 : Int) ≤ (c : Int)) = false := decide_eq_false (by omega)
                have g3 : decide ((1 : Int) < (d2 : Int)) = false := decide_eq_false (by omega)
                have g4 : decide ((c : Int) < 128) = true := decide_eq_true (by omega)
                clear hL hnn hd hp hb1 hdv htk h2 hcv q hd21 hsum hpl hln hc8 hv
                go_wp2_with fail
                with_reducible refine (HD'.out _).mono ?_
                rintro e w5 ⟨rfl, b5⟩
                have hb5 := next hb b5
                clear b5
                go_wp2_with fail
                with_reducible refine (HEn.out _).mono ?_
                rintro e w6 ⟨T6, rfl, hT6, b6⟩
                have hb6 := next hb5 b6
                have hT6s : T6.size ≤ 4 := by rw [← bl_len, hT6, HTk.out, List.length_take]; omega
                obtain ⟨S, hS⟩ : ∃ S, O ++ T6 = S := ⟨_, rfl⟩
                have hadd := add_run O T6 S hS (by omega)
                have HS := Lib.hid (HN.out S (by rw [← hS, bl_append, hT6, HTk.out]))
                clear hb5 b6 hT6 hT6s hS HEn HD'
                go_wp2_with fail
                exact ⟨⟨S, r1, N + 1, rfl, by go_num, rfl, HS, hb6⟩, hsz1⟩
              · have hd22 : 2 ≤ d2 := by
                  rw [← h2, encN, if_neg q]
                  repeat' split
                  all_goals simp
                have g1 : ((d2 : Int) == 1) = false := by simp; omega
                have g3 : decide ((1 : Int) < (d2 : Int)) = true := decide_eq_true (by omega)
                clear hL hnn hd hp hb1 hdv htk h2 q hd22 hsum hpl hln hc8 hv
                go_wp2_with fail
                with_reducible refine (HD'.out _).mono ?_
                rintro e w5 ⟨rfl, b5⟩
                have hb5 := next hb b5
                clear b5
                go_wp2_with fail
                all_goals try (rename_i h9 _; cases h9; done)
                with_reducible refine (HEn.out _).mono ?_
                rintro e w6 ⟨T6, rfl, hT6, b6⟩
                have hb6 := next hb5 b6
                have hT6s : T6.size ≤ 4 := by rw [← bl_len, hT6, HTk.out, List.length_take]; omega
                obtain ⟨S, hS⟩ : ∃ S, O ++ T6 = S := ⟨_, rfl⟩
                have hadd := add_run O T6 S hS (by omega)
                have HS := Lib.hid (HN.out S (by rw [← hS, bl_append, hT6, HTk.out]))
                clear hb5 b6 hT6 hT6s hS HEn HD'
                go_wp2_with fail
                exact ⟨⟨S, r1, N + 1, rfl, by go_num, rfl, HS, hb6⟩, hsz1⟩
            · rw [hdv] at h1 h2
              simp only at h1 h2
              have hd21 : d2 = 1 := h2.symm
              have hd165 : d1 = 65533 := h1.symm
              obtain ⟨X, hX⟩ : ∃ X, r.extract 0 1 = X := ⟨_, rfl⟩
              have hbX : bl X = (bl r).take d2 := by rw [← hX, bl_extract, hd21]; rfl
              have hXs : X.size ≤ 1 := by rw [← bl_len, hbX, List.length_take]; omega
              obtain ⟨S, hS⟩ : ∃ S, O ++ X = S := ⟨_, rfl⟩
              have hadd := add_run O X S hS (by omega)
              have HS := Lib.hid (HN.out S (by rw [← hS, bl_append, hbX]))
              have g1 : ((d2 : Int) == 1) = true := by simp; omega
              have g2 : decide ((128 : Int) ≤ (c : Int)) = true := decide_eq_true (by omega)
              have g5 : ((d1 : Int) != 65533) = false := by simp; omega
              have g3 : decide ((1 : Int) < (d2 : Int)) = false := decide_eq_false (by omega)
              have g4 : decide ((c : Int) < 128) = false := decide_eq_false (by omega)
              clear hL hnn hd hp hb1 hdv h1 h2 hd21 hd165 hsum hpl hln hc8 hc2 hbX hXs hS
              go_wp2_with fail
              with_reducible refine (HD'.out _).mono ?_
              rintro e w5 ⟨rfl, b5⟩
              have hb5 := next hb b5
              clear b5 HD'
              go_wp2_with fail
              exact ⟨⟨S, r1, N + 1, rfl, by go_num, rfl, HS, hb5⟩, hsz1⟩
theorem QuoteWhole_walk (A : Option Addr) (l : List Int) (c : Nat) (s : ByteArray) (w : World) (hr : Row w w.heap.size A l.length (ints .i32 l)) (hc : l.length ≤ c) (hs : c * 4 ≤ 140737488351232) (hw : ∀ x ∈ l, (Lit.int .i32 x).wf = true) (hs9 : s.size ≤ 140737488351232) :
    Calls Try.prog 6 #[.slice A l.length c, .string s] w fun e w' => e = .returned (.bool true) ∧ Below w.heap.size w w' := QuoteWhole_in A l c s w hr hs9 (by omega)
end Go.Proofs.Ytbhhakobkpdadaa
