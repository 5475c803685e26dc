/- unescape. -/
import Derived.Test.YtbhhakobkpdadaaQUnqM
namespace Go.Proofs.Ytbhhakobkpdadaa
open Go.RowKit Go.Shelf

/-- Between two pieces. -/
def UnSt (s : ByteArray) (b m : Nat) (w0 : World) (r : ByteArray) (acc : List Nat) (wr : World) : Prop :=
  (unL (bl s) = (unL (bl r)).map (acc ++ ·) ∧ acc.length + 4 * r.size ≤ 4 * s.size ∧ Byt acc) ∧ Bd b b acc wr ∧ wr.heap[m]? = some (.map ESC 10) ∧ Below b w0 wr ∧ b ≤ wr.heap.size
theorem UnSt.on {s : ByteArray} {b m : Nat} {w0 : World} {r : ByteArray} {acc : List Nat} {wr w2 : World} (h : UnSt s b m w0 r acc wr) (hb : Below wr.heap.size wr w2) : UnSt s b m w0 r acc w2 :=
  ⟨h.1, bd_own (β := Unit) b b 0 (fun _ => acc) () wr w2 none h.2.1 (below_grown hb) (fun r e => by cases e), (hb.block m (Array.getElem?_eq_some_iff.1 h.2.2.1).1).trans h.2.2.1, h.2.2.2.1.trans (hb.mono h.2.2.2.2), Nat.le_trans h.2.2.2.2 hb.size⟩
theorem UnSt.wrote {s : ByteArray} {b m : Nat} {w0 : World} {r r' : ByteArray} {acc o : List Nat} {n : Nat} {wr w2 : World} (h : UnSt s b m w0 r acc wr) (hs : stepU (bl r) = some (o, n)) (hr : bl r' = (bl r).drop n)
    (h2 : Bd b b (acc ++ o) w2) (hb : Below b wr w2) (hk : KeepsOthers wr w2) : UnSt s b m w0 r' (acc ++ o) w2 ∧ r'.size < r.size := by
  have hz := stepU_size (bl_byt r) hs
  have hne : bl r ≠ [] := by intro e; rw [e] at hs; cases hs
  have hl := bl_len r'
  rw [hr, List.length_drop, bl_len] at hl
  rw [bl_len] at hz
  refine ⟨⟨⟨?_, ?_, h.1.2.2.app hz.2.2.2⟩, h2, hk.same m _ h.2.2.1 rfl, h.2.2.2.1.trans hb, Nat.le_trans h.2.2.2.2 hb.size⟩, by omega⟩
  · rw [h.1.1, unL_some (bl_byt r) hne hs, hr, Option.map_map]
    congr 1
    funext x
    simp
  · have := h.1.2.1
    rw [List.length_append]
    omega
theorem UnSt.done {s : ByteArray} {b m : Nat} {w0 : World} {acc : List Nat} {wr : World} {r : ByteArray} (h : UnSt s b m w0 r acc wr) (hr : bl r = []) : unL (bl s) = some acc := by
  rw [h.1.1, hr, unL_nil]
  simp
theorem UnSt.bad {s : ByteArray} {b m : Nat} {w0 : World} {acc : List Nat} {wr : World} {r : ByteArray} (h : UnSt s b m w0 r acc wr) (hs : stepU (bl r) = none) (hne : bl r ≠ []) : unL (bl s) = none := by
  rw [h.1.1, unL_none (bl_byt r) hne hs]
  rfl
theorem drop_one {r r1 : ByteArray} (h : r.extract 1 r.size = r1) : bl r1 = (bl r).drop 1 := by
  rw [← h, bl_extract, ← bl_len, List.take_length]
theorem drop_n {r r1 : ByteArray} {n : Nat} (h : r.extract n r.size = r1) : bl r1 = (bl r).drop n := by
  rw [← h, bl_extract, ← bl_len, List.take_length]
theorem bad_out {w w' : World} (h : Below w.heap.size w w') : UnOut w none (.returned (.tuple #[.string ⟨#[]⟩, .int .i64 40])) w' := ⟨_, rfl, rfl, h⟩

set_option maxRecDepth 100000 in
set_option maxHeartbeats 8000000 in
theorem unescape_any (s : ByteArray) (hs : s.size ≤ 100000) (w : World) : Calls Try.prog 32 #[.string s] w (UnOut w (unL (bl s))) := by
  go_enter Try.func32, Try.ntmps32
  go_wp2_with fail
  with_reducible refine (singles_any _).mono ?_
  rintro e w2 ⟨rfl, rfl⟩
  have h0 : UnSt s w.heap.size (w.heap.size + 1) w s [] ((w.alloc (.cells #[.pointer none, .slice none 0 0] 51)).alloc (.map ESC 10)) := by
    have hb := Bd.new w
    refine ⟨⟨by simp, by simp, Byt.nil⟩, ?_, ?_, ((Below.refl _ w).alloc (Nat.le_refl _) _).alloc (by simp) _, by simp; omega⟩
    · exact bd_own (β := Unit) w.heap.size w.heap.size 0 (fun _ => []) () _ _ none hb (World.grownBy_alloc _ _ none) (fun r e => by cases e)
    · have := World.alloc_heap_new (w.alloc (.cells #[.pointer none, .slice none 0 0] 51)) (.map ESC 10)
      rwa [World.size_alloc] at this
  replace h0 := Lib.hid h0
  go_wp2_with fail
  replace h0 := h0.out
  obtain ⟨b, hb⟩ : ∃ b, w.heap.size = b := ⟨_, rfl⟩
  obtain ⟨m, hm⟩ : ∃ m, w.heap.size + 1 = m := ⟨_, rfl⟩
  obtain ⟨W0, hW0⟩ : ∃ W, (w.alloc (.cells #[.pointer none, .slice none 0 0] 51)).alloc (.map ESC 10) = W := ⟨_, rfl⟩
  rw [hm, hb, hW0] at h0
  have H0 := Lib.hid h0
  have HBv := Lib.hid hb
  rw [hm, hb, hW0]
  clear h0 hm hb hW0
  go_loopw [0] (fun p wr => ∃ (r : ByteArray) (acc : List Nat), p = .string r ∧ Hid (UnSt s b m w r acc wr)) (fun p _ => strLen p)
  case atStart => exact ⟨s, [], rfl, H0⟩
  case round =>
    obtain ⟨r, acc, rfl, HS⟩ := hrel
    rename World => wr
    have HD : Hid (∀ w', Below b w w' → Below w.heap.size w w') := Lib.hid (fun w' h => by rw [HBv.out]; exact h)
    cases hL : bl r with
    | nil =>
      have he : r = ByteArray.empty := bl_nil.2 hL
      subst he
      have HF : Hid (unL (bl s) = some acc) := Lib.hid (HS.out.done rfl)
      have HC := Lib.hid (String_any b b acc HS.out.1.2.2 wr HS.out.2.1 HS.out.2.2.2.2)
      go_wp2_with fail
      with_reducible refine HC.out.mono ?_
      rintro e w3 ⟨rfl, b3, _⟩
      go_wp2_with fail
      go_ret2
      rw [HF.out]
      exact ⟨_, rfl, bl_ofl HS.out.1.2.2, HD.out _ (HS.out.2.2.2.1.trans b3)⟩
    | cons c t =>
      obtain ⟨hc8, hln, h00, h0⟩ := first_byte hL
      have hne := isEmpty_no hL
      have hs0 : (0 : Int) < (r.size : Int) := by omega
      have hs1 : (1 : Int) ≤ (r.size : Int) := by omega
      have hnn : bl r ≠ [] := by rw [hL]; simp
      obtain ⟨r1, hr1⟩ : ∃ x, r.extract 1 r.size = x := ⟨_, rfl⟩
      have hb1 : bl r1 = t := by rw [drop_one hr1, hL]; rfl
      have HB1 := Lib.hid hb1
      have HLr := Lib.hid hL
      by_cases q1 : c = 34 ∨ c = 10
      · have HF : Hid (unL (bl s) = none) := Lib.hid (HS.out.bad (by rw [hL]; exact stepU_bad q1) hnn)
        clear hL hb1 hnn hln hc8
        rcases q1 with rfl | rfl
        all_goals
          go_wp2_with fail
          go_ret2
          rw [HF.out]
          exact bad_out (HD.out _ HS.out.2.2.2.1)
      · have f34 : ((c : Int) == 34) = false := by simp; omega
        have f10 : ((c : Int) == 10) = false := by simp; omega
        by_cases q2 : c = 92
        · subst q2
          cases ht : t with
          | nil =>
            have hem : r1.toList.isEmpty = true := by
              have : r1 = ByteArray.empty := bl_nil.2 (hb1.trans ht)
              rw [this, ByteArray.toList_eq]; rfl
            have HF : Hid (unL (bl s) = none) := Lib.hid (HS.out.bad (by rw [hL, ht]; exact stepU_end) hnn)
            clear hL hb1 hnn hln hc8 q1 ht
            go_wp2_with fail
            go_ret2
            rw [HF.out]
            exact bad_out (HD.out _ HS.out.2.2.2.1)
          | cons k u =>
            have hL1 : bl r1 = k :: u := hb1.trans ht
            obtain ⟨hk8, hln1, h001, h01⟩ := first_byte hL1
            have hne1 := isEmpty_no hL1
            have hs01 : (0 : Int) < (r1.size : Int) := by omega
            have hs11 : (1 : Int) ≤ (r1.size : Int) := by omega
            obtain ⟨r2, hr2⟩ : ∃ x, r1.extract 1 r1.size = x := ⟨_, rfl⟩
            have hb2 : bl r2 = u := by rw [drop_one hr2, hL1]; rfl
            have hL2 : bl r = 92 :: k :: u := by rw [hL, ht]
            have hr2l : r2.size ≤ r.size := by rw [← bl_len, hb2, ← bl_len, hL2]; simp; omega
            have hlk := look_any wr m HS.out.2.2.1 k
            cases he : escF k with
            | some v =>
              have hst : stepU (bl r) = some ([v], 2) := by rw [hL2]; exact stepU_esc he
              have HN : Hid (∀ w2, Bd b b (acc ++ [v]) w2 ∧ Below b wr w2 ∧ KeepsOthers wr w2 → UnSt s b m w r2 (acc ++ [v]) w2 ∧ r2.size < r.size) := Lib.hid (fun w2 h => HS.out.wrote hst (by rw [hb2, hL2]; rfl) h.1 h.2.1 h.2.2)
              have HC := Lib.hid (WriteByte_any b b acc v wr HS.out.2.1 (by have := HS.out.1.2.1; omega) HS.out.2.2.2.2)
              simp only [he, Option.getD_some, Option.isSome_some] at hlk
              clear hL hb1 hnn hln hc8 q1 ht hL1 hk8 hln1 hL2 he hst hb2 hr2l
              go_wp2_with fail
              with_reducible refine HC.out.mono ?_
              rintro e w3 ⟨rfl, h3⟩
              have h4 := HN.out w3 h3
              have H4 := Lib.hid h4.1
              have h5 := h4.2
              clear h3 h4
              go_wp2_with fail
              exact ⟨⟨r2, _, rfl, H4⟩, h5⟩
            | none =>
              simp only [he, Option.getD_none, Option.isSome_none] at hlk
              have hwk : IntKind.i32.wrap (k : Int) = (k : Int) := i32_wrap k (by omega)
              obtain ⟨n, hn⟩ : ∃ n, dcB k = n := ⟨_, rfl⟩
              have hn8 : n ≤ 8 := by rw [← hn]; exact dcB_le k
              have HDC := Lib.hid (digitCount_any k hk8 wr)
              rw [hn] at HDC
              have HNU := Lib.hid (number_any r2 n hn8 (by have := HS.out.1.2.1; omega) wr)
              rw [hb2] at HNU
              cases hx : numB u n with
              | none =>
                rw [hx] at HNU
                have HF : Hid (unL (bl s) = none) := Lib.hid (HS.out.bad (by rw [hL2]; exact stepU_num he (by rw [hn]; exact hx)) hnn)
                clear hL hb1 hnn hln hc8 q1 ht hL1 hk8 hln1 hL2 he hb2 hn hx hr2l
                go_wp2_with fail
                with_reducible refine HDC.out.mono ?_
                rintro e w' ⟨rfl, rfl⟩
                go_wp2_with fail
                with_reducible refine HNU.out.mono ?_
                rintro e w3 ⟨rfl, b3⟩
                have hfin := HD.out _ (HS.out.on b3).2.2.2.1
                go_wp2_with fail
                go_ret2
                rw [HF.out]
                exact bad_out hfin
              | some x =>
                rw [hx] at HNU
                have hxl := numB_lt hn8 hx
                have hnl := numB_len hx
                have hnr : n ≤ r2.size := by rw [← bl_len, hb2]; exact hnl.1
                have g1 : (0 : Int) ≤ (n : Int) := by omega
                have g2 : (n : Int) ≤ (r2.size : Int) := by omega
                obtain ⟨r3, hr3⟩ : ∃ x, r2.extract n r2.size = x := ⟨_, rfl⟩
                have hb3 : bl r3 = (bl r).drop (2 + n) := by
                  rw [drop_n hr3, hb2, hL2]
                  simp [Nat.add_comm 2 n]
                by_cases q3 : k = 120
                · have f120 : ((k : Int) == 120) = true := by simp; omega
                  have hn2 : n = 2 := by rw [← hn, q3]; decide
                  have hx256 := hexG_two (hn2 ▸ hx)
                  have hwx : IntKind.u8.wrap (x : Int) = (x : Int) := u8_wrap x hx256
                  have hst : stepU (bl r) = some ([x], 4) := by rw [hL2, q3]; exact stepU_x (hn2 ▸ hx)
                  rw [hn2] at hb3
                  have HN : Hid (∀ w1 w2, UnSt s b m w r acc w1 → Bd b b (acc ++ [x]) w2 ∧ Below b w1 w2 ∧ KeepsOthers w1 w2 → UnSt s b m w r3 (acc ++ [x]) w2 ∧ r3.size < r.size) := Lib.hid (fun w1 w2 hu h => hu.wrote hst hb3 h.1 h.2.1 h.2.2)
                  have HLn : Hid (acc.length ≤ 1000000) := Lib.hid (by have := HS.out.1.2.1; omega)
                  clear hL hb1 hnn hln hc8 q1 ht hL1 hk8 hln1 hL2 he hb2 hn hx hnl hnr hb3 hst hxl hx256 hr2l q3 hn2
                  go_wp2_with fail
                  with_reducible refine HDC.out.mono ?_
                  rintro e w' ⟨rfl, rfl⟩
                  go_wp2_with fail
                  with_reducible refine HNU.out.mono ?_
                  rintro e w3 ⟨rfl, b3⟩
                  have HS3 := Lib.hid (HS.out.on b3)
                  have HC := Lib.hid (WriteByte_any b b acc x w3 HS3.out.2.1 HLn.out HS3.out.2.2.2.2)
                  clear b3
                  go_wp2_with fail
                  with_reducible refine HC.out.mono ?_
                  rintro e w4 ⟨rfl, h3⟩
                  have h4 := HN.out w3 w4 HS3.out h3
                  have H4 := Lib.hid h4.1
                  have h5 := h4.2
                  clear h3 h4
                  go_wp2_with fail
                  exact ⟨⟨r3, _, rfl, H4⟩, h5⟩
                · have f120 : ((k : Int) == 120) = false := by simp; omega
                  have HLn : Hid (acc.length + 4 ≤ 1000000) := Lib.hid (by have := HS.out.1.2.1; have := HLr.out; have := bl_len r; omega)
                  by_cases q4 : runeN x = true
                  · have hxm := runeN_le q4
                    have dx : decide ((1114111 : Int) < (x : Int)) = false := decide_eq_false (by omega)
                    have hwx : IntKind.i32.wrap (x : Int) = (x : Int) := i32_wrap x (by omega)
                    have hst : stepU (bl r) = some (encN x, 2 + n) := by rw [hL2, ← hn]; exact stepU_rune he q3 (by rw [hn]; exact hx) q4
                    have HN : Hid (∀ w1 w2, UnSt s b m w r acc w1 → Bd b b (acc ++ encN x) w2 ∧ Below b w1 w2 ∧ KeepsOthers w1 w2 → UnSt s b m w r3 (acc ++ encN x) w2 ∧ r3.size < r.size) := Lib.hid (fun w1 w2 hu h => hu.wrote hst hb3 h.1 h.2.1 h.2.2)
                    have HYes := Lib.hid (fun w => is_yes x q4 w)
                    have HEn : Hid (∀ w, Calls Try.prog 15 #[.int .i32 (x : Int)] w (StrOut w (encN x))) := Lib.hid (fun w => by
                      have := Encode_any (x : Int) w
                      rwa [enc, runeOf, isR_nat, q4, if_pos rfl, Int.toNat_natCast] at this)
                    clear hL hb1 hnn hln hc8 q1 ht hL1 hk8 hln1 hL2 he hb2 hn hx hnl hnr hb3 hst hxl hr2l q3 q4 hxm
                    go_wp2_with fail
                    with_reducible refine HDC.out.mono ?_
                    rintro e w' ⟨rfl, rfl⟩
                    go_wp2_with fail
                    with_reducible refine HNU.out.mono ?_
                    rintro e w3 ⟨rfl, b3⟩
                    have HS3 := Lib.hid (HS.out.on b3)
                    clear b3
                    go_wp2_with fail
                    with_reducible refine (HYes.out _).mono ?_
                    rintro e w' ⟨rfl, rfl⟩
                    go_wp2_with fail
                    with_reducible refine (HEn.out _).mono ?_
                    rintro e w4 ⟨T, rfl, hT, b4⟩
                    have HS4 := Lib.hid (HS3.out.on b4)
                    have hTs : T.size ≤ 4 := by rw [← bl_len, hT]; exact (encN_len x).2
                    have HC := Lib.hid (WriteString_any b b acc T w4 HS4.out.2.1 (by have := HLn.out; omega) (by omega) HS4.out.2.2.2.2)
                    rw [hT] at HC
                    clear b4 hT hTs
                    go_wp2_with fail
                    with_reducible refine HC.out.mono ?_
                    rintro e w5 ⟨rfl, h3⟩
                    have h4 := HN.out w4 w5 HS4.out h3
                    have H4 := Lib.hid h4.1
                    have h5 := h4.2
                    clear h3 h4
                    go_wp2_with fail
                    exact ⟨⟨r3, _, rfl, H4⟩, h5⟩
                  · have q5 : runeN x = false := by simpa using q4
                    have HF : Hid (unL (bl s) = none) := Lib.hid (HS.out.bad (by rw [hL2]; exact stepU_no he q3 (by rw [hn]; exact hx) q5) hnn)
                    by_cases q6 : 1114111 < x
                    · have dx : decide ((1114111 : Int) < (x : Int)) = true := decide_eq_true (by omega)
                      clear hL hb1 hnn hln hc8 q1 ht hL1 hk8 hln1 hL2 he hb2 hn hx hnl hnr hb3 hxl hr2l q3 q4 q5 q6
                      go_wp2_with fail
                      with_reducible refine HDC.out.mono ?_
                      rintro e w' ⟨rfl, rfl⟩
                      go_wp2_with fail
                      with_reducible refine HNU.out.mono ?_
                      rintro e w3 ⟨rfl, b3⟩
                      have hfin := HD.out _ (HS.out.on b3).2.2.2.1
                      clear b3
                      go_wp2_with fail
                      go_ret2
                      rw [HF.out]
                      exact bad_out hfin
                    · have dx : decide ((1114111 : Int) < (x : Int)) = false := decide_eq_false (by omega)
                      have hwx : IntKind.i32.wrap (x : Int) = (x : Int) := i32_wrap x (by omega)
                      have HNo := Lib.hid (fun w => is_no (x : Int) (by rw [isR_nat]; exact q5) w)
                      clear hL hb1 hnn hln hc8 q1 ht hL1 hk8 hln1 hL2 he hb2 hn hx hnl hnr hb3 hxl hr2l q3 q4 q5 q6
                      go_wp2_with fail
                      with_reducible refine HDC.out.mono ?_
                      rintro e w' ⟨rfl, rfl⟩
                      go_wp2_with fail
                      with_reducible refine HNU.out.mono ?_
                      rintro e w3 ⟨rfl, b3⟩
                      have hfin := Lib.hid (HD.out _ (HS.out.on b3).2.2.2.1)
                      clear b3
                      go_wp2_with fail
                      with_reducible refine (HNo.out _).mono ?_
                      rintro e w' ⟨rfl, rfl⟩
                      go_wp2_with fail
                      go_ret2
                      rw [HF.out]
                      exact bad_out hfin.out
        · have f92 : ((c : Int) == 92) = false := by simp; omega
          have hst : stepU (bl r) = some ([c], 1) := by rw [hL]; exact stepU_one q1 q2
          have HN : Hid (∀ w2, Bd b b (acc ++ [c]) w2 ∧ Below b wr w2 ∧ KeepsOthers wr w2 → UnSt s b m w r1 (acc ++ [c]) w2 ∧ r1.size < r.size) := Lib.hid (fun w2 h => HS.out.wrote hst (drop_one hr1) h.1 h.2.1 h.2.2)
          have HC := Lib.hid (WriteByte_any b b acc c wr HS.out.2.1 (by have := HS.out.1.2.1; omega) HS.out.2.2.2.2)
          clear hL hb1 hnn hln hc8 q1 q2 hst
          go_wp2_with fail
          with_reducible refine HC.out.mono ?_
          rintro e w3 ⟨rfl, h3⟩
          have h4 := HN.out w3 h3
          have H4 := Lib.hid h4.1
          have h5 := h4.2
          clear h3 h4
          go_wp2_with fail
          exact ⟨⟨r1, _, rfl, H4⟩, h5⟩
end Go.Proofs.Ytbhhakobkpdadaa
