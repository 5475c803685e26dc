/- The first rune of a text. -/
import Derived.Test.YtbhhakobkpdadaaQEnc2
import Derived.Deep.QuietTactic
namespace Go.Proofs.Ytbhhakobkpdadaa
open Go.RowKit

/-- The sizes by ranges. -/
theorem sz_cases (c : Nat) : (c < 128 ∧ szB c = 1) ∨ (128 ≤ c ∧ c < 192 ∧ szB c = 0) ∨ (192 ≤ c ∧ c < 224 ∧ szB c = 2) ∨ (224 ≤ c ∧ c < 240 ∧ szB c = 3) ∨ (240 ≤ c ∧ c < 248 ∧ szB c = 4) ∨ (248 ≤ c ∧ szB c = 0) := by
  unfold szB
  by_cases h1 : c < 128
  · simp [h1]
  · by_cases h2 : c < 192
    · simp [h1, h2]; omega
    · by_cases h3 : c < 224
      · simp [h1, h2, h3]; omega
      · by_cases h4 : c < 240
        · simp [h1, h2, h3, h4]; omega
        · by_cases h5 : c < 248
          · simp [h1, h2, h3, h4, h5]; omega
          · simp [h1, h2, h3, h4, h5]; omega
set_option maxRecDepth 100000 in
set_option maxHeartbeats 4000000 in
theorem encodedSize_any (c : Nat) (h : c < 256) (w : World) : Calls Try.prog 26 #[.int .u8 (c : Int)] w fun e w' => e = .returned (.int .i64 (szB c : Nat)) ∧ w' = w := by
  have hw : IntKind.i32.wrap (c : Int) = (c : Int) := i32_wrap c (by omega)
  obtain ⟨n, hn⟩ : ∃ n, szB c = n := ⟨_, rfl⟩
  rw [hn]
  have e1 : decide ((240 : Int) ≤ (c : Int)) = decide (240 ≤ c) := by apply decide_eq_decide.2; omega
  have e2 : decide ((c : Int) < 248) = decide (c < 248) := by apply decide_eq_decide.2; omega
  have e3 : decide ((224 : Int) ≤ (c : Int)) = decide (224 ≤ c) := by apply decide_eq_decide.2; omega
  have e4 : decide ((c : Int) < 240) = decide (c < 240) := by apply decide_eq_decide.2; omega
  have e5 : decide ((192 : Int) ≤ (c : Int)) = decide (192 ≤ c) := by apply decide_eq_decide.2; omega
  have e6 : decide ((c : Int) < 224) = decide (c < 224) := by apply decide_eq_decide.2; omega
  have e7 : decide ((c : Int) < 128) = decide (c < 128) := by apply decide_eq_decide.2; omega
  rcases sz_cases c with ⟨h1, h2⟩ | ⟨h1, h2, h3⟩ | ⟨h1, h2, h3⟩ | ⟨h1, h2, h3⟩ | ⟨h1, h2, h3⟩ | ⟨h1, h2⟩
  all_goals
    first | (rw [h3] at hn) | (rw [h2] at hn)
    subst hn
    have d1 : decide ((240 : Int) ≤ (c : Int)) = _ := e1.trans (by first | exact decide_eq_true (by omega) | exact decide_eq_false (by omega))
    have d2 : decide ((c : Int) < 248) = _ := e2.trans (by first | exact decide_eq_true (by omega) | exact decide_eq_false (by omega))
    have d3 : decide ((224 : Int) ≤ (c : Int)) = _ := e3.trans (by first | exact decide_eq_true (by omega) | exact decide_eq_false (by omega))
    have d4 : decide ((c : Int) < 240) = _ := e4.trans (by first | exact decide_eq_true (by omega) | exact decide_eq_false (by omega))
    have d5 : decide ((192 : Int) ≤ (c : Int)) = _ := e5.trans (by first | exact decide_eq_true (by omega) | exact decide_eq_false (by omega))
    have d6 : decide ((c : Int) < 224) = _ := e6.trans (by first | exact decide_eq_true (by omega) | exact decide_eq_false (by omega))
    have d7 : decide ((c : Int) < 128) = _ := e7.trans (by first | exact decide_eq_true (by omega) | exact decide_eq_false (by omega))
    clear e1 e2 e3 e4 e5 e6 e7 h1
    try clear h2
    try clear h3
    go_enter Try.func26, Try.ntmps26
    go_wp2
    go_ret
    exact ⟨rfl, rfl⟩

theorem Below.dn {B : Nat} {w a : World} (h : Below B w a) (n : Nat) : Below B w (a.drewN n) := ⟨h.os, h.tape, h.output, h.size, h.block⟩
theorem bl_cell (w : World) (s : ByteArray) (spare j : Nat) (m : Nat × Nat) (hj : j < s.size) : ((w.alloc (.cells (bytesRow s spare) 5 m)).drew).cell? ⟨w.heap.size, j, none⟩ = some (.int .u8 (((bl s).getD j 0 : Nat) : Int)) := by
  show (w.alloc (.cells (bytesRow s spare) 5 m)).cell? _ = _
  rw [World.cell?_alloc_mark]
  have h : j < s.data.size := hj
  rw [bytesRow_at s spare j h]
  simp only [bl, List.getD_eq_getElem?_getD, List.getElem?_map, Array.getElem?_toList, Array.getElem?_eq_getElem h, Option.map_some, Option.getD_some]
theorem enc_one {c : Nat} (h : c < 128) : enc (c : Nat) = [c] := by
  have : runeN c = true := decide_eq_true (by omega)
  rw [enc, runeOf, isR_nat, this, if_pos rfl, Int.toNat_natCast, encN, if_pos h]
theorem dec_one {c : Nat} {t : List Nat} (h : c < 128) : dec (c :: t) = (c, 1) := by
  have hs : szB c = 1 := by rw [szB, if_pos h]
  have hc : candB (c :: t) = c := by simp only [candB, hs, if_pos]
  simp only [dec, hs, hc, enc_one h]
  simp
theorem dec_bad {c : Nat} {t : List Nat} (h : szB c = 0 ∨ t.length + 1 < szB c) : dec (c :: t) = (65533, 1) := by
  simp only [dec, if_pos h]
theorem dec_yes {c : Nat} {t : List Nat} (h0 : szB c ≠ 0) (h1 : szB c ≤ t.length + 1) (h : enc (candB (c :: t) : Nat) = (c :: t).take (szB c)) : dec (c :: t) = (candB (c :: t), szB c) := by
  simp only [dec]
  rw [if_neg (by omega), if_pos h]
theorem dec_no {c : Nat} {t : List Nat} (h : enc (candB (c :: t) : Nat) ≠ (c :: t).take (szB c)) : dec (c :: t) = (65533, 1) := by
  simp only [dec]
  split
  · rfl
  · first | rfl | rw [if_neg h]
theorem candB_long {c : Nat} {t : List Nat} (h : szB c ≠ 1) : candB (c :: t) = foldB (headB c (szB c)) (t.take (szB c - 1)) := by
  simp only [candB, if_neg h]
theorem foldB_next (r : Nat) (l : List Nat) (j : Nat) (h : j < l.length) : foldB r (l.take (j + 1)) = foldB r (l.take j) * 64 + l.getD j 0 % 64 := by
  rw [List.take_add_one, List.getElem?_eq_getElem h, Option.toList_some, foldB, List.foldl_append, List.getD_eq_getElem?_getD, List.getElem?_eq_getElem h]
  rfl
theorem head_val (c n : Nat) (hc : c < 256) (hn : 2 ≤ n) (hn4 : n ≤ 4) : bits .and .i32 (c : Int) ((127 : Int) / 2 ^ n) = ((headB c n : Nat) : Int) := by
  have : n = 2 ∨ n = 3 ∨ n = 4 := by omega
  rcases this with rfl | rfl | rfl
  · rw [show (127 : Int) / 2 ^ 2 = ((31 : Nat) : Int) by decide, and_i32 _ _ (by omega) (by omega), headB]
    exact congrArg _ (Nat.and_two_pow_sub_one_eq_mod c 5)
  · rw [show (127 : Int) / 2 ^ 3 = ((15 : Nat) : Int) by decide, and_i32 _ _ (by omega) (by omega), headB]
    exact congrArg _ (Nat.and_two_pow_sub_one_eq_mod c 4)
  · rw [show (127 : Int) / 2 ^ 4 = ((7 : Nat) : Int) by decide, and_i32 _ _ (by omega) (by omega), headB]
    exact congrArg _ (Nat.and_two_pow_sub_one_eq_mod c 3)
theorem step_val (r b : Nat) (hr : r < 33554432) (hb : b < 256) : bits .or .i32 (IntKind.i32.wrap ((r : Int) * 64)) (IntKind.i32.wrap (bits .and .u8 (b : Int) 63)) = ((r * 64 + b % 64 : Nat) : Int) := by
  rw [show (63 : Int) = ((63 : Nat) : Int) from rfl, and_u8 _ _ hb (by omega), low6, show (r : Int) * 64 = ((r * 64 : Nat) : Int) by omega, i32_wrap _ (by omega), i32_wrap _ (by omega), or_i32 _ _ (by omega) (by omega)]
  rw [Nat.mul_comm r 64]
  exact congrArg _ (or_add6 r (b % 64) (Nat.mod_lt _ (by omega)))

/-- What Decode leaves behind. -/
def DecOut (w : World) (d : Nat × Nat) (e : Ending) (w' : World) : Prop := e = .returned (.tuple #[.int .i32 (d.1 : Nat), .int .i64 (d.2 : Nat)]) ∧ Below w.heap.size w w'
theorem isEmpty_no {s : ByteArray} {c : Nat} {t : List Nat} (h : bl s = c :: t) : s.toList.isEmpty = false := by
  rw [ByteArray.toList_eq]
  cases hd : s.data.toList with
  | nil => rw [bl, hd] at h; cases h
  | cons => rfl
theorem first_byte {s : ByteArray} {c : Nat} {t : List Nat} (h : bl s = c :: t) : c < 256 ∧ s.size = t.length + 1 ∧ ∃ h0 : 0 < s.size, (s[0]'h0).toNat = c := by
  have hl := bl_len s
  have hln : s.size = t.length + 1 := by rw [← hl, h]; rfl
  exact ⟨bl_byt s c (by rw [h]; simp), hln, by omega, by rw [bl_get s 0 (by omega), h]; rfl⟩
set_option maxRecDepth 100000 in
set_option maxHeartbeats 4000000 in
theorem Decode_one (s : ByteArray) (c : Nat) (t : List Nat) (hL : bl s = c :: t) (hz : szB c = 1) (w : World) : Calls Try.prog 10 #[.string s] w (DecOut w (c, 1)) := by
  obtain ⟨hc8, hln, h00, h0⟩ := first_byte hL
  have hne := isEmpty_no hL
  have hs0 : (0 : Int) < (s.size : Int) := by omega
  have HE := encodedSize_any c hc8 w
  rw [hz] at HE
  have hw : IntKind.i32.wrap (c : Int) = (c : Int) := i32_wrap c (by omega)
  clear hL hz hln
  go_enter Try.func10, Try.ntmps10
  go_wp2_with fail
  with_reducible refine HE.mono ?_
  rintro e w' ⟨rfl, rfl⟩
  go_wp2
  go_ret2
  exact ⟨rfl, Below.refl _ _⟩
set_option maxRecDepth 100000 in
set_option maxHeartbeats 4000000 in
theorem Decode_off (s : ByteArray) (c n : Nat) (t : List Nat) (hL : bl s = c :: t) (hz : szB c = n) (hn : n ≠ 1) (hb : n = 0 ∨ s.size < n) (w : World) : Calls Try.prog 10 #[.string s] w (DecOut w (65533, 1)) := by
  obtain ⟨hc8, hln, h00, h0⟩ := first_byte hL
  have hne := isEmpty_no hL
  have hs0 : (0 : Int) < (s.size : Int) := by omega
  have HE := encodedSize_any c hc8 w
  rw [hz] at HE
  have hn1 : ((n : Int) == 1) = false := by simp; omega
  clear hL hz hln
  rcases hb with rfl | hb
  · clear hn hn1
    go_enter Try.func10, Try.ntmps10
    go_wp2_with fail
    with_reducible refine HE.mono ?_
    rintro e w' ⟨rfl, rfl⟩
    go_wp2
    go_ret2
    exact ⟨rfl, Below.refl _ _⟩
  · have hn0 : ((n : Int) == 0) = false := by simp; omega
    have hb' : decide (s.size < n) = true := decide_eq_true (by omega)
    clear hn hb
    go_enter Try.func10, Try.ntmps10
    go_wp2_with fail
    with_reducible refine HE.mono ?_
    rintro e w' ⟨rfl, rfl⟩
    go_wp2
    go_ret2
    exact ⟨rfl, Below.refl _ _⟩
set_option maxRecDepth 100000 in
set_option maxHeartbeats 4000000 in
theorem Decode_long (s : ByteArray) (hs : s.size ≤ 140737488351232) (c n : Nat) (t : List Nat) (hL : bl s = c :: t) (hz : szB c = n) (hn2 : 2 ≤ n) (hn4 : n ≤ 4) (hb : n ≤ s.size) (w : World) :
    Calls Try.prog 10 #[.string s] w (DecOut w (dec (c :: t))) := by
  obtain ⟨hc8, hln, h00, h0⟩ := first_byte hL
  have hne := isEmpty_no hL
  have hs0 : (0 : Int) < (s.size : Int) := by omega
  have HE := encodedSize_any c hc8 w
  rw [hz] at HE
  have hn1 : ((n : Int) == 1) = false := by simp; omega
  have hn0 : ((n : Int) == 0) = false := by simp; omega
  have hb' : decide (s.size < n) = false := decide_eq_false (by omega)
  have hw : IntKind.i32.wrap (c : Int) = (c : Int) := i32_wrap c (by omega)
  have b1 : (0 : Int) ≤ (n : Int) := by omega
  have b2 : (1 : Int) ≤ (n : Int) := by omega
  have b3 : (n : Int) ≤ (s.size : Int) := by omega
  have hcv := fun w s => run_bytes_of_string (P := Try.prog) w 9 40 5 s Try.underlying9 Try.underlying40 Try.underlying5
  have HL := Lib.hid hL
  have HZ := Lib.hid hz
  clear hL hz hln hs
  go_enter Try.func10, Try.ntmps10
  go_wp2_with fail
  with_reducible refine HE.mono ?_
  rintro e w' ⟨rfl, rfl⟩
  go_wp2_with fail
  go_quiet (fail)
  go_wp2_with fail
  rename Nat => nq
  obtain ⟨S1, hS1⟩ : ∃ S, s.extract 1 n = S := ⟨_, rfl⟩
  have hbl : bl S1 = t.take (n - 1) := by
    rw [← hS1, bl_extract, HL.out]
    cases n with
    | zero => omega
    | succ m => rfl
  obtain ⟨tl, htl⟩ : ∃ l, t.take (n - 1) = l := ⟨_, rfl⟩
  rw [htl] at hbl
  obtain ⟨p, hp⟩ : ∃ p, n - 1 = p := ⟨_, rfl⟩
  rw [hp] at htl
  have htlen : tl.length = p := by
    have := (first_byte HL.out).2.1
    rw [← htl, List.length_take]; omega
  have hsz1 : S1.size = p := by rw [← bl_len, hbl, htlen]
  rw [head_val c n hc8 hn2 hn4, hS1, hp]
  obtain ⟨r0, hr0⟩ : ∃ r, headB c n = r := ⟨_, rfl⟩
  have hr32 : r0 < 32 := by
    rw [← hr0]
    refine Nat.lt_of_lt_of_le (Nat.mod_lt _ (Nat.two_pow_pos _)) ?_
    exact Nat.pow_le_pow_right (n := 2) (by omega) (show 7 - n ≤ 5 by omega)
  have hcand : candB (c :: t) = foldB r0 tl := by rw [candB_long (by rw [HZ.out]; omega), HZ.out, hr0, hp, htl]
  have htb : Byt tl := by rw [← hbl]; exact bl_byt S1
  rw [hr0]
  have hC : ∀ j, j < p → ((w'.drewN (nq + 1)).alloc (.cells (bytesRow S1 (grownCap (w'.drewN nq) p 0 5)) 5 ((bytesRow S1 (grownCap (w'.drewN nq) p 0 5)).size, (bytesRow S1 (grownCap (w'.drewN nq) p 0 5)).size + 1))).cell? ⟨w'.heap.size, j, none⟩ = some (.int .u8 ((tl.getD j 0 : Nat) : Int)) := fun j hj => by
    have := bl_cell (w'.drewN (nq + 1)) S1 (grownCap (w'.drewN nq) p 0 5) j ((bytesRow S1 (grownCap (w'.drewN nq) p 0 5)).size, (bytesRow S1 (grownCap (w'.drewN nq) p 0 5)).size + 1) (by omega)
    rw [hbl] at this
    exact this
  have hB : Below w'.heap.size w' ((w'.drewN (nq + 1)).alloc (.cells (bytesRow S1 (grownCap (w'.drewN nq) p 0 5)) 5 ((bytesRow S1 (grownCap (w'.drewN nq) p 0 5)).size, (bytesRow S1 (grownCap (w'.drewN nq) p 0 5)).size + 1))) := (Below.dn (Below.refl _ w') _).alloc (Nat.le_refl _) _
  obtain ⟨W, hW⟩ : ∃ W, ((w'.drewN (nq + 1)).alloc (.cells (bytesRow S1 (grownCap (w'.drewN nq) p 0 5)) 5 ((bytesRow S1 (grownCap (w'.drewN nq) p 0 5)).size, (bytesRow S1 (grownCap (w'.drewN nq) p 0 5)).size + 1))) = W := ⟨_, rfl⟩
  rw [hW] at hC hB ⊢
  obtain ⟨g, hg⟩ : ∃ g, w'.heap.size = g := ⟨_, rfl⟩
  rw [hg] at hC ⊢
  have HC := Lib.hid hC
  have HB := Lib.hid hB
  have HCd := Lib.hid hcand
  have HT := Lib.hid htb
  have HTl := Lib.hid htlen
  have hp3 : p ≤ 3 := by omega
  have hpn : (n : Int) = (p : Int) + 1 := by omega
  have HPn := Lib.hid hpn
  generalize grownCap (w'.drewN nq) p 0 5 = cp at *
  clear hcv hC hB hcand htb htl hbl hS1 hsz1 hr0 hW hg hp HE hw h0 h00 htlen hpn
  go_loopw [2, 35] (fun r i wr => ∃ j : Nat, j ≤ p ∧ i = .int .i64 j ∧ r = .int .i32 (foldB r0 (tl.take j) : Nat) ∧ wr = W) (fun _ i _ => p - (intOf i).toNat)
  case atStart => exact ⟨0, by omega, rfl, rfl, rfl⟩
  case round =>
    obtain ⟨j, hj, rfl, rfl, rfl⟩ := hrel
    by_cases hlt : j < p
    · have hj0 : (0 : Int) ≤ (j : Int) := by omega
      have hj1 : (j : Int) < (p : Int) := by omega
      have hcell := HC.out j hlt
      obtain ⟨B, hBv⟩ : ∃ b, tl.getD j 0 = b := ⟨_, rfl⟩
      have hB8 : B < 256 := by
        rw [← hBv, List.getD_eq_getElem?_getD, List.getElem?_eq_getElem (by rw [HTl.out]; exact hlt)]
        exact HT.out _ (List.getElem_mem _)
      have hnx := foldB_next r0 tl j (by rw [HTl.out]; exact hlt)
      obtain ⟨R, hR⟩ : ∃ r, foldB r0 (tl.take j) = r := ⟨_, rfl⟩
      have hRl : R < 33554432 := by
        rw [← hR]
        refine Nat.lt_of_lt_of_le (foldB_lt hr32 _) ?_
        have : (tl.take j).length ≤ 3 := by rw [List.length_take]; omega
        exact Nat.le_trans (Nat.mul_le_mul_left _ (Nat.pow_le_pow_right (by omega) this)) (by decide)
      rw [hBv] at hcell hnx
      rw [hR] at hnx ⊢
      have HN := Lib.hid hnx
      have HS := Lib.hid (step_val R B hRl hB8)
      clear hnx hBv hR
      go_wp2_with fail
      exact ⟨⟨j + 1, hlt, by go_num, by rw [HN.out]; simp, trivial⟩, by simp [intOf]; omega⟩
    · have hjp : j = p := by omega
      subst hjp
      rw [List.take_of_length_le (by rw [HTl.out]; exact Nat.le_refl _), ← HCd.out]
      obtain ⟨R, hR⟩ : ∃ r, candB (c :: t) = r := ⟨_, rfl⟩
      have hX : bl (s.extract 0 n) = (c :: t).take n := by rw [bl_extract, HL.out]; rfl
      rw [hR]
      by_cases hE : enc (R : Nat) = (c :: t).take n
      · have HD : Hid (dec (c :: t) = (R, n)) := Lib.hid (by
          have := dec_yes (c := c) (t := t) (by rw [HZ.out]; omega) (by rw [HZ.out, ← (first_byte HL.out).2.1]; exact hb) (by rw [hR, HZ.out]; exact hE)
          rw [this, hR, HZ.out])
        have HQ : Hid (∀ S, bl S = enc (R : Nat) → (S.toList == (s.extract 0 n).toList) = true) := Lib.hid (fun S h => by rw [toList_bl, h, hX]; exact decide_eq_true hE)
        have HE := Lib.hid (fun w => Encode_any (R : Nat) w)
        clear hE hX hR hlt hj
        go_wp2_with fail
        go_region_with (first
          | (go_at_call 15
             with_reducible refine (HE.out _).mono ?_
             rintro e w2 ⟨S, rfl, hS, hb2⟩
             have hq := HQ.out S hS))
        all_goals
          go_wp2
          go_ret2
          rw [HD.out]
          exact ⟨rfl, next HB.out.drew hb2⟩
      · have HD : Hid (dec (c :: t) = (65533, 1)) := Lib.hid (dec_no (c := c) (t := t) (by rw [hR, HZ.out]; exact hE))
        have HQ : Hid (∀ S, bl S = enc (R : Nat) → (S.toList == (s.extract 0 n).toList) = false) := Lib.hid (fun S h => by rw [toList_bl, h, hX]; exact decide_eq_false hE)
        have HE := Lib.hid (fun w => Encode_any (R : Nat) w)
        clear hE hX hR hlt hj
        go_wp2_with fail
        go_region_with (first
          | (go_at_call 15
             with_reducible refine (HE.out _).mono ?_
             rintro e w2 ⟨S, rfl, hS, hb2⟩
             have hq := HQ.out S hS))
        all_goals
          go_wp2
          go_ret2
          rw [HD.out]
          exact ⟨rfl, next HB.out.drew hb2⟩
theorem Decode_any (s : ByteArray) (hs : s.size ≤ 140737488351232) (w : World) : Calls Try.prog 10 #[.string s] w (DecOut w (dec (bl s))) := by
  cases hL : bl s with
  | nil =>
    have he : s = ByteArray.empty := bl_nil.2 hL
    subst he
    go_enter Try.func10, Try.ntmps10
    go_wp2
    go_ret2
    exact ⟨rfl, Below.refl _ _⟩
  | cons c t =>
    obtain ⟨_, hln, _, _⟩ := first_byte hL
    have h4 := szB_le c
    by_cases h1 : szB c = 1
    · have hc : c < 128 := by
        rcases sz_cases c with h | h | h | h | h | h <;> omega
      rw [dec_one hc]
      exact Decode_one s c t hL h1 w
    · by_cases hb : szB c = 0 ∨ s.size < szB c
      · rw [dec_bad (by omega)]
        exact Decode_off s c (szB c) t hL rfl h1 hb w
      · exact Decode_long s hs c (szB c) t hL rfl (by omega) h4 (by omega) w
end Go.Proofs.Ytbhhakobkpdadaa
