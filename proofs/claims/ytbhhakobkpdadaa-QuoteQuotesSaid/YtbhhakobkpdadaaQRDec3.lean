/- The document's Decode: longer ones. -/
import Derived.Test.YtbhhakobkpdadaaQRDecA
namespace Go.Proofs.Ytbhhakobkpdadaa
open Go.RowKit Go.Shelf
set_option maxRecDepth 100000 in
set_option maxHeartbeats 8000000 in
theorem rDecode_3 (s : ByteArray) (hs9 : s.size ≤ 140737488351232) (c : Nat) (t : List Nat) (hL : bl s = c :: t) (hc : 224 ≤ c ∧ c < 240) (w : World) : Calls Try.prog 11 #[.string s] w (DecOut w (dec (c :: t))) := by
  obtain ⟨hc8, hln, h00, h0⟩ := first_byte hL
  have hne := isEmpty_no hL
  have hs0 : (0 : Int) < (s.size : Int) := by omega
  have hw : IntKind.i32.wrap (c : Int) = (c : Int) := i32_wrap c (by omega)
  have hz : szB c = 3 := by rcases sz_cases c with h | h | h | h | h | h <;> omega
  obtain ⟨r0, hr0⟩ : ∃ r, c - 224 = r := ⟨_, rfl⟩
  have hrs : (c : Int) - 224 = (r0 : Int) := by omega
  have hrw : IntKind.i32.wrap ((c : Int) - 224) = (r0 : Int) := by rw [hrs]; exact i32_wrap r0 (by omega)
  have hhd : headB c 3 = r0 := by unfold headB; simp; omega
  have hr32 : r0 < 32 := by omega
  have d0 : decide ((192 : Int) ≤ (c : Int)) = true := decide_eq_true (by omega)
  have d1 : decide ((c : Int) < 224) = false := decide_eq_false (by omega)
  have d2 : decide ((224 : Int) ≤ (c : Int)) = true := decide_eq_true (by omega)
  have d3 : decide ((c : Int) < 240) = true := decide_eq_true (by omega)
  have d4 : decide ((240 : Int) ≤ (c : Int)) = false := decide_eq_false (by omega)
  have HL := Lib.hid hL
  have HZ := Lib.hid hz
  have HLn := Lib.hid hln
  obtain ⟨p, hp⟩ : ∃ p, min 3 s.size = p := ⟨_, rfl⟩
  have hp1 : 1 ≤ p := by omega
  have hpn : p ≤ 3 := by omega
  have hps : p ≤ s.size := by omega
  have HP := Lib.hid hp
  have HBt : Hid (Byt t) := Lib.hid (fun x hx => bl_byt s x (by rw [hL]; simp [hx]))
  have HHd := Lib.hid hhd
  clear hp hL hz hln hc hc8 hr0 hrs hhd
  go_enter Try.func11, Try.ntmps11
  go_wp2_with fail
  clear hrw hw d0 d1 d2 d3 d4 hne h0
  go_loopw [6, 7] (fun r i wr => ∃ j : Nat, j + 1 ≤ p ∧ i = .int .i64 ((j + 1 : Nat) : Int) ∧ r = .int .i32 (foldB r0 (t.take j) : Nat) ∧ w = wr) (fun _ i _ => p - (intOf i).toNat)
  case atStart => exact ⟨0, hp1, rfl, rfl, rfl⟩
  case round =>
    obtain ⟨j, hj, rfl, rfl, rfl⟩ := hrel
    obtain ⟨i, hi⟩ : ∃ i, j + 1 = i := ⟨_, rfl⟩
    obtain ⟨R, hR⟩ : ∃ r, foldB r0 (t.take j) = r := ⟨_, rfl⟩
    have hRl : R < 33554432 := by
      rw [← hR]
      refine Nat.lt_of_lt_of_le (foldB_lt hr32 _) ?_
      have : (t.take j).length ≤ 3 := by rw [List.length_take]; omega
      exact Nat.le_trans (Nat.mul_le_mul_left _ (Nat.pow_le_pow_right (by omega) this)) (by decide)
    rw [hi] at hj ⊢
    rw [hR]
    by_cases hlt : i < p
    · have hin : (i : Int) < 3 := by omega
      have f1 : decide ((i : Int) < 3) = true := decide_eq_true hin
      have f2 : decide ((i : Int) < (s.size : Int)) = true := decide_eq_true (by omega)
      have f3 : decide (i < s.size) = true := decide_eq_true (by omega)
      have g0 : (0 : Int) ≤ (i : Int) := by omega
      have g1 : (i : Int) < (s.size : Int) := by omega
      have his : i < s.size := by omega
      obtain ⟨B, hB⟩ : ∃ b, t.getD j 0 = b := ⟨_, rfl⟩
      have hget : (s[i]'his).toNat = B := by
        rw [rest_getD HL.out i (by omega) his, ← hB, show i - 1 = j by omega]
      have hjt : j < t.length := by have := HLn.out; omega
      have hB8 : B < 256 := by
        rw [← hB, List.getD_eq_getElem?_getD, List.getElem?_eq_getElem hjt]
        exact HBt.out _ (List.getElem_mem hjt)
      have hnx := foldB_next r0 t j hjt
      rw [hB, hR] at hnx
      obtain ⟨b6, hb6⟩ : ∃ x, B % 64 = x := ⟨_, rfl⟩
      rw [hb6] at hnx
      have q1 : bits .and .u8 (B : Int) 63 = (b6 : Int) := by
        rw [show (63 : Int) = ((63 : Nat) : Int) from rfl, and_u8 _ _ hB8 (by omega), low6, hb6]
      have q2 : IntKind.i32.wrap (b6 : Int) = (b6 : Int) := i32_wrap b6 (by omega)
      have q3 : IntKind.i32.wrap ((R : Int) * 64) = (R : Int) * 64 := by rw [IntKind.wrap_i32]; omega
      have q4 : IntKind.i32.wrap ((R : Int) * 64 + (b6 : Int)) = (R : Int) * 64 + (b6 : Int) := by rw [IntKind.wrap_i32]; omega
      have HN := Lib.hid hnx
      have HI := Lib.hid hi
      clear hnx hB hb6 hB8 hR hi hjt
      go_wp2_with fail
      exact ⟨⟨j + 1, by have := HI.out; omega, by have := HI.out; subst this; go_num, by rw [HN.out]; simp, trivial⟩, by have := HI.out; simp [intOf]; omega⟩
    · have hip : i = p := by omega
      have hm := HP.out
      by_cases hs : s.size < 3
      · have hpe : i = s.size := by omega
        have f1 : decide ((i : Int) < 3) = true := decide_eq_true (by omega)
        have f2 : decide ((i : Int) < (s.size : Int)) = false := decide_eq_false (by omega)
        have f3 : decide (i < s.size) = false := decide_eq_false (by omega)
        have f4 : decide ((s.size : Int) < 3) = true := decide_eq_true (by omega)
        have f5 : decide (s.size < 3) = true := decide_eq_true hs
        have HD : Hid (dec (c :: t) = (65533, 1)) := Lib.hid (dec_bad (by rw [HZ.out]; have := HLn.out; omega))
        clear hs hpe hip hm hlt hR hi
        go_wp2_with fail
        go_quiet (fail)
        all_goals
          go_wp2
          go_ret2
          rw [HD.out]
          exact ⟨rfl, Below.dn (Below.refl _ _) _⟩
      · have hpe : i = 3 := by omega
        have f1 : decide ((i : Int) < 3) = false := decide_eq_false (by omega)
        have f4 : decide ((s.size : Int) < 3) = false := decide_eq_false (by omega)
        have f5 : decide (s.size < 3) = false := decide_eq_false hs
        have g2 : (3 : Int) ≤ (s.size : Int) := by omega
        have hcd : candB (c :: t) = R := by
          rw [candB_long (by rw [HZ.out]; omega), HZ.out, HHd.out, ← hR, show 3 - 1 = j by omega]
        have hX : bl (s.extract 0 3) = (c :: t).take 3 := by rw [bl_extract, HL.out]; rfl
        have HE := Lib.hid (fun w => rEncode_any (R : Nat) w)
        have hsl : 3 ≤ t.length + 1 := by have := HLn.out; omega
        by_cases hE : enc (R : Nat) = (c :: t).take 3
        · have HD : Hid (dec (c :: t) = (R, 3)) := Lib.hid (by
            have := dec_yes (c := c) (t := t) (by rw [HZ.out]; omega) (by rw [HZ.out]; exact hsl) (by rw [hcd, HZ.out]; exact hE)
            rw [this, hcd, HZ.out])
          have HQ : Hid (∀ S, bl S = enc (R : Nat) → (S.toList == (s.extract 0 3).toList) = true) := Lib.hid (fun S h => by rw [toList_bl, h, hX]; exact decide_eq_true hE)
          clear hs hpe hip hm hlt hR hi hE hX hcd hsl
          go_wp2_with fail
          go_region_held3 (fun w' => Below w.heap.size w w') (first | exact (Below.refl _ _).drew | assumption | exact (Below.refl _ _).drew.trans (by assumption)) ((first
            | (go_at_call 16
               with_reducible refine (HE.out _).mono ?_
               rintro e w2 ⟨S, rfl, hS, hb2⟩
               have hq := HQ.out S hS)))
          all_goals
            go_wp2
            go_ret2
            rw [HD.out]
            exact ⟨rfl, by assumption⟩
        · have HD : Hid (dec (c :: t) = (65533, 1)) := Lib.hid (dec_no (c := c) (t := t) (by rw [hcd, HZ.out]; exact hE))
          have HQ : Hid (∀ S, bl S = enc (R : Nat) → (S.toList == (s.extract 0 3).toList) = false) := Lib.hid (fun S h => by rw [toList_bl, h, hX]; exact decide_eq_false hE)
          clear hs hpe hip hm hlt hR hi hE hX hcd hsl
          go_wp2_with fail
          go_region_held3 (fun w' => Below w.heap.size w w') (first | exact (Below.refl _ _).drew | assumption | exact (Below.refl _ _).drew.trans (by assumption)) ((first
            | (go_at_call 16
               with_reducible refine (HE.out _).mono ?_
               rintro e w2 ⟨S, rfl, hS, hb2⟩
               have hq := HQ.out S hS)))
          all_goals
            go_wp2
            go_ret2
            rw [HD.out]
            exact ⟨rfl, by assumption⟩
end Go.Proofs.Ytbhhakobkpdadaa
