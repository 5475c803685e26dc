/- QuoteKnown, walked. -/
import Derived.Test.YtbhhakobkpdadaaQWorks
namespace Go.Proofs.Ytbhhakobkpdadaa
open Go.RowKit Go.Shelf

/-- A row of texts. -/
def RowT (w : World) (g n : Nat) (l : List ByteArray) : Prop := g < w.heap.size ∧ l.length = n ∧ ∀ j, j < n → w.cell? ⟨g, j, none⟩ = some (.string (l.getD j ByteArray.empty))
theorem RowT.on {w w' : World} {g n : Nat} {l : List ByteArray} (h : RowT w g n l) (b : Below w.heap.size w w') : RowT w' g n l :=
  ⟨Nat.lt_of_lt_of_le h.1 b.size, h.2.1, fun j hj => (b.cell (p := ⟨g, j, none⟩) h.1).trans (h.2.2 j hj)⟩
theorem RowT.made (w : World) (l : List ByteArray) (C : Array Value) (e : TypeId) (h : C.toList = l.map Value.string) : RowT (w.alloc (.cells C e)) w.heap.size l.length l := by
  refine ⟨by simp, rfl, fun j hj => ?_⟩
  rw [show C = (l.map Value.string).toArray by rw [← h]]
  have := Blk.cell (Blk.made w e (l.map Value.string)) j
  rw [this]
  simp [List.getD_eq_getElem?_getD, hj]
theorem enc_is (r : Int) (t : ByteArray) (h : enc r = bl t) (w : World) :
    Calls Try.prog 15 #[.int .i32 r] w fun e w' => e = .returned (.string t) ∧ Below w.heap.size w w' := by
  refine (Encode_any r w).mono ?_
  rintro e w' ⟨T, rfl, hT, b⟩
  obtain rfl : T = t := bl_inj (hT.trans h)
  exact ⟨rfl, b⟩
def oddL : List ByteArray := [⟨#[128]⟩, ⟨#[191]⟩, ⟨#[192, 128]⟩, ⟨#[193, 191]⟩, ⟨#[224, 159, 191]⟩, ⟨#[237, 191, 191]⟩, ⟨#[240, 143, 191, 191]⟩, ⟨#[244, 144, 128, 128]⟩, ⟨#[248, 128, 128, 128, 128]⟩, ⟨#[255]⟩, ⟨#[195, 65]⟩, ⟨#[226, 130]⟩, ⟨#[240, 159, 152]⟩]
def badL : List ByteArray := [⟨#[]⟩, ⟨#[34]⟩, ⟨#[96]⟩, ⟨#[97]⟩, ⟨#[34, 96]⟩, ⟨#[96, 34]⟩, ⟨#[34, 97, 10, 98, 34]⟩, ⟨#[34, 92, 34]⟩, ⟨#[34, 92, 120, 49, 34]⟩, ⟨#[34, 92, 120, 103, 48, 34]⟩, ⟨#[34, 92, 117, 49, 50, 51, 34]⟩, ⟨#[34, 92, 85, 48, 48, 49, 49, 48, 48, 48, 48, 34]⟩, ⟨#[34, 92, 85, 48, 48, 48, 48, 100, 56, 48, 48, 34]⟩, ⟨#[34, 92, 48, 34]⟩, ⟨#[39, 97, 39]⟩, ⟨#[34, 97, 34, 98, 34]⟩]
theorem odd_dec : ∀ s ∈ oddL, dec (bl s) = (65533, 1) ∧ s.size ≤ 1000 := by decide +kernel
theorem bad_unq : ∀ s ∈ badL, unqL (bl s) = none ∧ s.size ≤ 1000 := by decide +kernel
theorem getD_mem {l : List ByteArray} {j : Nat} (h : j < l.length) : l.getD j ByteArray.empty ∈ l := by
  rw [List.getD_eq_getElem?_getD, List.getElem?_eq_getElem h]
  exact List.getElem_mem h
set_option maxRecDepth 100000 in
set_option maxHeartbeats 8000000 in
theorem QuoteKnown_in (w : World) : Calls Try.prog 9 #[] w (YesOut w true) := by
  have c1 := Lib.hid (fun w => first_yes ⟨#[127]⟩ 127 1 (by decide) (by decide +kernel) w)
  have c2 := Lib.hid (fun w => first_yes ⟨#[194, 128]⟩ 128 2 (by decide) (by decide +kernel) w)
  have c3 := Lib.hid (fun w => first_yes ⟨#[223, 191]⟩ 2047 2 (by decide) (by decide +kernel) w)
  have c4 := Lib.hid (fun w => first_yes ⟨#[224, 160, 128]⟩ 2048 3 (by decide) (by decide +kernel) w)
  have c5 := Lib.hid (fun w => first_yes ⟨#[239, 191, 189]⟩ 65533 3 (by decide) (by decide +kernel) w)
  have c6 := Lib.hid (fun w => first_yes ⟨#[239, 191, 191]⟩ 65535 3 (by decide) (by decide +kernel) w)
  have c7 := Lib.hid (fun w => first_yes ⟨#[240, 144, 128, 128]⟩ 65536 4 (by decide) (by decide +kernel) w)
  have c8 := Lib.hid (fun w => first_yes ⟨#[244, 143, 191, 191]⟩ 1114111 4 (by decide) (by decide +kernel) w)
  have c9 := Lib.hid (fun w => first_yes ⟨#[]⟩ 0 0 (by decide) (by decide +kernel) w)
  have c10 := Lib.hid (fun w => enc_is (-1) ⟨#[239, 191, 189]⟩ (by decide +kernel) w)
  have c11 := Lib.hid (fun w => enc_is (55296) ⟨#[239, 191, 189]⟩ (by decide +kernel) w)
  have c12 := Lib.hid (fun w => enc_is (57343) ⟨#[239, 191, 189]⟩ (by decide +kernel) w)
  have c13 := Lib.hid (fun w => enc_is (1114112) ⟨#[239, 191, 189]⟩ (by decide +kernel) w)
  have c14 := Lib.hid (fun w => enc_is (57344) ⟨#[238, 128, 128]⟩ (by decide +kernel) w)
  have c15 := Lib.hid (fun w => enc_is (0) ⟨#[0]⟩ (by decide +kernel) w)
  have c16 := Lib.hid (fun w => is_yes' ⟨#[34, 92, 97, 92, 98, 92, 102, 92, 110, 92, 114, 92, 116, 92, 118, 92, 92, 92, 39, 92, 34, 34]⟩ ⟨#[7, 8, 12, 10, 13, 9, 11, 92, 39, 34]⟩ (by decide) (by decide +kernel) w)
  have c17 := Lib.hid (fun w => is_yes' ⟨#[34, 92, 120, 102, 70, 92, 85, 48, 48, 48, 49, 70, 54, 48, 48, 34]⟩ ⟨#[255, 240, 159, 152, 128]⟩ (by decide) (by decide +kernel) w)
  have c18 := Lib.hid (fun w => is_yes' ⟨#[34, 34]⟩ ⟨#[]⟩ (by decide) (by decide +kernel) w)
  have c19 := Lib.hid (fun w => is_yes' ⟨#[96, 96]⟩ ⟨#[]⟩ (by decide) (by decide +kernel) w)
  have c20 := Lib.hid (fun w => is_yes' ⟨#[96, 97, 10, 98, 34, 96]⟩ ⟨#[97, 10, 98, 34]⟩ (by decide) (by decide +kernel) w)
  have c21 := Lib.hid (fun w => is_yes' ⟨#[34, 255, 34]⟩ ⟨#[255]⟩ (by decide) (by decide +kernel) w)
  have c22 := Lib.hid (fun w => works_true w)
  have c23 := Lib.hid (fun w => quote_is ⟨#[0, 127, 9, 13, 239, 191, 189, 92]⟩ ⟨#[34, 92, 120, 48, 48, 92, 120, 55, 102, 92, 116, 92, 114, 239, 191, 189, 92, 92, 34]⟩ (by decide) (by decide +kernel) w)
  go_enter Try.func9, Try.ntmps9
  have bw0 := Below.refl w.heap.size w
  go_wp2_with fail
  refine (c1.out _).mono ?_
  rintro e w1 ⟨rfl, bw1⟩
  replace bw1 := next bw0 bw1
  go_wp2_with fail
  refine (c2.out _).mono ?_
  rintro e w2 ⟨rfl, bw2⟩
  replace bw2 := next bw1 bw2
  go_wp2_with fail
  refine (c3.out _).mono ?_
  rintro e w3 ⟨rfl, bw3⟩
  replace bw3 := next bw2 bw3
  go_wp2_with fail
  refine (c4.out _).mono ?_
  rintro e w4 ⟨rfl, bw4⟩
  replace bw4 := next bw3 bw4
  go_wp2_with fail
  refine (c5.out _).mono ?_
  rintro e w5 ⟨rfl, bw5⟩
  replace bw5 := next bw4 bw5
  go_wp2_with fail
  refine (c6.out _).mono ?_
  rintro e w6 ⟨rfl, bw6⟩
  replace bw6 := next bw5 bw6
  go_wp2_with fail
  refine (c7.out _).mono ?_
  rintro e w7 ⟨rfl, bw7⟩
  replace bw7 := next bw6 bw7
  go_wp2_with fail
  refine (c8.out _).mono ?_
  rintro e w8 ⟨rfl, bw8⟩
  replace bw8 := next bw7 bw8
  go_wp2_with fail
  refine (c9.out _).mono ?_
  rintro e w9 ⟨rfl, bw9⟩
  replace bw9 := next bw8 bw9
  go_wp2_with fail
  have hr := RowT.made w9 oddL #[.string ⟨#[128]⟩, .string ⟨#[191]⟩, .string ⟨#[192, 128]⟩, .string ⟨#[193, 191]⟩, .string ⟨#[224, 159, 191]⟩, .string ⟨#[237, 191, 191]⟩, .string ⟨#[240, 143, 191, 191]⟩, .string ⟨#[244, 144, 128, 128]⟩, .string ⟨#[248, 128, 128, 128, 128]⟩, .string ⟨#[255]⟩, .string ⟨#[195, 65]⟩, .string ⟨#[226, 130]⟩, .string ⟨#[240, 159, 152]⟩] 9 rfl
  have hbA : Below w.heap.size w (w9.alloc (.cells #[.string ⟨#[128]⟩, .string ⟨#[191]⟩, .string ⟨#[192, 128]⟩, .string ⟨#[193, 191]⟩, .string ⟨#[224, 159, 191]⟩, .string ⟨#[237, 191, 191]⟩, .string ⟨#[240, 143, 191, 191]⟩, .string ⟨#[244, 144, 128, 128]⟩, .string ⟨#[248, 128, 128, 128, 128]⟩, .string ⟨#[255]⟩, .string ⟨#[195, 65]⟩, .string ⟨#[226, 130]⟩, .string ⟨#[240, 159, 152]⟩] 9)) := bw9.alloc bw9.size _
  obtain ⟨V, hV⟩ : ∃ V, w9.alloc (.cells #[.string ⟨#[128]⟩, .string ⟨#[191]⟩, .string ⟨#[192, 128]⟩, .string ⟨#[193, 191]⟩, .string ⟨#[224, 159, 191]⟩, .string ⟨#[237, 191, 191]⟩, .string ⟨#[240, 143, 191, 191]⟩, .string ⟨#[244, 144, 128, 128]⟩, .string ⟨#[248, 128, 128, 128, 128]⟩, .string ⟨#[255]⟩, .string ⟨#[195, 65]⟩, .string ⟨#[226, 130]⟩, .string ⟨#[240, 159, 152]⟩] 9) = V := ⟨_, rfl⟩
  rw [hV] at hr hbA ⊢
  obtain ⟨g, hg⟩ : ∃ g, w9.heap.size = g := ⟨_, rfl⟩
  rw [hg] at hr ⊢
  have HR := Lib.hid hr
  clear hr hV hg
  go_loopw [3] (fun i wr => ∃ j : Nat, j ≤ 13 ∧ i = .int .i64 j ∧ Hid (RowT wr g 13 oddL) ∧ Below w.heap.size w wr) (fun i _ => 13 - (intOf i).toNat)
  case atStart => exact ⟨0, by omega, rfl, HR, hbA⟩
  case round =>
    obtain ⟨j, hj, rfl, HR2, hb⟩ := hrel
    rename World => wr
    by_cases hlt : j < 13
    · have hj0 : (0 : Int) ≤ (j : Int) := by omega
      have hj1 : (j : Int) < 13 := by omega
      have hcell := HR2.out.2.2 j hlt
      obtain ⟨s, hs⟩ : ∃ s, oddL.getD j ByteArray.empty = s := ⟨_, rfl⟩
      have hm := odd_dec _ (getD_mem (l := oddL) (j := j) hlt)
      rw [hs] at hm hcell
      have HC := Lib.hid (first_yes s 65533 1 (by omega) hm.1 wr)
      clear hm hs
      go_wp2_with fail
      refine HC.out.mono ?_
      rintro e w' ⟨rfl, b'⟩
      have HR3 := Lib.hid (HR2.out.on b')
      have hb' := next hb b'
      clear b' HC
      go_wp2_with fail
      exact ⟨⟨j + 1, by omega, by go_num, HR3, hb'⟩, by simp [intOf]; omega⟩
    · clear HR2 HR hbA
      have br := hb
      go_wp2_with fail
      refine (c10.out _).mono ?_
      rintro e w10 ⟨rfl, bw10⟩
      replace bw10 := next br bw10
      go_wp2_with fail
      refine (c11.out _).mono ?_
      rintro e w11 ⟨rfl, bw11⟩
      replace bw11 := next bw10 bw11
      go_wp2_with fail
      refine (c12.out _).mono ?_
      rintro e w12 ⟨rfl, bw12⟩
      replace bw12 := next bw11 bw12
      go_wp2_with fail
      refine (c13.out _).mono ?_
      rintro e w13 ⟨rfl, bw13⟩
      replace bw13 := next bw12 bw13
      go_wp2_with fail
      refine (c14.out _).mono ?_
      rintro e w14 ⟨rfl, bw14⟩
      replace bw14 := next bw13 bw14
      go_wp2_with fail
      refine (c15.out _).mono ?_
      rintro e w15 ⟨rfl, bw15⟩
      replace bw15 := next bw14 bw15
      go_wp2_with fail
      have hr := RowT.made w15 badL #[.string ⟨#[]⟩, .string ⟨#[34]⟩, .string ⟨#[96]⟩, .string ⟨#[97]⟩, .string ⟨#[34, 96]⟩, .string ⟨#[96, 34]⟩, .string ⟨#[34, 97, 10, 98, 34]⟩, .string ⟨#[34, 92, 34]⟩, .string ⟨#[34, 92, 120, 49, 34]⟩, .string ⟨#[34, 92, 120, 103, 48, 34]⟩, .string ⟨#[34, 92, 117, 49, 50, 51, 34]⟩, .string ⟨#[34, 92, 85, 48, 48, 49, 49, 48, 48, 48, 48, 34]⟩, .string ⟨#[34, 92, 85, 48, 48, 48, 48, 100, 56, 48, 48, 34]⟩, .string ⟨#[34, 92, 48, 34]⟩, .string ⟨#[39, 97, 39]⟩, .string ⟨#[34, 97, 34, 98, 34]⟩] 9 rfl
      have hbA : Below w.heap.size w (w15.alloc (.cells #[.string ⟨#[]⟩, .string ⟨#[34]⟩, .string ⟨#[96]⟩, .string ⟨#[97]⟩, .string ⟨#[34, 96]⟩, .string ⟨#[96, 34]⟩, .string ⟨#[34, 97, 10, 98, 34]⟩, .string ⟨#[34, 92, 34]⟩, .string ⟨#[34, 92, 120, 49, 34]⟩, .string ⟨#[34, 92, 120, 103, 48, 34]⟩, .string ⟨#[34, 92, 117, 49, 50, 51, 34]⟩, .string ⟨#[34, 92, 85, 48, 48, 49, 49, 48, 48, 48, 48, 34]⟩, .string ⟨#[34, 92, 85, 48, 48, 48, 48, 100, 56, 48, 48, 34]⟩, .string ⟨#[34, 92, 48, 34]⟩, .string ⟨#[39, 97, 39]⟩, .string ⟨#[34, 97, 34, 98, 34]⟩] 9)) := bw15.alloc bw15.size _
      obtain ⟨V2, hV⟩ : ∃ V, w15.alloc (.cells #[.string ⟨#[]⟩, .string ⟨#[34]⟩, .string ⟨#[96]⟩, .string ⟨#[97]⟩, .string ⟨#[34, 96]⟩, .string ⟨#[96, 34]⟩, .string ⟨#[34, 97, 10, 98, 34]⟩, .string ⟨#[34, 92, 34]⟩, .string ⟨#[34, 92, 120, 49, 34]⟩, .string ⟨#[34, 92, 120, 103, 48, 34]⟩, .string ⟨#[34, 92, 117, 49, 50, 51, 34]⟩, .string ⟨#[34, 92, 85, 48, 48, 49, 49, 48, 48, 48, 48, 34]⟩, .string ⟨#[34, 92, 85, 48, 48, 48, 48, 100, 56, 48, 48, 34]⟩, .string ⟨#[34, 92, 48, 34]⟩, .string ⟨#[39, 97, 39]⟩, .string ⟨#[34, 97, 34, 98, 34]⟩] 9) = V := ⟨_, rfl⟩
      rw [hV] at hr hbA ⊢
      obtain ⟨g2, hg⟩ : ∃ g, w15.heap.size = g := ⟨_, rfl⟩
      rw [hg] at hr ⊢
      have HR := Lib.hid hr
      clear hr hV hg
      go_loopw [6] (fun i wr => ∃ j : Nat, j ≤ 16 ∧ i = .int .i64 j ∧ Hid (RowT wr g2 16 badL) ∧ Below w.heap.size w wr) (fun i _ => 16 - (intOf i).toNat)
      case atStart => exact ⟨0, by omega, rfl, HR, hbA⟩
      case round =>
        clear hb br
        obtain ⟨j2, hj, rfl, HR2, hb⟩ := hrel
        rename World => wt
        by_cases hlt : j2 < 16
        · have hj0 : (0 : Int) ≤ (j2 : Int) := by omega
          have hj1 : (j2 : Int) < 16 := by omega
          have hcell := HR2.out.2.2 j2 hlt
          obtain ⟨s, hs⟩ : ∃ s, badL.getD j2 ByteArray.empty = s := ⟨_, rfl⟩
          have hm := bad_unq _ (getD_mem (l := badL) (j := j2) hlt)
          rw [hs] at hm hcell
          have HC := Lib.hid (fails_yes s (by omega) hm.1 wt)
          clear hm hs
          go_wp2_with fail
          refine HC.out.mono ?_
          rintro e w' ⟨rfl, b'⟩
          have HR3 := Lib.hid (HR2.out.on b')
          have hb' := next hb b'
          clear b' HC
          go_wp2_with fail
          exact ⟨⟨j2 + 1, by omega, by go_num, HR3, hb'⟩, by simp [intOf]; omega⟩
        · clear HR2 HR hbA
          have bt := hb
          go_wp2_with fail
          refine (c16.out _).mono ?_
          rintro e w16 ⟨rfl, bw16⟩
          replace bw16 := next bt bw16
          go_wp2_with fail
          refine (c17.out _).mono ?_
          rintro e w17 ⟨rfl, bw17⟩
          replace bw17 := next bw16 bw17
          go_wp2_with fail
          refine (c18.out _).mono ?_
          rintro e w18 ⟨rfl, bw18⟩
          replace bw18 := next bw17 bw18
          go_wp2_with fail
          refine (c19.out _).mono ?_
          rintro e w19 ⟨rfl, bw19⟩
          replace bw19 := next bw18 bw19
          go_wp2_with fail
          refine (c20.out _).mono ?_
          rintro e w20 ⟨rfl, bw20⟩
          replace bw20 := next bw19 bw20
          go_wp2_with fail
          refine (c21.out _).mono ?_
          rintro e w21 ⟨rfl, bw21⟩
          replace bw21 := next bw20 bw21
          go_wp2_with fail
          refine (c22.out _).mono ?_
          rintro e w22 ⟨rfl, bw22⟩
          replace bw22 := next bw21 bw22
          go_wp2_with fail
          refine (c23.out _).mono ?_
          rintro e w23 ⟨rfl, bw23⟩
          replace bw23 := next bw22 bw23
          go_wp2_with fail
          go_ret
          exact ⟨rfl, bw23⟩
theorem QuoteKnown_walk (w : World) : Calls Try.prog 9 #[] w fun e w' => e = .returned (.bool true) ∧ Below w.heap.size w w' := QuoteKnown_in w
end Go.Proofs.Ytbhhakobkpdadaa
