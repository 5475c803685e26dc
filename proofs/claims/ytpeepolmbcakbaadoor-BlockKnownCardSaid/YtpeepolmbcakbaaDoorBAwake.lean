/- The chapter's examples. -/
import Derived.Test.YtpeepolmbcakbaaDoorBRound
namespace Go.Proofs.YtpeepolmbcakbaaDoor
open Go.RowKit

def exE : List (Int × ByteArray) := [(5, ⟨#[97]⟩), (7, ByteArray.empty)]
def exB : List Int := [2, 10, 2, 1, 97, 0]
theorem ex_ok : chkB (mm exE) = 0 := by decide
theorem ex_enc : encB (mm exE) = exB := by
  have h : mm exE = [(5, [97]), (7, [])] := by decide
  rw [h]
  simp [encB, encT, encD, encL, entT, entL, zz, exB, leb_small]
theorem ex_pack : packL exE = putB exB := by rw [packL, if_pos ex_ok, ex_enc]
theorem ex_len : (packL exE).length = 10 := by rw [ex_pack, putB, List.length_append, rowI_len]; rfl
theorem ex_take : (packL exE).take 6 = exB := by rw [ex_pack]; rfl
theorem ex_back : esU (packL exE) = exE ∧ xU (packL exE) = 0 := by
  have := back ex_ok
  rw [packL, if_pos ex_ok]
  exact this.2
theorem ex_short : okU ((packL exE).take 9) = false := by
  have h5 : (packL exE).take 9 = exB ++ (rowI (sumOf 0 exB)).take 3 := by rw [ex_pack, putB, List.take_append]; rfl
  by_cases hs : sealedI ((packL exE).take 9) = true
  · have hl : ((packL exE).take 9).length = 9 := by rw [List.length_take, ex_len]; rfl
    rw [okU, cutOf, if_pos hs, hl, h5, List.take_append]
    have : goodB [2, 10, 2, 1, 97] = false := by decide +kernel
    have e : List.take (9 - 4) exB ++ List.take (9 - 4 - exB.length) (List.take 3 (rowI (sumOf 0 exB))) = [2, 10, 2, 1, 97] := rfl
    rw [e, this, Bool.and_false]
  · rw [okU]; simp [hs]
theorem nil_bad : okU [] = false := by rw [okU, (short_cut (l := []) (by decide)).1]; rfl
theorem ex_order : chkB (mm [(7, ByteArray.empty), (5, ByteArray.empty)]) = 140 := by decide

theorem own_some {w : World} {base n c : Nat} {A : Option Addr} {xs : List Value} {e : TypeId} (h : w.ownsRow base e 1 (.slice A n c) n xs) (h0 : 0 < n) : (∃ g, A = some ⟨g, 0, none⟩) ∧ n ≤ c ∧ c ≤ 9223372036854775807 := by
  rcases h.2 with ⟨_, hn⟩ | ⟨g, cap, cur, hv, _, _, h1, h2, _⟩
  · omega
  · injection hv with hA _ h3
    unfold maxLen at h2
    exact ⟨⟨g, hA⟩, by omega, by omega⟩
theorem RowE.made (w : World) (es : List (Int × ByteArray)) (n : Nat) (h : es.length = n) : RowE (w.alloc (.cells (ecE es).toArray 43)) (w.heap.size + 1) (some ⟨w.heap.size, 0, none⟩) n es := by
  subst h
  refine ⟨rfl, fun _ => ⟨w.heap.size, 0, rfl, by omega, fun j hj => ?_⟩⟩
  have e := Blk.cell (Blk.made w 43 (ecE es))
  rw [Nat.zero_add, e, e]
  exact ⟨ec_t _ _ hj, ec_s _ _ hj⟩
/-- Packing the example. -/
def ExOut (w : World) (P : List Int) (e : Ending) (w' : World) : Prop :=
  ∃ g c, e = .returned (.tuple #[.slice (some ⟨g, 0, none⟩) 10 c, .int .i64 0]) ∧ Row w' w'.heap.size (some ⟨g, 0, none⟩) 10 (ints .u8 P) ∧ 10 ≤ c ∧ c ≤ 9223372036854775807 ∧ Below w.heap.size w w'
theorem ex_packs (A : Option Addr) (c : Nat) (w : World) (hr : RowE w w.heap.size A 2 exE) : Calls Tryd.prog 11 #[.slice A 2 c] w (ExOut w (packL exE)) := by
  refine (Pack_any A 2 c exE w hr (by omega)).mono ?_
  rintro e w' ⟨A', c', rfl, o, b⟩
  rw [ex_ok]
  rw [ex_len] at o ⊢
  obtain ⟨⟨g, rfl⟩, h1, h2⟩ := own_some o (by omega)
  exact ⟨g, c', rfl, Row.own o, h1, h2, b⟩

/-- Unpacking what is unpacked to given entries. -/
def UnOut (w : World) (es : List (Int × ByteArray)) (m : Nat) (x : Int) (e : Ending) (w' : World) : Prop :=
  ∃ A c, e = .returned (.tuple #[.slice A m c, .int .i64 x]) ∧ RowE w' w'.heap.size A m es ∧ Below w.heap.size w w'
theorem Unpack_is (A : Option Addr) (n c : Nat) (b : List Int) (w : World) (es : List (Int × ByteArray)) (m : Nat) (x : Int) (h : esU b = es ∧ xU b = x) (hm : es.length = m) (hr : Row w w.heap.size A n (ints .u8 b)) (hn : b.length = n) (hu : U8 b) (hl : n ≤ 150000000000000) (hc : n ≤ c) (hc2 : c ≤ 9223372036854775807) :
    Calls Tryd.prog 19 #[.slice A n c] w (UnOut w es m x) := by
  obtain ⟨rfl, rfl⟩ := h
  subst hm
  refine (Unpack_any A n c b w hr hn hu hl hc hc2).mono ?_
  rintro e w' ⟨A', c', rfl, o, b'⟩
  exact ⟨A', c', rfl, ecE_own o rfl, b'⟩

set_option maxRecDepth 100000 in
set_option maxHeartbeats 4000000 in
theorem awake_true (w : World) : Calls Tryd.prog 17 #[] w fun e w' => e = .returned (.bool true) ∧ Below w.heap.size w w' := by
  obtain ⟨P, hP⟩ : ∃ P, packL exE = P := ⟨_, rfl⟩
  have HT : Hid (P.take 6 = exB) := Lib.hid (by rw [← hP]; exact ex_take)
  have HL : Hid (P.length = 10) := Lib.hid (by rw [← hP]; exact ex_len)
  have HK : Hid (esU P = exE ∧ xU P = 0) := Lib.hid (by rw [← hP]; exact ex_back)
  have HS : Hid (esU (P.take 9) = [] ∧ xU (P.take 9) = 80) := Lib.hid (by rw [← hP, esU, xU, ex_short]; exact ⟨rfl, rfl⟩)
  have HU : Hid (U8 P) := Lib.hid (by rw [← hP, ex_pack]; exact (show U8 exB by unfold exB; intro x hx; simp at hx; omega).app (rowI_u8 _))
  have HPK : Hid (∀ (A : Option Addr) (c : Nat) (w : World), RowE w w.heap.size A 2 exE → Calls Tryd.prog 11 #[.slice A 2 c] w (ExOut w P)) := Lib.hid (by rw [← hP]; exact ex_packs)
  have HR1 : Hid (RowE (w.alloc (.cells (ecE exE).toArray 43)) (w.heap.size + 1) (some ⟨w.heap.size, 0, none⟩) 2 exE) := Lib.hid (RowE.made w exE 2 rfl)
  have HW : Hid (w.alloc (.cells (ecE exE).toArray 43) = w.alloc (.cells #[.int .i64 5, .string ⟨#[97]⟩, .int .i64 7, .string ⟨#[]⟩] 43)) := Lib.hid rfl
  clear hP
  go_enter Tryd.func17, Tryd.ntmps17
  go_wp2_with fail
  rw [← HW.out]
  obtain ⟨w1, hw1⟩ : ∃ W, w.alloc (.cells (ecE exE).toArray 43) = W := ⟨_, rfl⟩
  have b1 : Below w.heap.size w w1 := by rw [← hw1]; exact (Below.refl _ _).alloc (Nat.le_refl _) _
  have r1 : RowE w1 w1.heap.size (some ⟨w.heap.size, 0, none⟩) 2 exE := by
    have := HR1.out
    rw [hw1] at this
    rwa [show w.heap.size + 1 = w1.heap.size by rw [← hw1]; simp] at this
  rw [hw1]
  replace r1 := Lib.hid r1
  replace b1 := Lib.hid b1
  clear hw1 HW HR1
  with_reducible refine (HPK.out _ _ w1 r1.out).mono ?_
  rintro e w2 ⟨g, c, rfl, r2, hc1, hc2, b2⟩
  replace r1 := Lib.hid (r1.out.on b2)
  replace b1 := Lib.hid (next b1.out b2)
  have hc3 : 6 ≤ c := by omega
  have hc4 : 9 ≤ c := by omega
  have RP := Lib.hid r2
  clear b2 r2 HPK
  go_wp2_with fail
  obtain ⟨w3, hw3⟩ : ∃ W, w2.alloc (.cells (ints .u8 exB).toArray 5) = W := ⟨_, rfl⟩
  have b3 : Below w2.heap.size w2 w3 := by rw [← hw3]; exact (Below.refl _ _).alloc (Nat.le_refl _) _
  have r3 : Row w3 w3.heap.size (some ⟨w2.heap.size, 0, none⟩) 6 (ints .u8 exB) := by
    have := Row.lit w2 .u8 exB 5
    rw [hw3] at this
    exact this.wide (by rw [← hw3]; simp)
  replace r1 := Lib.hid (r1.out.on b3)
  replace b1 := Lib.hid (next b1.out b3)
  replace RP := Lib.hid (RP.out.on b3)
  have r4 : Row w3 w3.heap.size (some ⟨g, 0, none⟩) 6 (ints .u8 exB) := by rw [← HT.out]; exact RP.out.take (by omega)
  have hw3' : w2.alloc (.cells #[.int .u8 2, .int .u8 10, .int .u8 2, .int .u8 1, .int .u8 97, .int .u8 0] 5) = w3 := hw3
  rw [hw3']
  have HQ : Hid (Calls Tryd.prog 13 #[.slice (some ⟨g, 0, none⟩) 6 c, .slice (some ⟨w2.heap.size, 0, none⟩) 6 6] w3 fun e w' => e = .returned (.bool true) ∧ Below w3.heap.size w3 w') := Lib.hid (by
    have := eq_any _ _ 6 6 c 6 _ _ exB exB w3 r4 r3 (by omega)
    rwa [show decide (exB = exB) = true by simp] at this)
  clear hw3 hw3' b3 r3 r4
  with_reducible refine HQ.out.mono ?_
  rintro e w4 ⟨rfl, b4⟩
  replace r1 := Lib.hid (r1.out.on b4)
  replace b1 := Lib.hid (next b1.out b4)
  replace RP := Lib.hid (RP.out.on b4)
  clear HQ b4
  have HU1 := Lib.hid (Unpack_is (some ⟨g, 0, none⟩) 10 c P w4 exE 2 0 HK.out rfl RP.out HL.out HU.out (by omega) hc1 hc2)
  go_wp2_with fail
  with_reducible refine HU1.out.mono ?_
  rintro e w5 ⟨Ax, cx, rfl, rx, b5⟩
  replace r1 := Lib.hid (r1.out.on b5)
  replace b1 := Lib.hid (next b1.out b5)
  replace RP := Lib.hid (RP.out.on b5)
  replace rx := Lib.hid rx
  clear HU1 b5
  have HU2 := Lib.hid (Unpack_is (some ⟨g, 0, none⟩) 9 c (P.take 9) w5 [] 0 80 HS.out rfl (RP.out.take (by omega)) (by rw [List.length_take, HL.out]; rfl) (fun x hx => HU.out x (List.mem_of_mem_take hx)) (by omega) hc4 hc2)
  go_wp2_with fail
  with_reducible refine HU2.out.mono ?_
  rintro e w6 ⟨Ay, cy, rfl, _, b6⟩
  replace r1 := Lib.hid (r1.out.on b6)
  replace b1 := Lib.hid (next b1.out b6)
  replace rx := Lib.hid (rx.out.on b6)
  clear HU2 b6 RP
  have HU3 := Lib.hid (Unpack_is none 0 0 [] w6 [] 0 80 (by rw [esU, xU, nil_bad]; exact ⟨rfl, rfl⟩) rfl (Row.zero _ _ _) rfl (fun x hx => by cases hx) (by omega) (by omega) (by omega))
  go_wp2_with fail
  with_reducible refine HU3.out.mono ?_
  rintro e w7 ⟨Az, cz, rfl, _, b7⟩
  replace r1 := Lib.hid (r1.out.on b7)
  replace b1 := Lib.hid (next b1.out b7)
  replace rx := Lib.hid (rx.out.on b7)
  clear HU3 b7
  have HSm : Hid (Calls Tryd.prog 16 #[.slice Ax 2 cx, .slice (some ⟨w.heap.size, 0, none⟩) 2 2] w7 fun e w' => e = .returned (.bool true) ∧ Below w7.heap.size w7 w') := Lib.hid (by
    have := SameE_any Ax _ 2 2 cx 2 exE exE w7 rx.out r1.out (by omega) (by omega)
    rwa [show decide (exE = exE) = true by simp] at this)
  clear rx r1
  go_wp2_with fail
  with_reducible refine HSm.out.mono ?_
  rintro e w8 ⟨rfl, b8⟩
  replace b1 := Lib.hid (next b1.out b8)
  have HC1 : Hid (Calls Tryd.prog 14 #[.slice none 0 0] w8 fun e w' => e = .returned (.int .i64 2) ∧ Below w8.heap.size w8 w') := Lib.hid (Check_any none 0 0 [] w8 ⟨rfl, fun h => absurd h (by omega)⟩ (by omega))
  clear HSm b8
  go_wp2_with fail
  with_reducible refine HC1.out.mono ?_
  rintro e w9 ⟨rfl, b9⟩
  replace b1 := Lib.hid (next b1.out b9)
  clear HC1 b9
  go_wp2_with fail
  obtain ⟨w10, hw10⟩ : ∃ W, w9.alloc (.cells (ecE [(7, ByteArray.empty), (5, ByteArray.empty)]).toArray 43) = W := ⟨_, rfl⟩
  have b10 : Below w9.heap.size w9 w10 := by rw [← hw10]; exact (Below.refl _ _).alloc (Nat.le_refl _) _
  have r10 : RowE w10 w10.heap.size (some ⟨w9.heap.size, 0, none⟩) 2 [(7, ByteArray.empty), (5, ByteArray.empty)] := by
    have := RowE.made w9 [(7, ByteArray.empty), (5, ByteArray.empty)] 2 rfl
    rw [hw10] at this
    rwa [show w9.heap.size + 1 = w10.heap.size by rw [← hw10]; simp] at this
  replace b1 := Lib.hid (next b1.out b10)
  have HC2 : Hid (Calls Tryd.prog 14 #[.slice (some ⟨w9.heap.size, 0, none⟩) 2 2] w10 fun e w' => e = .returned (.int .i64 140) ∧ Below w10.heap.size w10 w') := Lib.hid (by
    have := Check_any _ 2 2 _ w10 r10 (by omega)
    rwa [ex_order] at this)
  have hw10' : w9.alloc (.cells #[.int .i64 7, .string ⟨#[]⟩, .int .i64 5, .string ⟨#[]⟩] 43) = w10 := hw10
  rw [hw10']
  clear hw10 hw10' b10 r10
  with_reducible refine HC2.out.mono ?_
  rintro e w11 ⟨rfl, b11⟩
  replace b1 := next b1.out b11
  clear HC2 b11
  go_wp2_with fail
  go_ret
  exact ⟨rfl, b1⟩
end Go.Proofs.YtpeepolmbcakbaaDoor
