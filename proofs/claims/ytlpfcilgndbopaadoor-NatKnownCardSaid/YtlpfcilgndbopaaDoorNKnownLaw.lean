/- The law NatKnown, walked: both ends; limbs that may not be. -/
import Derived.Test.YtlpfcilgndbopaaDoorNBackMath
import Derived.Test.YtlpfcilgndbopaaDoorNOrderLaw
import Derived.Deep.RegionHeld3
namespace Go.Proofs.YtlpfcilgndbopaaDoor
open Go.RowKit

def oddL : List Int := [1, 0]
def longL : List Int := List.replicate 64 0 ++ [1]
def mostL : List Int := List.replicate 64 4294967295
def squareL : List Int := [1] ++ List.replicate 63 0 ++ [4294967294] ++ List.replicate 63 4294967295
theorem lim_dec {l : List Int} (h : l.all (fun x => decide (0 ≤ x) && decide (x ≤ 4294967295)) = true) : Lim l := fun x hx => by
  have := List.all_eq_true.1 h x hx
  simpa using this
theorem lim_odd : Lim oddL := lim_dec (by decide)
theorem lim_long : Lim longL := lim_dec (by decide +kernel)
theorem lim_most : Lim mostL := lim_dec (by decide +kernel)
theorem lim_square : Lim squareL := lim_dec (by decide +kernel)
theorem chk_odd : chk oddL = 2 := by decide
theorem chk_long : chk longL = 5 := by decide +kernel
theorem chk_most : chk mostL = 0 := by decide +kernel
theorem known_chk : chk2 oddL longL = 2 ∧ chk2 longL oddL = 5 ∧ chk2 [] oddL = 2 ∧ chk2 oddL [] = 2 ∧ chk2 [] longL = 5 ∧ chk2 mostL mostL = 0 ∧ chk2 mostL [1] = 0 ∧ chk2 [] [] = 0 := by
  refine ⟨?_, ?_, ?_, ?_, ?_, ?_, ?_, ?_⟩ <;> decide +kernel
theorem known_add : limbs (val mostL + val [1]) = longL := by
  rw [show val mostL + val [1] = val longL by decide +kernel]
  exact limbs_val lim_long (by unfold Top; decide +kernel)
theorem known_mul : limbs (val mostL * val mostL) = squareL := by
  rw [show val mostL * val mostL = val squareL by decide +kernel]
  exact limbs_val lim_square (by unfold Top; decide +kernel)
theorem known_gcd : gcdL [] [] = [] := by
  rw [gcdL, if_pos (by decide), show Nat.gcd (val []) (val []) = 0 from rfl, limbs_zero]
def ninesL : List UInt8 := Lib.repeatL [57] 600
theorem nines_num : isNum ninesL = true := by decide +kernel
theorem nines_len : ninesL.length = 600 := by rw [ninesL, repeat_len]; rfl
theorem nines_limbs : (limbs (decV ninesL)).length = 63 := by
  have h1 : decV ninesL < 4294967296 ^ 63 := by decide +kernel
  have h2 : ¬ decV ninesL < 4294967296 ^ 62 := by decide +kernel
  have h3 := limbs_len h1
  rcases Nat.lt_or_ge 62 (limbs (decV ninesL)).length with h | h
  · omega
  · refine absurd ?_ h2
    have h4 := val_lt (lim_limbs (decV ninesL))
    rw [val_limbs] at h4
    exact Nat.lt_of_lt_of_le h4 (Nat.pow_le_pow_right (by decide) h)
theorem ones_err : readE (Lib.repeatL [49] 601) = 5 := by
  have h : (Lib.repeatL [49] 601).length = 601 := by rw [repeat_len]; rfl
  rw [readE, if_pos (by rw [h]; decide)]
theorem exes_err : readE (Lib.repeatL [120] 601) = 5 := by
  have h : (Lib.repeatL [120] 601).length = 601 := by rw [repeat_len]; rfl
  rw [readE, if_pos (by rw [h]; decide)]
/-- The texts that may not be. -/
def bads : List ByteArray := [⟨#[]⟩, ⟨#[45, 49]⟩, ⟨#[48, 48]⟩, ⟨#[48, 49]⟩, ⟨#[49, 32]⟩, ⟨#[49, 97]⟩, ⟨#[43, 49]⟩, ⟨#[239, 188, 145]⟩]
theorem bads_err : ∀ s ∈ bads, readE s.data.toList = 4 := by decide
theorem wRead (s : ByteArray) (l : List UInt8) (hs : s.data.toList = l) (x : Int) (hx : readE l = x) (w : World) :
    Calls Tryd.prog 36 #[.string s] w fun e w' => ∃ A m c, e = .returned (.tuple #[.slice A m c, .int .i64 x]) ∧ Below w.heap.size w w' := by
  have h := Read_any s l hs w
  rw [hx] at h
  refine h.mono ?_
  rintro e w' ⟨A, c, rfl, _, b⟩
  exact ⟨A, _, c, rfl, b⟩
/-- A row of limbs, cell by cell. -/
def Keep (w : World) (g m : Nat) (l : List Int) : Prop := g < w.heap.size ∧ ∀ j, j < m → w.cell? ⟨g, j, none⟩ = some (.int .u32 (l.getD j 0))
theorem Keep.on {w w' : World} {g m : Nat} {l : List Int} (h : Keep w g m l) (b : Below w.heap.size w w') : Keep w' g m l :=
  ⟨Nat.lt_of_lt_of_le h.1 b.size, fun j hj => (b.cell (p := ⟨g, j, none⟩) h.1).trans (h.2 j hj)⟩
theorem outC {f : Nat} {args : Array Value} {w : World} {l l' : List Int} {x y : Int} (m : Nat) (hx : x = y) (hl : l = l') (hm : l'.length = m) (h0 : 0 < m) (h : Calls Tryd.prog f args w (AddOut w l x)) :
    Calls Tryd.prog f args w fun e w' => ∃ g c, e = .returned (.tuple #[.slice (some ⟨g, 0, none⟩) m c, .int .i64 y]) ∧ Keep w' g m l' ∧ Below w.heap.size w w' := by
  subst hx hl hm
  refine h.mono ?_
  rintro e w' ⟨A, c, rfl, o, b⟩
  obtain ⟨g, cap', hv, _, hlt⟩ := o.form h0
  injection hv with hA hn hc
  subst hA
  refine ⟨g, c, rfl, ⟨hlt, fun j hj => ?_⟩, b⟩
  exact (o.cellAt j (by omega)).trans (ints_get _ _ _ hj)
theorem rep (b : UInt8) (n : Nat) (hn : n ≤ 1000) (w : World) :
    Calls Tryd.prog 40 #[.string ⟨#[b]⟩, .int .i64 (n : Int)] w fun e w' => ∃ s : ByteArray, e = .returned (.string s) ∧ s.data.toList = Lib.repeatL [b] n ∧ Below w.heap.size w w' := by
  refine (Tryd.strings_Repeat ⟨#[b]⟩ n w (by omega) (by have : (⟨#[b]⟩ : ByteArray).size = 1 := rfl; rw [this]; omega)).mono ?_
  rintro e w' ⟨rfl, h⟩
  exact ⟨_, rfl, rfl, h⟩
/-- A result of which only the error is kept. -/
theorem outE {f : Nat} {args : Array Value} {w : World} {l : List Int} {x y : Int} (hx : x = y) (h : Calls Tryd.prog f args w (AddOut w l x)) :
    Calls Tryd.prog f args w fun e w' => ∃ A m c, e = .returned (.tuple #[.slice A m c, .int .i64 y]) ∧ Below w.heap.size w w' := by
  subst hx
  refine h.mono ?_
  rintro e w' ⟨A, c, rfl, _, b⟩
  exact ⟨A, _, c, rfl, b⟩
theorem textOdd {A : Option Addr} {c : Nat} {w : World} (h : Row w w.heap.size A 2 (ints .u32 oddL)) (ht : Tab w) :
    Calls Tryd.prog 34 #[.slice A 2 c] w fun e w' => e = .returned (.tuple #[.string ⟨#[]⟩, .int .i64 2]) ∧ Below w.heap.size w w' := by
  have := Text_any A 2 c oddL w h lim_odd ht
  rwa [textL, chk_odd, if_neg (by decide)] at this
theorem smallOdd {A : Option Addr} {c : Nat} {w : World} (h : Row w w.heap.size A 2 (ints .u32 oddL)) :
    Calls Tryd.prog 13 #[.slice A 2 c] w fun e w' => e = .returned (.tuple #[.int .u64 0, .bool false]) ∧ w = w' := by
  have := Small_any A 2 c _ oddL w h lim_odd
  rwa [show smallOk oddL = false by decide, if_neg (by decide)] at this
theorem smallThree {A : Option Addr} {c : Nat} {w : World} (h : Row w w.heap.size A 3 (ints .u32 [1, 2, 3])) :
    Calls Tryd.prog 13 #[.slice A 3 c] w fun e w' => e = .returned (.tuple #[.int .u64 0, .bool false]) ∧ w = w' := by
  have := Small_any A 3 c _ [1, 2, 3] w h (lim_dec (by decide))
  rwa [show smallOk [1, 2, 3] = false by decide, if_neg (by decide)] at this
theorem readN (s : ByteArray) (hs : s.data.toList = ninesL) (w : World) :
    Calls Tryd.prog 36 #[.string s] w fun e w' => ∃ A c, e = .returned (.tuple #[.slice A 63 c, .int .i64 0]) ∧ Below w.heap.size w w' := by
  refine (readG ninesL nines_num (by rw [nines_len]; decide) s hs).mono ?_
  rintro e w' ⟨A, m, c, rfl, g, b⟩
  obtain rfl : m = 63 := by rw [← g.1, nines_limbs]
  exact ⟨A, c, rfl, b⟩
theorem divE_out {f : Nat} {args : Array Value} {w : World} {q r : List Int} {x y : Int} (hx : x = y) (h : Calls Tryd.prog f args w (DivOut w q r x)) :
    Calls Tryd.prog f args w fun e w' => ∃ A m c A' m' c', e = .returned (.tuple #[.slice A m c, .slice A' m' c', .int .i64 y]) ∧ Below w.heap.size w w' := by
  subst hx
  refine h.mono ?_
  rintro e w' ⟨A, c, A', c', rfl, _, _, b⟩
  exact ⟨A, _, c, A', _, c', rfl, b⟩
theorem nilR (w : World) : Row w w.heap.size none 0 (ints .u32 []) := Row.zero _ _ _

set_option maxRecDepth 100000 in
set_option maxHeartbeats 4000000 in
theorem NatKnown_walk (w : World) (ht : Tab w) :
    Calls Tryd.prog 11 #[] w fun e w' => e = .returned (.bool true) ∧ Below w.heap.size w w' := by
  obtain ⟨i0, hi, hz0, hz1, hz2⟩ := u32_parts
  have HT := Lib.hid ht
  clear ht
  go_enter Tryd.func11, Tryd.ntmps11
  go_wp2_with (refine wpList_make_full _ rfl _ _ 22 rfl _ 34 i0 (.int .u32 0) 1 Tryd.underlying22 hi hz0 hz1 .i64 .i64 _ _ 65 rfl rfl (by omega) (by omega) (by rw [hz2]; omega) (by unfold maxLen; omega) (Nat.le_refl _) ?_)
  intro w1 own1 gr1
  rw [made32, List.nil_append] at own1
  have b1 : Below w.heap.size w w1 := (Below.refl _ _).grown gr1 (Nat.le_refl _) (by simp)
  obtain ⟨g1, hg1⟩ : ∃ g, w.heap.size = g := ⟨_, rfl⟩
  rw [hg1] at own1 ⊢
  have fz1 := own1.frozenAt 64
  have cl1 := (own1.cellAt 64 (by omega)).trans (ints_get .u32 (List.replicate 65 0) 64 (by decide))
  have st := own1.stored 64 (.int .u32 1)
  rw [ints_set32, show (List.replicate 65 (0 : Int)).set 64 1 = longL by decide +kernel] at st
  have bW : Below w.heap.size w (w1.setCell ⟨g1, 64, none⟩ (.int .u32 1)) := b1.grown st.2 b1.size (fun k hk => by injection hk with hk; omega)
  have HS := Lib.hid (And.intro (Row.own st.1) bW)
  have HG := Lib.hid hg1
  clear own1 gr1 b1 st bW hg1
  go_wp2_with (refine wpList_make_full _ rfl _ _ 22 rfl _ 34 i0 (.int .u32 0) 1 Tryd.underlying22 hi hz0 hz1 .i64 .i64 _ _ 64 rfl rfl (by omega) (by omega) (by rw [hz2]; omega) (by unfold maxLen; omega) (Nat.le_refl _) ?_)
  intro w2 own2 gr2
  rw [made32, List.nil_append] at own2
  have hsz : ((w1.setCell ⟨g1, 64, none⟩ (.int .u32 1)).alloc (.cells #[.int .u32 1, .int .u32 0] 34)).heap.size = w1.heap.size + 1 := by simp [World.setCell]
  have rl := HS.out.1.grew (.cells #[.int .u32 1, .int .u32 0] 34)
  have ro := Row.lits (w1.setCell ⟨g1, 64, none⟩ (.int .u32 1)) 34 #[.int .u32 1, .int .u32 0] 2 (ints .u32 oddL) rfl rfl
  have bB : Below w.heap.size w ((w1.setCell ⟨g1, 64, none⟩ (.int .u32 1)).alloc (.cells #[.int .u32 1, .int .u32 0] 34)) := HS.out.2.alloc HS.out.2.size _
  rw [show (w1.setCell ⟨g1, 64, none⟩ (.int .u32 1)).heap.size = w1.heap.size by simp [World.setCell]] at ro
  obtain ⟨WB, hWB⟩ : ∃ W, (w1.setCell ⟨g1, 64, none⟩ (.int .u32 1)).alloc (.cells #[.int .u32 1, .int .u32 0] 34) = W := ⟨_, rfl⟩
  rw [hWB] at rl ro bB gr2 hsz
  obtain ⟨go, hgo⟩ : ∃ g, w1.heap.size = g := ⟨_, rfl⟩
  rw [hgo] at ro own2 hsz ⊢
  obtain ⟨g2, hg2⟩ : ∃ g, go + 1 = g := ⟨_, rfl⟩
  rw [hg2] at own2 hsz ⊢
  replace hg2 := hsz
  rw [hg2] at rl ro
  have gB : Below g2 WB w2 := by rw [← hg2]; exact (Below.refl _ _).grown gr2 (Nat.le_refl _) (by simp)
  have HW := Lib.hid (And.intro rl (And.intro ro bB))
  have HG2 := Lib.hid hg2
  clear cl1 fz1 HS hsz hWB rl ro bB hgo hg2 gr2
  go_wp2_with fail
  go_loopw [4] (fun s4 wr => ∃ k : Nat, k ≤ 64 ∧ s4 = .int .i64 k ∧ wr.ownsRow g2 34 1 (.slice (some ⟨g2, 0, none⟩) 64 64) 64 (ints .u32 (List.replicate k 4294967295 ++ List.replicate (64 - k) 0)) ∧ Below g2 WB wr) (fun i _ => 64 - (intOf i).toNat)
  case atStart => exact ⟨0, by decide, rfl, own2, gB⟩
  case round =>
    obtain ⟨k, hk, rfl, ol, hb⟩ := hrel
    rename World => wr
    by_cases hlt : k < 64
    · have hlt' : (k : Int) < 64 := by omega
      have hfz := ol.frozenAt k
      have hcl := (ol.cellAt k (by omega)).trans (ints_get .u32 _ k (by simp; omega))
      have st := ol.stored k (.int .u32 4294967295)
      rw [ints_set32, show (List.replicate k (4294967295 : Int) ++ List.replicate (64 - k) (0 : Int)).set k (4294967295 : Int) = List.replicate (k + 1) (4294967295 : Int) ++ List.replicate (64 - (k + 1)) (0 : Int) by
        rw [List.set_append_right _ _ (by simp), List.length_replicate, Nat.sub_self, show 64 - k = (64 - (k + 1)) + 1 by omega, List.replicate_succ, List.set_cons_zero, List.replicate_succ', List.append_assoc]; rfl] at st
      have hb2 : Below g2 WB (wr.setCell ⟨g2, k, none⟩ (.int .u32 4294967295)) := hb.grown st.2 (by rw [← HG2.out]; exact HG2.out ▸ hb.size) (fun j hj => by injection hj with hj; omega)
      have HSt := Lib.hid (And.intro st.1 hb2)
      have hk1 : k + 1 ≤ 64 := hlt
      clear ol hb st hb2
      go_wp2_with fail
      refine ⟨⟨k + 1, hk1, by go_num, HSt.out.1, HSt.out.2⟩, ?_⟩
      simp [intOf]
      omega
    · obtain rfl : k = 64 := by omega
      have rm := Row.own ol
      rw [show List.replicate 64 (4294967295 : Int) ++ List.replicate (64 - 64) 0 = mostL by rfl] at rm
      have hbW : Below WB.heap.size WB wr := HG2.out ▸ hb
      have rl := (HG2.out ▸ HW.out.1 : Row WB WB.heap.size (some ⟨g1, 0, none⟩) 65 (ints .u32 longL)).on hbW
      have ro := (HG2.out ▸ HW.out.2.1 : Row WB WB.heap.size (some ⟨go, 0, none⟩) 2 (ints .u32 oddL)).on hbW
      have b0 := next HW.out.2.2 hbW
      have HX := Lib.hid (fun (w' : World) (b : Below wr.heap.size wr w') => And.intro (rl.on b) (And.intro (ro.on b) (rm.on b)))
      have HB0 := Lib.hid b0
      clear ol hb rm hbW rl ro b0 hlt hk
      have b := Below.refl wr.heap.size wr
      go_wp2_with fail
      have C := outE known_chk.1 (Add_any (some ⟨go, 0, none⟩) (some ⟨g1, 0, none⟩) 2 2 65 65 oddL longL wr (HX.out wr b).2.1 (HX.out wr b).1 lim_odd lim_long)
      with_reducible refine C.mono ?_
      rintro e w3 ⟨A3, m3, c3, rfl, b'⟩
      replace b := next b b'
      clear C b'
      go_wp2_with fail
      have C := outE known_chk.2.1 (Add_any (some ⟨g1, 0, none⟩) (some ⟨go, 0, none⟩) 65 65 2 2 longL oddL w3 (HX.out w3 b).1 (HX.out w3 b).2.1 lim_long lim_odd)
      with_reducible refine C.mono ?_
      rintro e w4 ⟨A4, m4, c4, rfl, b'⟩
      replace b := next b b'
      clear C b'
      go_wp2_with fail
      have C := outE known_chk.2.2.1 (Mul_any none (some ⟨go, 0, none⟩) 0 0 2 2 [] oddL w4 (nilR _) (HX.out w4 b).2.1 Lim.nil lim_odd)
      with_reducible refine C.mono ?_
      rintro e w5 ⟨A5, m5, c5, rfl, b'⟩
      replace b := next b b'
      clear C b'
      go_wp2_with fail
      have C := divE_out (y := 2) (by decide) (Div_any (some ⟨go, 0, none⟩) none 2 2 0 0 oddL [] w5 (HX.out w5 b).2.1 (nilR _) lim_odd Lim.nil)
      with_reducible refine C.mono ?_
      rintro e w6 ⟨A6, m6, c6, A6', m6', c6', rfl, b'⟩
      replace b := next b b'
      clear C b'
      go_wp2_with fail
      have C := outE known_chk.2.2.2.2.1 (Gcd_any none (some ⟨g1, 0, none⟩) 0 0 65 65 [] longL w6 (nilR _) (HX.out w6 b).1 Lim.nil lim_long)
      with_reducible refine C.mono ?_
      rintro e w7 ⟨A7, m7, c7, rfl, b'⟩
      replace b := next b b'
      clear C b'
      go_wp2_with fail
      have C := textOdd (c := 2) (HX.out w7 b).2.1 (HT.out.below (next HB0.out b))
      with_reducible refine C.mono ?_
      rintro e w8 ⟨rfl, b'⟩
      replace b := next b b'
      clear C b'
      go_wp2_with fail
      have C := smallOdd (c := 2) (HX.out w8 b).2.1
      with_reducible refine C.mono ?_
      rintro e w' ⟨rfl, rfl⟩
      clear C
      go_wp2_with fail
      have r3 := Row.lits w8 34 #[.int .u32 1, .int .u32 2, .int .u32 3] 3 (ints .u32 [1, 2, 3]) rfl rfl
      have C := smallThree (c := 3) r3
      with_reducible refine C.mono ?_
      rintro e w9 ⟨rfl, rfl⟩
      replace b := b.alloc b.size (.cells #[.int .u32 1, .int .u32 2, .int .u32 3] 34)
      clear C r3
      obtain ⟨w9, hw9⟩ : ∃ W, w8.alloc (.cells #[.int .u32 1, .int .u32 2, .int .u32 3] 34) = W := ⟨_, rfl⟩
      rw [hw9] at b
      go_wp2_with fail
      try rw [hw9]
      clear hw9
      with_reducible refine (ofK 1 [1] 1 w9 l1 rfl (by decide) (by decide)).mono ?_
      rintro e w10 ⟨A10, c10, rfl, r10, b'⟩
      replace b := next b b'
      clear b'
      go_wp2_with fail
      have C := outC 65 (y := 0) known_chk.2.2.2.2.2.2.1 ((if_pos known_chk.2.2.2.2.2.2.1).trans known_add) (by decide +kernel) (by decide) (Add_any (some ⟨g2, 0, none⟩) A10 64 64 1 c10 mostL [1] w10 (HX.out w10 b).2.2 r10 lim_most (limK l1))
      with_reducible refine C.mono ?_
      rintro e w11 ⟨gx, cx, rfl, kx, b'⟩
      replace b := next b b'
      clear C b'
      go_wp2_with fail
      have C := outC 128 (y := 0) known_chk.2.2.2.2.2.1 ((if_pos known_chk.2.2.2.2.2.1).trans known_mul) (by decide +kernel) (by decide) (Mul_any (some ⟨g2, 0, none⟩) (some ⟨g2, 0, none⟩) 64 64 64 64 mostL mostL w11 (HX.out w11 b).2.2 (HX.out w11 b).2.2 lim_most lim_most)
      with_reducible refine C.mono ?_
      rintro e w12 ⟨gy, cy, rfl, ky, b'⟩
      replace b := next b b'
      replace kx := kx.on b'
      clear C b'
      go_wp2_with fail
      have C := outK 0 ⟨known_chk.2.2.2.2.2.2.2, known_gcd⟩ (Gcd_any none none 0 0 0 0 [] [] w12 (nilR _) (nilR _) Lim.nil Lim.nil) rfl
      with_reducible refine C.mono ?_
      rintro e w13 ⟨Az, cz, rfl, rz, b'⟩
      replace b := next b b'
      replace kx := kx.on b'
      replace ky := ky.on b'
      clear C b'
      go_wp2_with fail
      have C := (show Calls Tryd.prog 40 #[.string ⟨#[49]⟩, .int .i64 601] w13 _ from rep 49 601 (by decide) w13)
      with_reducible refine C.mono ?_
      rintro e w14 ⟨s49, rfl, hs49, b'⟩
      replace b := next b b'
      replace kx := kx.on b'
      replace ky := ky.on b'
      clear C b'
      go_wp2_with fail
      have C := wRead s49 _ hs49 5 ones_err w14
      with_reducible refine C.mono ?_
      rintro e w15 ⟨A49, m49, c49, rfl, b'⟩
      replace b := next b b'
      replace kx := kx.on b'
      replace ky := ky.on b'
      clear hs49
      clear C b'
      go_wp2_with fail
      have C := (show Calls Tryd.prog 40 #[.string ⟨#[120]⟩, .int .i64 601] w15 _ from rep 120 601 (by decide) w15)
      with_reducible refine C.mono ?_
      rintro e w16 ⟨s120, rfl, hs120, b'⟩
      replace b := next b b'
      replace kx := kx.on b'
      replace ky := ky.on b'
      clear C b'
      go_wp2_with fail
      have C := wRead s120 _ hs120 5 exes_err w16
      with_reducible refine C.mono ?_
      rintro e w17 ⟨A120, m120, c120, rfl, b'⟩
      replace b := next b b'
      replace kx := kx.on b'
      replace ky := ky.on b'
      clear hs120
      clear C b'
      go_wp2_with fail
      have C := (show Calls Tryd.prog 40 #[.string ⟨#[57]⟩, .int .i64 600] w17 _ from rep 57 600 (by decide) w17)
      with_reducible refine C.mono ?_
      rintro e w18 ⟨s57, rfl, hs57, b'⟩
      replace b := next b b'
      replace kx := kx.on b'
      replace ky := ky.on b'
      clear C b'
      go_wp2_with fail
      have C := readN s57 hs57 w18
      with_reducible refine C.mono ?_
      rintro e w19 ⟨An, cn, rfl, b'⟩
      replace b := next b b'
      replace kx := kx.on b'
      replace ky := ky.on b'
      clear hs57
      clear C b'
      go_wp2_with fail
      have rb := Row.lits w19 9 #[.string ⟨#[]⟩, .string ⟨#[45, 49]⟩, .string ⟨#[48, 48]⟩, .string ⟨#[48, 49]⟩, .string ⟨#[49, 32]⟩, .string ⟨#[49, 97]⟩, .string ⟨#[43, 49]⟩, .string ⟨#[239, 188, 145]⟩] 8 (bads.map Value.string) rfl rfl
      replace b := b.alloc b.size (.cells #[.string ⟨#[]⟩, .string ⟨#[45, 49]⟩, .string ⟨#[48, 48]⟩, .string ⟨#[48, 49]⟩, .string ⟨#[49, 32]⟩, .string ⟨#[49, 97]⟩, .string ⟨#[43, 49]⟩, .string ⟨#[239, 188, 145]⟩] 9)
      obtain ⟨gb, hgb⟩ : ∃ g, w19.heap.size = g := ⟨_, rfl⟩
      rw [hgb] at rb
      have kx' : Keep (w19.alloc (.cells #[.string ⟨#[]⟩, .string ⟨#[45, 49]⟩, .string ⟨#[48, 48]⟩, .string ⟨#[48, 49]⟩, .string ⟨#[49, 32]⟩, .string ⟨#[49, 97]⟩, .string ⟨#[43, 49]⟩, .string ⟨#[239, 188, 145]⟩] 9)) gx 65 longL := kx.on ((Below.refl _ _).alloc (Nat.le_refl _) _)
      have ky' : Keep (w19.alloc (.cells #[.string ⟨#[]⟩, .string ⟨#[45, 49]⟩, .string ⟨#[48, 48]⟩, .string ⟨#[48, 49]⟩, .string ⟨#[49, 32]⟩, .string ⟨#[49, 97]⟩, .string ⟨#[43, 49]⟩, .string ⟨#[239, 188, 145]⟩] 9)) gy 128 squareL := ky.on ((Below.refl _ _).alloc (Nat.le_refl _) _)
      clear kx ky
      obtain ⟨Wb, hWb⟩ : ∃ W, w19.alloc (.cells #[.string ⟨#[]⟩, .string ⟨#[45, 49]⟩, .string ⟨#[48, 48]⟩, .string ⟨#[48, 49]⟩, .string ⟨#[49, 32]⟩, .string ⟨#[49, 97]⟩, .string ⟨#[43, 49]⟩, .string ⟨#[239, 188, 145]⟩] 9) = W := ⟨_, rfl⟩
      rw [hWb] at rb b kx' ky'
      try rw [hWb]
      try rw [hgb]
      have hgl : gb < Wb.heap.size := by rw [← hWb]; show gb < (w19.heap.push _).size; rw [Array.size_push]; omega
      clear hWb hgb
      have HXY := Lib.hid (And.intro kx' (And.intro ky' (And.intro b hgl)))
      have HRB := Lib.hid rb
      clear kx' ky' b rb hgl
      go_loopw [35] (fun s35 wx => ∃ k : Nat, k ≤ 8 ∧ s35 = .int .i64 k ∧ Below Wb.heap.size Wb wx) (fun i _ => 8 - (intOf i).toNat)
      case atStart => exact ⟨0, by decide, rfl, Below.refl _ _⟩
      case round =>
        obtain ⟨k, hk, rfl, hb⟩ := hrel
        rename World => wx
        by_cases hlt : k < 8
        · have hlt' : (k : Int) < 8 := by omega
          obtain ⟨sk, hsk⟩ : ∃ s, bads[k]? = some s := ⟨_, List.getElem?_eq_getElem (show k < bads.length from hlt)⟩
          have hcl : wx.cell? ⟨gb, k, none⟩ = some (.string sk) := by
            refine (hb.cell (p := ⟨gb, k, none⟩) HXY.out.2.2.2).trans ?_
            have := HRB.out.cell hlt
            rw [Nat.zero_add] at this
            rw [this, List.getElem?_map, hsk]; rfl
          have herr := bads_err sk (List.mem_of_getElem? hsk)
          have C := wRead sk _ rfl 4 herr wx
          have HB := Lib.hid hb
          have hk1 : k + 1 ≤ 8 := hlt
          clear hsk herr hb
          go_wp2_with fail
          with_reducible refine C.mono ?_
          rintro e wy ⟨Ay, my, cy', rfl, b'⟩
          have hb2 := next HB.out b'
          clear C b'
          go_wp2_with fail
          refine ⟨⟨k + 1, hk1, by go_num, hb2⟩, ?_⟩
          simp [intOf]
          omega
        · have hnlt : ¬ (k : Int) < 8 := by omega
          have kx := HXY.out.1.on hb
          have ky := HXY.out.2.1.on hb
          have b := next HXY.out.2.2.1 hb
          have cx64 := kx.2 64 (by decide)
          have cx0 := kx.2 0 (by decide)
          have cy0 := ky.2 0 (by decide)
          have cy127 := ky.2 127 (by decide)
          rw [show longL.getD 64 0 = 1 by decide +kernel] at cx64
          rw [show longL.getD 0 0 = 0 by decide +kernel] at cx0
          rw [show squareL.getD 0 0 = 1 by decide +kernel] at cy0
          rw [show squareL.getD 127 0 = 4294967295 by decide +kernel] at cy127
          clear kx ky hb hlt hk
          go_wp2_with fail
          with_reducible refine (works_any wx (HT.out.below (next HB0.out b))).mono ?_
          rintro e wf ⟨rfl, b'⟩
          replace b := next b b'
          clear b'
          have C := Check_any (some ⟨g1, 0, none⟩) 65 65 _ longL wf (HX.out wf b).1
          rw [chk_long] at C
          go_wp2_with fail
          with_reducible refine C.mono ?_
          rintro e w' ⟨rfl, rfl⟩
          clear C
          have C := Check_any (some ⟨go, 0, none⟩) 2 2 _ oddL wf (HX.out wf b).2.1
          rw [chk_odd] at C
          go_wp2_with fail
          with_reducible refine C.mono ?_
          rintro e w' ⟨rfl, rfl⟩
          clear C
          have C := Check_any (some ⟨g2, 0, none⟩) 64 64 _ mostL wf (HX.out wf b).2.2
          rw [chk_most] at C
          go_wp2_with fail
          with_reducible refine C.mono ?_
          rintro e w' ⟨rfl, rfl⟩
          clear C
          have C := Cmp_any (some ⟨go, 0, none⟩) none 2 2 0 0 _ oddL [] wf (HX.out wf b).2.1 (nilR wf) lim_odd Lim.nil
          rw [show cmpE oddL [] = 0 by rw [cmpE, if_neg (by decide)]] at C
          go_wp2_with fail
          with_reducible refine C.mono ?_
          rintro e w' ⟨rfl, rfl⟩
          clear C
          go_wp2
          go_ret
          exact ⟨rfl, next HB0.out b⟩
end Go.Proofs.YtlpfcilgndbopaaDoor
