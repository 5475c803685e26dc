/- QMath QEnc QEnc2 QDec QEach QRunes: taken over. -/
import Derived.Test.YtomjdicedjdpnaaBase
import Derived.Deep.RegionHeld3
import Derived.Deep.CutRange
import Derived.Deep.QuietTactic
import Derived.RangeFuncNested
import Derived.RangeFuncBound
import Derived.RangeFuncCalls
import Derived.RangeFuncLeaves
import Derived.RangeFuncBox
import Derived.RangeFuncWrites
import Derived.Shelf.Abstract
import Derived.Shelf.RegionOpen
import Derived.WalkKit
import Derived.OwnWalkIn
import Derived.TacticsInMore
import Derived.LoopNIn
import Derived.LoopIn
import Derived.Maps.AppendAt
namespace Go.Proofs.Ytomjdicedjdpnaa
open Go.RowKit

def bl (s : ByteArray) : List Nat := s.data.toList.map UInt8.toNat
def ofl (l : List Nat) : ByteArray := ⟨(l.map UInt8.ofNat).toArray⟩
def Byt (l : List Nat) : Prop := ∀ x ∈ l, x < 256
theorem bl_len (s : ByteArray) : (bl s).length = s.size := by rw [bl, List.length_map, Array.length_toList]; rfl
theorem bl_byt (s : ByteArray) : Byt (bl s) := by
  intro x hx
  obtain ⟨b, _, rfl⟩ := List.mem_map.1 hx
  exact b.toNat_lt
theorem bl_ofl {l : List Nat} (h : Byt l) : bl (ofl l) = l := by
  simp only [bl, ofl, List.map_map]
  refine (List.map_congr_left fun x hx => ?_).trans (List.map_id l)
  have := h x hx
  simp only [Function.comp, id]
  rw [UInt8.toNat_ofNat']
  omega
theorem bl_inj {s t : ByteArray} (h : bl s = bl t) : s = t := by
  apply ByteArray.ext
  apply Array.toList_inj.1
  refine (List.map_inj_right ?_).1 h
  intro a b hab
  exact UInt8.toNat_inj.1 hab
theorem bl_append (a b : ByteArray) : bl (a ++ b) = bl a ++ bl b := by simp [bl, ByteArray.data_append]
theorem bl_extract (s : ByteArray) (i j : Nat) : bl (s.extract i j) = ((bl s).take j).drop i := by
  simp [bl, ByteArray.data_extract, List.map_drop, List.map_take]
  rw [List.drop_take]
theorem bl_empty : bl ByteArray.empty = [] := rfl
theorem bl_nil {s : ByteArray} : s = ByteArray.empty ↔ bl s = [] := ⟨fun h => by rw [h]; rfl, fun h => bl_inj (h.trans bl_empty.symm)⟩
theorem bl_get (s : ByteArray) (i : Nat) (h : i < s.size) : (s[i]).toNat = (bl s).getD i 0 := by
  have h' : i < s.data.size := h
  rw [List.getD_eq_getElem?_getD]
  simp only [bl, List.getElem?_map, Array.getElem?_toList, ByteArray.getElem_eq_getElem_data]
  rw [Array.getElem?_eq_getElem h']
  rfl
theorem toList_bl (s t : ByteArray) : (s.toList == t.toList) = decide (bl s = bl t) := by
  rw [ByteArray.toList_eq, ByteArray.toList_eq]
  by_cases h : s = t
  · subst h; simp
  · have h1 : bl s ≠ bl t := fun e => h (bl_inj e)
    have h2 : ¬ s.data = t.data := fun e => h (ByteArray.ext e)
    simp [h1, h2]
theorem Byt.take {l : List Nat} (h : Byt l) (n : Nat) : Byt (l.take n) := fun x hx => h x (List.mem_of_mem_take hx)
theorem Byt.drop {l : List Nat} (h : Byt l) (n : Nat) : Byt (l.drop n) := fun x hx => h x (List.mem_of_mem_drop hx)
theorem Byt.app {l m : List Nat} (h : Byt l) (k : Byt m) : Byt (l ++ m) := fun x hx => by
  rcases List.mem_append.1 hx with h1 | h1
  · exact h x h1
  · exact k x h1
theorem Byt.cons {x : Nat} {l : List Nat} (h : x < 256) (k : Byt l) : Byt (x :: l) := fun y hy => by
  rcases List.mem_cons.1 hy with rfl | h1
  · exact h
  · exact k y h1
theorem Byt.nil : Byt [] := fun x hx => by cases hx

/-- The bytes of a rune's number. -/
def encN (n : Nat) : List Nat :=
  if n < 128 then [n]
  else if n < 2048 then [192 + n / 64, 128 + n % 64]
  else if n < 65536 then [224 + n / 4096, 128 + n / 64 % 64, 128 + n % 64]
  else [240 + n / 262144, 128 + n / 4096 % 64, 128 + n / 64 % 64, 128 + n % 64]
def runeN (n : Nat) : Bool := decide (n ≤ 1114111 ∧ (n < 55296 ∨ 57343 < n))
def isR (r : Int) : Bool := decide (0 ≤ r ∧ r ≤ 1114111 ∧ (r < 55296 ∨ 57343 < r))
def runeOf (r : Int) : Nat := if isR r then r.toNat else 65533
def enc (r : Int) : List Nat := encN (runeOf r)
theorem isR_nat (n : Nat) : isR (n : Int) = runeN n := by
  unfold isR runeN
  apply decide_eq_decide.2
  omega
theorem runeOf_le (r : Int) : runeOf r ≤ 1114111 ∧ runeN (runeOf r) = true := by
  unfold runeOf
  split
  · rename_i h
    have h' := of_decide_eq_true h
    exact ⟨by omega, by unfold runeN; exact decide_eq_true (by omega)⟩
  · exact ⟨by decide, by decide⟩
theorem encN_byt {n : Nat} (h : n ≤ 1114111) : Byt (encN n) := by
  unfold encN
  intro x hx
  split at hx
  · simp at hx; omega
  · split at hx
    · simp at hx; omega
    · split at hx <;> (simp at hx; omega)
theorem enc_byt (r : Int) : Byt (enc r) := encN_byt (runeOf_le r).1
theorem encN_len (n : Nat) : 1 ≤ (encN n).length ∧ (encN n).length ≤ 4 := by
  unfold encN
  repeat' split
  all_goals simp

/-- How many bytes begin with that one; 0: none. -/
def szB (c : Nat) : Nat := if c < 128 then 1 else if c < 192 then 0 else if c < 224 then 2 else if c < 240 then 3 else if c < 248 then 4 else 0
def headB (c n : Nat) : Nat := c % 2 ^ (7 - n)
def foldB (r : Nat) (l : List Nat) : Nat := l.foldl (fun r b => r * 64 + b % 64) r
def candB (L : List Nat) : Nat := match L with
  | [] => 0
  | c :: t => if szB c = 1 then c else foldB (headB c (szB c)) (t.take (szB c - 1))
/-- The first rune, and its bytes' number. -/
def dec (L : List Nat) : Nat × Nat := match L with
  | [] => (0, 0)
  | c :: t => if szB c = 0 ∨ t.length + 1 < szB c then (65533, 1) else if enc (candB (c :: t) : Nat) = (c :: t).take (szB c) then (candB (c :: t), szB c) else (65533, 1)
theorem szB_le (c : Nat) : szB c ≤ 4 := by
  unfold szB
  repeat' split
  all_goals omega
theorem dec_size {L : List Nat} (h : L ≠ []) : 1 ≤ (dec L).2 ∧ (dec L).2 ≤ L.length := by
  cases L with
  | nil => exact absurd rfl h
  | cons c t =>
    unfold dec
    try simp only
    split
    · simp
    · rename_i h1
      split
      · simp only [List.length_cons]; omega
      · simp
theorem dec_size4 (L : List Nat) : (dec L).2 ≤ 4 := by
  unfold dec
  split
  · simp
  · rename_i c t
    have := szB_le c
    split
    · omega
    · split <;> (try simp only) <;> omega
theorem foldB_lt {r k : Nat} (hr : r < k) (l : List Nat) : foldB r l < k * 64 ^ l.length := by
  induction l generalizing r k with
  | nil => simpa [foldB] using hr
  | cons b t ih =>
    have h1 : r * 64 + b % 64 < k * 64 := by omega
    have := ih h1
    simp only [foldB, List.foldl_cons, List.length_cons] at this ⊢
    rw [Nat.pow_succ, Nat.mul_comm (64 ^ t.length) 64, ← Nat.mul_assoc]
    exact this
theorem candB_lt {L : List Nat} (hb : Byt L) : candB L < 2097152 := by
  cases L with
  | nil => simp [candB]
  | cons c t =>
    have hc := hb c (by simp)
    unfold candB
    try simp only
    split
    · omega
    · have h := szB_le c
      have hl : (t.take (szB c - 1)).length ≤ szB c - 1 := by rw [List.length_take]; omega
      have hh : headB c (szB c) < 2 ^ (7 - szB c) := Nat.mod_lt _ (Nat.two_pow_pos _)
      refine Nat.lt_of_lt_of_le (foldB_lt hh _) ?_
      refine Nat.le_trans (Nat.mul_le_mul_left _ (Nat.pow_le_pow_right (by omega) hl)) ?_
      have : szB c = 0 ∨ szB c = 1 ∨ szB c = 2 ∨ szB c = 3 ∨ szB c = 4 := by omega
      rcases this with e | e | e | e | e <;> rw [e] <;> decide
theorem dec_lt {L : List Nat} (hb : Byt L) : (dec L).1 < 2097152 := by
  cases L with
  | nil => simp [dec]
  | cons c t =>
    have := candB_lt hb
    unfold dec
    try simp only
    split
    · omega
    · split
      · exact this
      · omega
/-- The runes of bytes, with the bytes of each. -/
def partsF : Nat → List Nat → List (List Nat × Nat)
  | 0, _ => []
  | f + 1, L => if L = [] then [] else (L.take (dec L).2, (dec L).1) :: partsF f (L.drop (dec L).2)
def parts (L : List Nat) : List (List Nat × Nat) := partsF L.length L
theorem partsF_more (f : Nat) : ∀ (g : Nat) (L : List Nat), L.length ≤ f → L.length ≤ g → partsF f L = partsF g L := by
  induction f with
  | zero =>
    intro g L h1 _
    have : L = [] := List.eq_nil_of_length_eq_zero (by omega)
    subst this
    cases g <;> simp [partsF]
  | succ f ih =>
    intro g L h1 h2
    cases g with
    | zero =>
      have : L = [] := List.eq_nil_of_length_eq_zero (by omega)
      subst this
      simp [partsF]
    | succ g =>
      simp only [partsF]
      by_cases hL : L = []
      · rw [if_pos hL, if_pos hL]
      · rw [if_neg hL, if_neg hL]
        have := dec_size hL
        rw [ih g (L.drop (dec L).2) (by rw [List.length_drop]; omega) (by rw [List.length_drop]; omega)]
theorem parts_nil : parts [] = [] := rfl
theorem parts_cons {L : List Nat} (h : L ≠ []) : parts L = (L.take (dec L).2, (dec L).1) :: parts (L.drop (dec L).2) := by
  have hd := dec_size h
  unfold parts
  cases hL : L.length with
  | zero => exact absurd (List.eq_nil_of_length_eq_zero hL) h
  | succ n =>
    simp only [partsF]
    rw [if_neg h, partsF_more n (L.drop (dec L).2).length (L.drop (dec L).2) (by rw [List.length_drop]; omega) (Nat.le_refl _)]
theorem parts_len (L : List Nat) : (parts L).length ≤ L.length := by
  suffices ∀ n (L : List Nat), L.length ≤ n → (parts L).length ≤ L.length from this _ L (Nat.le_refl _)
  intro n
  induction n with
  | zero =>
    intro L h
    have : L = [] := List.eq_nil_of_length_eq_zero (by omega)
    subst this
    simp [parts_nil]
  | succ n ih =>
    intro L h
    by_cases hL : L = []
    · subst hL; simp [parts_nil]
    · have hd := dec_size hL
      rw [parts_cons hL, List.length_cons]
      have := ih (L.drop (dec L).2) (by rw [List.length_drop]; omega)
      rw [List.length_drop] at this
      omega

theorem i32_ofInt (a : Nat) (ha : a < 2147483648) : (BitVec.ofInt 32 (a : Int)).toNat = a := by
  rw [BitVec.ofInt_natCast, BitVec.toNat_ofNat]; exact Nat.mod_eq_of_lt (by omega)
theorem i32_wrap (n : Nat) (h : n < 2147483648) : IntKind.i32.wrap (n : Int) = (n : Int) := by
  rw [IntKind.wrap_i32]
  omega
theorem and_i32 (a b : Nat) (ha : a < 2147483648) (hb : b < 2147483648) : bits .and .i32 (a : Int) (b : Int) = ((a &&& b : Nat) : Int) := by
  have hx : a &&& b < 2 ^ 31 := Nat.and_lt_two_pow _ (by omega)
  show IntKind.i32.wrap ((BitVec.ofInt 32 (a : Int) &&& BitVec.ofInt 32 (b : Int)).toNat : Int) = _
  rw [BitVec.toNat_and, i32_ofInt a ha, i32_ofInt b hb, i32_wrap _ (by omega)]
theorem or_i32 (a b : Nat) (ha : a < 2147483648) (hb : b < 2147483648) : bits .or .i32 (a : Int) (b : Int) = ((a ||| b : Nat) : Int) := by
  have hx : a ||| b < 2 ^ 31 := Nat.or_lt_two_pow (by omega) (by omega)
  show IntKind.i32.wrap ((BitVec.ofInt 32 (a : Int) ||| BitVec.ofInt 32 (b : Int)).toNat : Int) = _
  rw [BitVec.toNat_or, i32_ofInt a ha, i32_ofInt b hb, i32_wrap _ (by omega)]
theorem u8_ofInt (a : Nat) (ha : a < 256) : (BitVec.ofInt 8 (a : Int)).toNat = a := by
  rw [BitVec.ofInt_natCast, BitVec.toNat_ofNat]; exact Nat.mod_eq_of_lt (by omega)
theorem u8_wrap (n : Nat) (h : n < 256) : IntKind.u8.wrap (n : Int) = (n : Int) := by
  simp only [IntKind.wrap, IntKind.bits, IntKind.signed, Bool.false_and, Bool.false_eq_true, if_false]
  omega
theorem and_u8 (a b : Nat) (ha : a < 256) (hb : b < 256) : bits .and .u8 (a : Int) (b : Int) = ((a &&& b : Nat) : Int) := by
  have hx : a &&& b < 2 ^ 8 := Nat.and_lt_two_pow _ (by omega)
  show IntKind.u8.wrap ((BitVec.ofInt 8 (a : Int) &&& BitVec.ofInt 8 (b : Int)).toNat : Int) = _
  rw [BitVec.toNat_and, u8_ofInt a ha, u8_ofInt b hb, u8_wrap _ (by omega)]
theorem or_u8 (a b : Nat) (ha : a < 256) (hb : b < 256) : bits .or .u8 (a : Int) (b : Int) = ((a ||| b : Nat) : Int) := by
  have hx : a ||| b < 2 ^ 8 := Nat.or_lt_two_pow (by omega) (by omega)
  show IntKind.u8.wrap ((BitVec.ofInt 8 (a : Int) ||| BitVec.ofInt 8 (b : Int)).toNat : Int) = _
  rw [BitVec.toNat_or, u8_ofInt a ha, u8_ofInt b hb, u8_wrap _ (by omega)]
theorem low6 (r : Nat) : r &&& 63 = r % 64 := Nat.and_two_pow_sub_one_eq_mod r 6
theorem low4 (r : Nat) : r &&& 15 = r % 16 := Nat.and_two_pow_sub_one_eq_mod r 4
theorem or_add6 (a b : Nat) (h : b < 64) : 64 * a ||| b = 64 * a + b := (Nat.two_pow_add_eq_or_of_lt (i := 6) h a).symm
theorem or_add4 (a b : Nat) (h : b < 16) : 16 * a ||| b = 16 * a + b := (Nat.two_pow_add_eq_or_of_lt (i := 4) h a).symm
theorem or_add3 (a b : Nat) (h : b < 8) : 8 * a ||| b = 8 * a + b := (Nat.two_pow_add_eq_or_of_lt (i := 3) h a).symm
theorem or128 (x : Nat) (h : x < 64) : bits .or .u8 128 (x : Int) = ((128 + x : Nat) : Int) := by
  rw [show (128 : Int) = ((128 : Nat) : Int) from rfl, or_u8 _ _ (by omega) (by omega)]
  exact congrArg _ (or_add6 2 x h)
theorem or192 (x : Nat) (h : x < 64) : bits .or .u8 192 (x : Int) = ((192 + x : Nat) : Int) := by
  rw [show (192 : Int) = ((192 : Nat) : Int) from rfl, or_u8 _ _ (by omega) (by omega)]
  exact congrArg _ (or_add6 3 x h)
theorem or224 (x : Nat) (h : x < 16) : bits .or .u8 224 (x : Int) = ((224 + x : Nat) : Int) := by
  rw [show (224 : Int) = ((224 : Nat) : Int) from rfl, or_u8 _ _ (by omega) (by omega)]
  exact congrArg _ (or_add4 14 x h)
theorem or240 (x : Nat) (h : x < 8) : bits .or .u8 240 (x : Int) = ((240 + x : Nat) : Int) := by
  rw [show (240 : Int) = ((240 : Nat) : Int) from rfl, or_u8 _ _ (by omega) (by omega)]
  exact congrArg _ (or_add3 30 x h)
theorem and63 (x : Nat) (h : x < 2147483648) : bits .and .i32 (x : Int) 63 = ((x % 64 : Nat) : Int) := by
  rw [show (63 : Int) = ((63 : Nat) : Int) from rfl, and_i32 _ _ h (by omega), low6]
theorem tail_val (v k : Nat) (h : v ≤ 1114111) : bits .or .u8 128 (bits .and .i32 ((v : Int) / 2 ^ k) 63 % 256) = ((128 + v / 2 ^ k % 64 : Nat) : Int) := by
  have h2 : v / 2 ^ k ≤ v := Nat.div_le_self _ _
  rw [show (v : Int) / 2 ^ k = ((v / 2 ^ k : Nat) : Int) by rw [Int.natCast_ediv, Int.natCast_pow]; rfl, and63 _ (by omega), show (((v / 2 ^ k % 64 : Nat) : Int) % 256) = ((v / 2 ^ k % 64 : Nat) : Int) by omega, or128 _ (by omega)]
/-- What a call that answers a text, and makes memory, leaves behind. -/
def StrOut (w : World) (l : List Nat) (e : Ending) (w' : World) : Prop := ∃ s, e = .returned (.string s) ∧ bl s = l ∧ Below w.heap.size w w'
/-- A conversion of a slice just made to a text. -/
theorem cv_row (W : World) (C : Array Value) (L : List Int) (n c : Nat) (h : C.toList = ints .u8 L) (hn : L.length = n) :
    Sem.run Try.prog (convert 41 9 (.slice (some ⟨W.heap.size, 0, none⟩) n c)) (W.alloc (.cells C 5)) = .ok (.string (strOfNums L)) (W.alloc (.cells C 5)) := by
  refine run_convert_bytes_arg (P := Try.prog) _ 41 5 Try.underlying41 Try.underlying5 W.heap.size 0 n c L hn (fun i hi => ?_) 9 Try.underlying9
  rw [Nat.zero_add, show C = (ints .u8 L).toArray by rw [← h]]
  exact (Blk.cell (Blk.made W 5 (ints .u8 L)) i).trans (ints_get _ _ _ (by omega))
theorem cv_drew (W : World) (C : Array Value) (L : List Int) (n c : Nat) (h : C.toList = ints .u8 L) (hn : L.length = n) :
    Sem.run Try.prog (convert 41 9 (.slice (some ⟨W.heap.size, 0, none⟩) n c)) (W.alloc (.cells C 5)).drew = .ok (.string (strOfNums L)) (W.alloc (.cells C 5)).drew :=
  cv_row W.drew C L n c h hn
theorem bl_str {L : List Int} {l : List Nat} (h : L = l.map (fun n : Nat => (n : Int))) (hb : Byt l) : bl (strOfNums L) = l := by
  subst h
  rw [show strOfNums (l.map fun n : Nat => (n : Int)) = ofl l by simp [strOfNums, ofl, Function.comp_def]]
  exact bl_ofl hb



/-- The sizes by ranges. -/
theorem sz_cases (c : Nat) : (c < 128 ∧ szB c = 1) ∨ (128 ≤ c ∧ c < 192 ∧ szB c = 0) ∨ (192 ≤ c ∧ c < 224 ∧ szB c = 2) ∨ (224 ≤ c ∧ c < 240 ∧ szB c = 3) ∨ (240 ≤ c ∧ c < 248 ∧ szB c = 4) ∨ (248 ≤ c ∧ szB c = 0) := by
  unfold szB
  by_cases h1 : c < 128
  · simp [h1]
  · by_cases h2 : c < 192
    · simp [h1, h2]; omega
    · by_cases h3 : c < 224
      · simp [h1, h2, h3]; omega
      · by_cases h4 : c < 240
        · simp [h1, h2, h3, h4]; omega
        · by_cases h5 : c < 248
          · simp [h1, h2, h3, h4, h5]; omega
          · simp [h1, h2, h3, h4, h5]; omega
theorem Below.dn {B : Nat} {w a : World} (h : Below B w a) (n : Nat) : Below B w (a.drewN n) := ⟨h.os, h.tape, h.output, h.size, h.block⟩
theorem bl_cell (w : World) (s : ByteArray) (spare j : Nat) (m : Nat × Nat) (hj : j < s.size) : ((w.alloc (.cells (bytesRow s spare) 5 m)).drew).cell? ⟨w.heap.size, j, none⟩ = some (.int .u8 (((bl s).getD j 0 : Nat) : Int)) := by
  show (w.alloc (.cells (bytesRow s spare) 5 m)).cell? _ = _
  rw [World.cell?_alloc_mark]
  have h : j < s.data.size := hj
  rw [bytesRow_at s spare j h]
  simp only [bl, List.getD_eq_getElem?_getD, List.getElem?_map, Array.getElem?_toList, Array.getElem?_eq_getElem h, Option.map_some, Option.getD_some]
theorem enc_one {c : Nat} (h : c < 128) : enc (c : Nat) = [c] := by
  have : runeN c = true := decide_eq_true (by omega)
  rw [enc, runeOf, isR_nat, this, if_pos rfl, Int.toNat_natCast, encN, if_pos h]
theorem dec_one {c : Nat} {t : List Nat} (h : c < 128) : dec (c :: t) = (c, 1) := by
  have hs : szB c = 1 := by rw [szB, if_pos h]
  have hc : candB (c :: t) = c := by simp only [candB, hs, if_pos]
  simp only [dec, hs, hc, enc_one h]
  simp
theorem dec_bad {c : Nat} {t : List Nat} (h : szB c = 0 ∨ t.length + 1 < szB c) : dec (c :: t) = (65533, 1) := by
  simp only [dec, if_pos h]
theorem dec_yes {c : Nat} {t : List Nat} (h0 : szB c ≠ 0) (h1 : szB c ≤ t.length + 1) (h : enc (candB (c :: t) : Nat) = (c :: t).take (szB c)) : dec (c :: t) = (candB (c :: t), szB c) := by
  simp only [dec]
  rw [if_neg (by omega), if_pos h]
theorem dec_no {c : Nat} {t : List Nat} (h : enc (candB (c :: t) : Nat) ≠ (c :: t).take (szB c)) : dec (c :: t) = (65533, 1) := by
  simp only [dec]
  split
  · rfl
  · first | rfl | rw [if_neg h]
theorem candB_long {c : Nat} {t : List Nat} (h : szB c ≠ 1) : candB (c :: t) = foldB (headB c (szB c)) (t.take (szB c - 1)) := by
  simp only [candB, if_neg h]
theorem foldB_next (r : Nat) (l : List Nat) (j : Nat) (h : j < l.length) : foldB r (l.take (j + 1)) = foldB r (l.take j) * 64 + l.getD j 0 % 64 := by
  rw [List.take_add_one, List.getElem?_eq_getElem h, Option.toList_some, foldB, List.foldl_append, List.getD_eq_getElem?_getD, List.getElem?_eq_getElem h]
  rfl
theorem head_val (c n : Nat) (hc : c < 256) (hn : 2 ≤ n) (hn4 : n ≤ 4) : bits .and .i32 (c : Int) ((127 : Int) / 2 ^ n) = ((headB c n : Nat) : Int) := by
  have : n = 2 ∨ n = 3 ∨ n = 4 := by omega
  rcases this with rfl | rfl | rfl
  · rw [show (127 : Int) / 2 ^ 2 = ((31 : Nat) : Int) by decide, and_i32 _ _ (by omega) (by omega), headB]
    exact congrArg _ (Nat.and_two_pow_sub_one_eq_mod c 5)
  · rw [show (127 : Int) / 2 ^ 3 = ((15 : Nat) : Int) by decide, and_i32 _ _ (by omega) (by omega), headB]
    exact congrArg _ (Nat.and_two_pow_sub_one_eq_mod c 4)
  · rw [show (127 : Int) / 2 ^ 4 = ((7 : Nat) : Int) by decide, and_i32 _ _ (by omega) (by omega), headB]
    exact congrArg _ (Nat.and_two_pow_sub_one_eq_mod c 3)
theorem step_val (r b : Nat) (hr : r < 33554432) (hb : b < 256) : bits .or .i32 (IntKind.i32.wrap ((r : Int) * 64)) (IntKind.i32.wrap (bits .and .u8 (b : Int) 63)) = ((r * 64 + b % 64 : Nat) : Int) := by
  rw [show (63 : Int) = ((63 : Nat) : Int) from rfl, and_u8 _ _ hb (by omega), low6, show (r : Int) * 64 = ((r * 64 : Nat) : Int) by omega, i32_wrap _ (by omega), i32_wrap _ (by omega), or_i32 _ _ (by omega) (by omega)]
  rw [Nat.mul_comm r 64]
  exact congrArg _ (or_add6 r (b % 64) (Nat.mod_lt _ (by omega)))

/-- What Decode leaves behind. -/
def DecOut (w : World) (d : Nat × Nat) (e : Ending) (w' : World) : Prop := e = .returned (.tuple #[.int .i32 (d.1 : Nat), .int .i64 (d.2 : Nat)]) ∧ Below w.heap.size w w'
theorem isEmpty_no {s : ByteArray} {c : Nat} {t : List Nat} (h : bl s = c :: t) : s.toList.isEmpty = false := by
  rw [ByteArray.toList_eq]
  cases hd : s.data.toList with
  | nil => rw [bl, hd] at h; cases h
  | cons => rfl
theorem first_byte {s : ByteArray} {c : Nat} {t : List Nat} (h : bl s = c :: t) : c < 256 ∧ s.size = t.length + 1 ∧ ∃ h0 : 0 < s.size, (s[0]'h0).toNat = c := by
  have hl := bl_len s
  have hln : s.size = t.length + 1 := by rw [← hl, h]; rfl
  exact ⟨bl_byt s c (by rw [h]; simp), hln, by omega, by rw [bl_get s 0 (by omega), h]; rfl⟩

open Go.RowKit Go.Shelf

attribute [local go_sem] Oper.semAt_some

/-- A part of a text: its bytes, its rune. -/
abbrev Pt := { x : ByteArray × Nat // 1 ≤ x.1.size ∧ x.1.size ≤ 4 ∧ x.2 < 2097152 }
def ptF (x : Pt) : List Nat × Nat := (bl x.1.1, x.1.2)
def ptE (x : Pt) : Array Value := #[.string x.1.1, .int .i32 (x.1.2 : Int)]
theorem below_grown {w w' : World} (h : Below w.heap.size w w') : w.grownBy w' none := ⟨h.os, h.tape, h.output, h.size, fun k hk _ => h.block k hk⟩
def strLen : Value → Nat
  | .string s => s.size
  | _ => 0

open Go.RowKit Go.Shelf

attribute [local go_sem] Oper.semAt_some

theorem i32_info : (Try.prog.info? 21).map (fun i => (i.zero, i.size, i.bytes)) = some (some (.int .i32 0), 1, 4) := by kernel_rfl
def rEnc (x : List Nat × Nat) : Value := .int .i32 (x.2 : Int)
end Go.Proofs.Ytomjdicedjdpnaa
