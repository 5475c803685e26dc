/- QMath QEnc QEnc2 QDec QEach QRunes: taken over. -/
import Derived.Test.YtdmflofdchmfhaaGreatDoorBase
import Derived.Deep.RegionHeld3
import Derived.Deep.CutRange
import Derived.Deep.QuietTactic
import Derived.RangeFuncNested
import Derived.RangeFuncBound
import Derived.RangeFuncCalls
import Derived.RangeFuncLeaves
import Derived.RangeFuncBox
import Derived.RangeFuncWrites
import Derived.Shelf.Abstract
import Derived.Shelf.RegionOpen
import Derived.WalkKit
import Derived.OwnWalkIn
import Derived.TacticsInMore
import Derived.LoopNIn
import Derived.LoopIn
import Derived.Maps.AppendAt
namespace Go.Proofs.YtdmflofdchmfhaaGreatDoor
open Go.RowKit

def bl (s : ByteArray) : List Nat := s.data.toList.map UInt8.toNat
def ofl (l : List Nat) : ByteArray := ⟨(l.map UInt8.ofNat).toArray⟩
def Byt (l : List Nat) : Prop := ∀ x ∈ l, x < 256
theorem bl_len (s : ByteArray) : (bl s).length = s.size := by rw [bl, List.length_map, Array.length_toList]; rfl
theorem bl_byt (s : ByteArray) : Byt (bl s) := by
  intro x hx
  obtain ⟨b, _, rfl⟩ := List.mem_map.1 hx
  exact b.toNat_lt
theorem bl_ofl {l : List Nat} (h : Byt l) : bl (ofl l) = l := by
  simp only [bl, ofl, List.map_map]
  refine (List.map_congr_left fun x hx => ?_).trans (List.map_id l)
  have := h x hx
  simp only [Function.comp, id]
  rw [UInt8.toNat_ofNat']
  omega
theorem bl_inj {s t : ByteArray} (h : bl s = bl t) : s = t := by
  apply ByteArray.ext
  apply Array.toList_inj.1
  refine (List.map_inj_right ?_).1 h
  intro a b hab
  exact UInt8.toNat_inj.1 hab
theorem bl_append (a b : ByteArray) : bl (a ++ b) = bl a ++ bl b := by simp [bl, ByteArray.data_append]
theorem bl_extract (s : ByteArray) (i j : Nat) : bl (s.extract i j) = ((bl s).take j).drop i := by
  simp [bl, ByteArray.data_extract, List.map_drop, List.map_take]
  rw [List.drop_take]
theorem bl_empty : bl ByteArray.empty = [] := rfl
theorem bl_nil {s : ByteArray} : s = ByteArray.empty ↔ bl s = [] := ⟨fun h => by rw [h]; rfl, fun h => bl_inj (h.trans bl_empty.symm)⟩
theorem bl_get (s : ByteArray) (i : Nat) (h : i < s.size) : (s[i]).toNat = (bl s).getD i 0 := by
  have h' : i < s.data.size := h
  rw [List.getD_eq_getElem?_getD]
  simp only [bl, List.getElem?_map, Array.getElem?_toList, ByteArray.getElem_eq_getElem_data]
  rw [Array.getElem?_eq_getElem h']
  rfl
theorem toList_bl (s t : ByteArray) : (s.toList == t.toList) = decide (bl s = bl t) := by
  rw [ByteArray.toList_eq, ByteArray.toList_eq]
  by_cases h : s = t
  · subst h; simp
  · have h1 : bl s ≠ bl t := fun e => h (bl_inj e)
    have h2 : ¬ s.data = t.data := fun e => h (ByteArray.ext e)
    simp [h1, h2]
theorem Byt.take {l : List Nat} (h : Byt l) (n : Nat) : Byt (l.take n) := fun x hx => h x (List.mem_of_mem_take hx)
theorem Byt.drop {l : List Nat} (h : Byt l) (n : Nat) : Byt (l.drop n) := fun x hx => h x (List.mem_of_mem_drop hx)
theorem Byt.app {l m : List Nat} (h : Byt l) (k : Byt m) : Byt (l ++ m) := fun x hx => by
  rcases List.mem_append.1 hx with h1 | h1
  · exact h x h1
  · exact k x h1
theorem Byt.cons {x : Nat} {l : List Nat} (h : x < 256) (k : Byt l) : Byt (x :: l) := fun y hy => by
  rcases List.mem_cons.1 hy with rfl | h1
  · exact h
  · exact k y h1
theorem Byt.nil : Byt [] := fun x hx => by cases hx

/-- The bytes of a rune's number. -/
def encN (n : Nat) : List Nat :=
  if n < 128 then [n]
  else if n < 2048 then [192 + n / 64, 128 + n % 64]
  else if n < 65536 then [224 + n / 4096, 128 + n / 64 % 64, 128 + n % 64]
  else [240 + n / 262144, 128 + n / 4096 % 64, 128 + n / 64 % 64, 128 + n % 64]
def runeN (n : Nat) : Bool := decide (n ≤ 1114111 ∧ (n < 55296 ∨ 57343 < n))
def isR (r : Int) : Bool := decide (0 ≤ r ∧ r ≤ 1114111 ∧ (r < 55296 ∨ 57343 < r))
def runeOf (r : Int) : Nat := if isR r then r.toNat else 65533
def enc (r : Int) : List Nat := encN (runeOf r)
theorem isR_nat (n : Nat) : isR (n : Int) = runeN n := by
  unfold isR runeN
  apply decide_eq_decide.2
  omega
theorem runeOf_le (r : Int) : runeOf r ≤ 1114111 ∧ runeN (runeOf r) = true := by
  unfold runeOf
  split
  · rename_i h
    have h' := of_decide_eq_true h
    exact ⟨by omega, by unfold runeN; exact decide_eq_true (by omega)⟩
  · exact ⟨by decide, by decide⟩
theorem encN_byt {n : Nat} (h : n ≤ 1114111) : Byt (encN n) := by
  unfold encN
  intro x hx
  split at hx
  · simp at hx; omega
  · split at hx
    · simp at hx; omega
    · split at hx <;> (simp at hx; omega)
theorem enc_byt (r : Int) : Byt (enc r) := encN_byt (runeOf_le r).1
theorem encN_len (n : Nat) : 1 ≤ (encN n).length ∧ (encN n).length ≤ 4 := by
  unfold encN
  repeat' split
  all_goals simp

/-- How many bytes begin with that one; 0: none. -/
def szB (c : Nat) : Nat := if c < 128 then 1 else if c < 192 then 0 else if c < 224 then 2 else if c < 240 then 3 else if c < 248 then 4 else 0
def headB (c n : Nat) : Nat := c % 2 ^ (7 - n)
def foldB (r : Nat) (l : List Nat) : Nat := l.foldl (fun r b => r * 64 + b % 64) r
def candB (L : List Nat) : Nat := match L with
  | [] => 0
  | c :: t => if szB c = 1 then c else foldB (headB c (szB c)) (t.take (szB c - 1))
/-- The first rune, and its bytes' number. -/
def dec (L : List Nat) : Nat × Nat := match L with
  | [] => (0, 0)
  | c :: t => if szB c = 0 ∨ t.length + 1 < szB c then (65533, 1) else if enc (candB (c :: t) : Nat) = (c :: t).take (szB c) then (candB (c :: t), szB c) else (65533, 1)
theorem szB_le (c : Nat) : szB c ≤ 4 := by
  unfold szB
  repeat' split
  all_goals omega
theorem dec_size {L : List Nat} (h : L ≠ []) : 1 ≤ (dec L).2 ∧ (dec L).2 ≤ L.length := by
  cases L with
  | nil => exact absurd rfl h
  | cons c t =>
    unfold dec
    try simp only
    split
    · simp
    · rename_i h1
      split
      · simp only [List.length_cons]; omega
      · simp
theorem dec_size4 (L : List Nat) : (dec L).2 ≤ 4 := by
  unfold dec
  split
  · simp
  · rename_i c t
    have := szB_le c
    split
    · omega
    · split <;> (try simp only) <;> omega
theorem foldB_lt {r k : Nat} (hr : r < k) (l : List Nat) : foldB r l < k * 64 ^ l.length := by
  induction l generalizing r k with
  | nil => simpa [foldB] using hr
  | cons b t ih =>
    have h1 : r * 64 + b % 64 < k * 64 := by omega
    have := ih h1
    simp only [foldB, List.foldl_cons, List.length_cons] at this ⊢
    rw [Nat.pow_succ, Nat.mul_comm (64 ^ t.length) 64, ← Nat.mul_assoc]
    exact this
theorem candB_lt {L : List Nat} (hb : Byt L) : candB L < 2097152 := by
  cases L with
  | nil => simp [candB]
  | cons c t =>
    have hc := hb c (by simp)
    unfold candB
    try simp only
    split
    · omega
    · have h := szB_le c
      have hl : (t.take (szB c - 1)).length ≤ szB c - 1 := by rw [List.length_take]; omega
      have hh : headB c (szB c) < 2 ^ (7 - szB c) := Nat.mod_lt _ (Nat.two_pow_pos _)
      refine Nat.lt_of_lt_of_le (foldB_lt hh _) ?_
      refine Nat.le_trans (Nat.mul_le_mul_left _ (Nat.pow_le_pow_right (by omega) hl)) ?_
      have : szB c = 0 ∨ szB c = 1 ∨ szB c = 2 ∨ szB c = 3 ∨ szB c = 4 := by omega
      rcases this with e | e | e | e | e <;> rw [e] <;> decide
theorem dec_lt {L : List Nat} (hb : Byt L) : (dec L).1 < 2097152 := by
  cases L with
  | nil => simp [dec]
  | cons c t =>
    have := candB_lt hb
    unfold dec
    try simp only
    split
    · omega
    · split
      · exact this
      · omega
/-- The runes of bytes, with the bytes of each. -/
def partsF : Nat → List Nat → List (List Nat × Nat)
  | 0, _ => []
  | f + 1, L => if L = [] then [] else (L.take (dec L).2, (dec L).1) :: partsF f (L.drop (dec L).2)
def parts (L : List Nat) : List (List Nat × Nat) := partsF L.length L
theorem partsF_more (f : Nat) : ∀ (g : Nat) (L : List Nat), L.length ≤ f → L.length ≤ g → partsF f L = partsF g L := by
  induction f with
  | zero =>
    intro g L h1 _
    have : L = [] := List.eq_nil_of_length_eq_zero (by omega)
    subst this
    cases g <;> simp [partsF]
  | succ f ih =>
    intro g L h1 h2
    cases g with
    | zero =>
      have : L = [] := List.eq_nil_of_length_eq_zero (by omega)
      subst this
      simp [partsF]
    | succ g =>
      simp only [partsF]
      by_cases hL : L = []
      · rw [if_pos hL, if_pos hL]
      · rw [if_neg hL, if_neg hL]
        have := dec_size hL
        rw [ih g (L.drop (dec L).2) (by rw [List.length_drop]; omega) (by rw [List.length_drop]; omega)]
theorem parts_nil : parts [] = [] := rfl
theorem parts_cons {L : List Nat} (h : L ≠ []) : parts L = (L.take (dec L).2, (dec L).1) :: parts (L.drop (dec L).2) := by
  have hd := dec_size h
  unfold parts
  cases hL : L.length with
  | zero => exact absurd (List.eq_nil_of_length_eq_zero hL) h
  | succ n =>
    simp only [partsF]
    rw [if_neg h, partsF_more n (L.drop (dec L).2).length (L.drop (dec L).2) (by rw [List.length_drop]; omega) (Nat.le_refl _)]
theorem parts_len (L : List Nat) : (parts L).length ≤ L.length := by
  suffices ∀ n (L : List Nat), L.length ≤ n → (parts L).length ≤ L.length from this _ L (Nat.le_refl _)
  intro n
  induction n with
  | zero =>
    intro L h
    have : L = [] := List.eq_nil_of_length_eq_zero (by omega)
    subst this
    simp [parts_nil]
  | succ n ih =>
    intro L h
    by_cases hL : L = []
    · subst hL; simp [parts_nil]
    · have hd := dec_size hL
      rw [parts_cons hL, List.length_cons]
      have := ih (L.drop (dec L).2) (by rw [List.length_drop]; omega)
      rw [List.length_drop] at this
      omega

theorem i32_ofInt (a : Nat) (ha : a < 2147483648) : (BitVec.ofInt 32 (a : Int)).toNat = a := by
  rw [BitVec.ofInt_natCast, BitVec.toNat_ofNat]; exact Nat.mod_eq_of_lt (by omega)
theorem i32_wrap (n : Nat) (h : n < 2147483648) : IntKind.i32.wrap (n : Int) = (n : Int) := by
  rw [IntKind.wrap_i32]
  omega
theorem and_i32 (a b : Nat) (ha : a < 2147483648) (hb : b < 2147483648) : bits .and .i32 (a : Int) (b : Int) = ((a &&& b : Nat) : Int) := by
  have hx : a &&& b < 2 ^ 31 := Nat.and_lt_two_pow _ (by omega)
  show IntKind.i32.wrap ((BitVec.ofInt 32 (a : Int) &&& BitVec.ofInt 32 (b : Int)).toNat : Int) = _
  rw [BitVec.toNat_and, i32_ofInt a ha, i32_ofInt b hb, i32_wrap _ (by omega)]
theorem or_i32 (a b : Nat) (ha : a < 2147483648) (hb : b < 2147483648) : bits .or .i32 (a : Int) (b : Int) = ((a ||| b : Nat) : Int) := by
  have hx : a ||| b < 2 ^ 31 := Nat.or_lt_two_pow (by omega) (by omega)
  show IntKind.i32.wrap ((BitVec.ofInt 32 (a : Int) ||| BitVec.ofInt 32 (b : Int)).toNat : Int) = _
  rw [BitVec.toNat_or, i32_ofInt a ha, i32_ofInt b hb, i32_wrap _ (by omega)]
theorem u8_ofInt (a : Nat) (ha : a < 256) : (BitVec.ofInt 8 (a : Int)).toNat = a := by
  rw [BitVec.ofInt_natCast, BitVec.toNat_ofNat]; exact Nat.mod_eq_of_lt (by omega)
theorem u8_wrap (n : Nat) (h : n < 256) : IntKind.u8.wrap (n : Int) = (n : Int) := by
  simp only [IntKind.wrap, IntKind.bits, IntKind.signed, Bool.false_and, Bool.false_eq_true, if_false]
  omega
theorem and_u8 (a b : Nat) (ha : a < 256) (hb : b < 256) : bits .and .u8 (a : Int) (b : Int) = ((a &&& b : Nat) : Int) := by
  have hx : a &&& b < 2 ^ 8 := Nat.and_lt_two_pow _ (by omega)
  show IntKind.u8.wrap ((BitVec.ofInt 8 (a : Int) &&& BitVec.ofInt 8 (b : Int)).toNat : Int) = _
  rw [BitVec.toNat_and, u8_ofInt a ha, u8_ofInt b hb, u8_wrap _ (by omega)]
theorem or_u8 (a b : Nat) (ha : a < 256) (hb : b < 256) : bits .or .u8 (a : Int) (b : Int) = ((a ||| b : Nat) : Int) := by
  have hx : a ||| b < 2 ^ 8 := Nat.or_lt_two_pow (by omega) (by omega)
  show IntKind.u8.wrap ((BitVec.ofInt 8 (a : Int) ||| BitVec.ofInt 8 (b : Int)).toNat : Int) = _
  rw [BitVec.toNat_or, u8_ofInt a ha, u8_ofInt b hb, u8_wrap _ (by omega)]
theorem low6 (r : Nat) : r &&& 63 = r % 64 := Nat.and_two_pow_sub_one_eq_mod r 6
theorem low4 (r : Nat) : r &&& 15 = r % 16 := Nat.and_two_pow_sub_one_eq_mod r 4
theorem or_add6 (a b : Nat) (h : b < 64) : 64 * a ||| b = 64 * a + b := (Nat.two_pow_add_eq_or_of_lt (i := 6) h a).symm
theorem or_add4 (a b : Nat) (h : b < 16) : 16 * a ||| b = 16 * a + b := (Nat.two_pow_add_eq_or_of_lt (i := 4) h a).symm
theorem or_add3 (a b : Nat) (h : b < 8) : 8 * a ||| b = 8 * a + b := (Nat.two_pow_add_eq_or_of_lt (i := 3) h a).symm
theorem or128 (x : Nat) (h : x < 64) : bits .or .u8 128 (x : Int) = ((128 + x : Nat) : Int) := by
  rw [show (128 : Int) = ((128 : Nat) : Int) from rfl, or_u8 _ _ (by omega) (by omega)]
  exact congrArg _ (or_add6 2 x h)
theorem or192 (x : Nat) (h : x < 64) : bits .or .u8 192 (x : Int) = ((192 + x : Nat) : Int) := by
  rw [show (192 : Int) = ((192 : Nat) : Int) from rfl, or_u8 _ _ (by omega) (by omega)]
  exact congrArg _ (or_add6 3 x h)
theorem or224 (x : Nat) (h : x < 16) : bits .or .u8 224 (x : Int) = ((224 + x : Nat) : Int) := by
  rw [show (224 : Int) = ((224 : Nat) : Int) from rfl, or_u8 _ _ (by omega) (by omega)]
  exact congrArg _ (or_add4 14 x h)
theorem or240 (x : Nat) (h : x < 8) : bits .or .u8 240 (x : Int) = ((240 + x : Nat) : Int) := by
  rw [show (240 : Int) = ((240 : Nat) : Int) from rfl, or_u8 _ _ (by omega) (by omega)]
  exact congrArg _ (or_add3 30 x h)
theorem and63 (x : Nat) (h : x < 2147483648) : bits .and .i32 (x : Int) 63 = ((x % 64 : Nat) : Int) := by
  rw [show (63 : Int) = ((63 : Nat) : Int) from rfl, and_i32 _ _ h (by omega), low6]
theorem tail_val (v k : Nat) (h : v ≤ 1114111) : bits .or .u8 128 (bits .and .i32 ((v : Int) / 2 ^ k) 63 % 256) = ((128 + v / 2 ^ k % 64 : Nat) : Int) := by
  have h2 : v / 2 ^ k ≤ v := Nat.div_le_self _ _
  rw [show (v : Int) / 2 ^ k = ((v / 2 ^ k : Nat) : Int) by rw [Int.natCast_ediv, Int.natCast_pow]; rfl, and63 _ (by omega), show (((v / 2 ^ k % 64 : Nat) : Int) % 256) = ((v / 2 ^ k % 64 : Nat) : Int) by omega, or128 _ (by omega)]
theorem isRune_any (r : Int) (w : World) : Calls Tryz.prog 112 #[.int .i32 r] w fun e w' => e = .returned (.bool (isR r)) ∧ w' = w := by
  by_cases h0 : 0 ≤ r
  · by_cases h1 : r ≤ 1114111
    · by_cases h2 : r < 55296
      · have hR : isR r = true := decide_eq_true (by omega)
        rw [hR]
        go_enter Tryz.func112, Tryz.ntmps112
        go_wp2
        go_ret
        exact ⟨rfl, rfl⟩
      · by_cases h3 : 57343 < r
        · have hR : isR r = true := decide_eq_true (by omega)
          rw [hR]
          go_enter Tryz.func112, Tryz.ntmps112
          go_wp2
          go_ret
          exact ⟨rfl, rfl⟩
        · have hR : isR r = false := decide_eq_false (by omega)
          rw [hR]
          go_enter Tryz.func112, Tryz.ntmps112
          go_wp2
          go_ret
          exact ⟨rfl, rfl⟩
    · have hR : isR r = false := decide_eq_false (by omega)
      rw [hR]
      go_enter Tryz.func112, Tryz.ntmps112
      go_wp2
      go_ret
      exact ⟨rfl, rfl⟩
  · have hR : isR r = false := decide_eq_false (by omega)
    rw [hR]
    go_enter Tryz.func112, Tryz.ntmps112
    go_wp2
    go_ret
    exact ⟨rfl, rfl⟩
theorem tail_any (k b v : Nat) (w : World) (hk : k ≤ 12) (hv : v ≤ 1114111) (hc : w.cell? ⟨b, 0, none⟩ = some (.int .i32 (v : Int))) :
    Calls Tryz.prog 113 #[.int .i64 (k : Int), .pointer (some ⟨b, 0, none⟩)] w fun e w' => e = .returned (.int .u8 ((128 + v / 2 ^ k % 64 : Nat) : Int)) ∧ w' = w := by
  have hk0 : (0 : Int) ≤ (k : Int) := by omega
  have hk1 : (k : Int) ≤ 12 := by omega
  go_enter Tryz.func113, Tryz.ntmps113
  go_wp2
  go_ret
  exact ⟨congrArg (fun x => Ending.returned (.int .u8 x)) (tail_val v k hv), rfl⟩

/-- What a call that answers a text, and makes memory, leaves behind. -/
def StrOut (w : World) (l : List Nat) (e : Ending) (w' : World) : Prop := ∃ s, e = .returned (.string s) ∧ bl s = l ∧ Below w.heap.size w w'
theorem is_yes (v : Nat) (h : runeN v = true) (w : World) : Calls Tryz.prog 112 #[.int .i32 (v : Int)] w fun e w' => e = .returned (.bool true) ∧ w' = w := by
  have := isRune_any v w
  rwa [isR_nat, h] at this
theorem tail0 (b v : Nat) (w : World) (hv : v ≤ 1114111) (hc : w.cell? ⟨b, 0, none⟩ = some (.int .i32 (v : Int))) :
    Calls Tryz.prog 113 #[.int .i64 0, .pointer (some ⟨b, 0, none⟩)] w fun e w' => e = .returned (.int .u8 ((128 + v % 64 : Nat) : Int)) ∧ w' = w := by
  have := tail_any 0 b v w (by omega) hv hc
  rwa [Nat.pow_zero, Nat.div_one] at this
theorem tail6 (b v : Nat) (w : World) (hv : v ≤ 1114111) (hc : w.cell? ⟨b, 0, none⟩ = some (.int .i32 (v : Int))) :
    Calls Tryz.prog 113 #[.int .i64 6, .pointer (some ⟨b, 0, none⟩)] w fun e w' => e = .returned (.int .u8 ((128 + v / 64 % 64 : Nat) : Int)) ∧ w' = w :=
  tail_any 6 b v w (by omega) hv hc
theorem tail12 (b v : Nat) (w : World) (hv : v ≤ 1114111) (hc : w.cell? ⟨b, 0, none⟩ = some (.int .i32 (v : Int))) :
    Calls Tryz.prog 113 #[.int .i64 12, .pointer (some ⟨b, 0, none⟩)] w fun e w' => e = .returned (.int .u8 ((128 + v / 4096 % 64 : Nat) : Int)) ∧ w' = w :=
  tail_any 12 b v w (by omega) hv hc
/-- A conversion of a slice just made to a text. -/
theorem cv_row (W : World) (C : Array Value) (L : List Int) (n c : Nat) (h : C.toList = ints .u8 L) (hn : L.length = n) :
    Sem.run Tryz.prog (convert 45 9 (.slice (some ⟨W.heap.size, 0, none⟩) n c)) (W.alloc (.cells C 5)) = .ok (.string (strOfNums L)) (W.alloc (.cells C 5)) := by
  refine run_convert_bytes_arg (P := Tryz.prog) _ 45 5 Tryz.underlying45 Tryz.underlying5 W.heap.size 0 n c L hn (fun i hi => ?_) 9 Tryz.underlying9
  rw [Nat.zero_add, show C = (ints .u8 L).toArray by rw [← h]]
  exact (Blk.cell (Blk.made W 5 (ints .u8 L)) i).trans (ints_get _ _ _ (by omega))
theorem cv_drew (W : World) (C : Array Value) (L : List Int) (n c : Nat) (h : C.toList = ints .u8 L) (hn : L.length = n) :
    Sem.run Tryz.prog (convert 45 9 (.slice (some ⟨W.heap.size, 0, none⟩) n c)) (W.alloc (.cells C 5)).drew = .ok (.string (strOfNums L)) (W.alloc (.cells C 5)).drew :=
  cv_row W.drew C L n c h hn
theorem is_no (r : Int) (h : isR r = false) (w : World) : Calls Tryz.prog 112 #[.int .i32 r] w fun e w' => e = .returned (.bool false) ∧ w' = w := by
  have := isRune_any r w
  rwa [h] at this
theorem bl_str {L : List Int} {l : List Nat} (h : L = l.map (fun n : Nat => (n : Int))) (hb : Byt l) : bl (strOfNums L) = l := by
  subst h
  rw [show strOfNums (l.map fun n : Nat => (n : Int)) = ofl l by simp [strOfNums, ofl, Function.comp_def]]
  exact bl_ofl hb
set_option maxRecDepth 100000 in
set_option maxHeartbeats 4000000 in
theorem Encode_one (v : Nat) (h2 : v < 128) (w : World) : Calls Tryz.prog 102 #[.int .i32 (v : Int)] w (StrOut w [v]) := by
  have hR : runeN v = true := decide_eq_true (by omega)
  have hv1 : v ≤ 1114111 := by omega
  go_enter Tryz.func102, Tryz.ntmps102
  go_wp2_with fail
  with_reducible refine (is_yes v hR _).mono ?_
  rintro e w' ⟨rfl, rfl⟩
  obtain ⟨b, hb⟩ : ∃ b, w.heap.size = b := ⟨_, rfl⟩
  obtain ⟨W, hW⟩ : ∃ W, w.alloc (.cells #[.int .i32 (v : Int)] 21) = W := ⟨_, rfl⟩
  rw [hb, hW]
  have hc : W.cell? ⟨b, 0, none⟩ = some (.int .i32 (v : Int)) := by rw [← hW, ← hb]; exact (Blk.cell (Blk.made w 21 [.int .i32 (v : Int)]) 0)
  have HB : Hid (Below w.heap.size w W) := Lib.hid (by rw [← hW]; exact (Below.refl _ _).alloc (Nat.le_refl _) _)
  have hbW : b < W.heap.size := by rw [← hW, ← hb]; simp
  have kc := fun (W : World) (x0 : Int) => cv_row W #[.int .u8 x0] [x0] 1 1 rfl rfl
  have kd := fun (W : World) (x0 : Int) => cv_drew W #[.int .u8 x0] [x0] 1 1 rfl rfl
  clear hbW hb hW
  go_wp2_with fail
  go_wp2
  go_ret
  exact ⟨_, rfl, bl_str (by simp) (Byt.cons (by omega) Byt.nil), HB.out.alloc HB.out.size _⟩
set_option maxRecDepth 100000 in
set_option maxHeartbeats 4000000 in
theorem Encode_two (v : Nat) (h1 : 128 ≤ v) (h2 : v < 2048) (w : World) : Calls Tryz.prog 102 #[.int .i32 (v : Int)] w (StrOut w [192 + v / 64, 128 + v % 64]) := by
  have hR : runeN v = true := decide_eq_true (by omega)
  have hv1 : v ≤ 1114111 := by omega
  go_enter Tryz.func102, Tryz.ntmps102
  go_wp2_with fail
  with_reducible refine (is_yes v hR _).mono ?_
  rintro e w' ⟨rfl, rfl⟩
  obtain ⟨b, hb⟩ : ∃ b, w.heap.size = b := ⟨_, rfl⟩
  obtain ⟨W, hW⟩ : ∃ W, w.alloc (.cells #[.int .i32 (v : Int)] 21) = W := ⟨_, rfl⟩
  rw [hb, hW]
  have hc : W.cell? ⟨b, 0, none⟩ = some (.int .i32 (v : Int)) := by rw [← hW, ← hb]; exact (Blk.cell (Blk.made w 21 [.int .i32 (v : Int)]) 0)
  have HB : Hid (Below w.heap.size w W) := Lib.hid (by rw [← hW]; exact (Below.refl _ _).alloc (Nat.le_refl _) _)
  have hbW : b < W.heap.size := by rw [← hW, ← hb]; simp
  have hS0 : Hid (W.drew.cell? ⟨b, 0, none⟩ = some (.int .i32 (v : Int)) ∧ Below w.heap.size w W.drew) := Lib.hid ⟨hc, HB.out.drew⟩
  have hSA : Hid (∀ o, (W.drew.alloc o).cell? ⟨b, 0, none⟩ = some (.int .i32 (v : Int)) ∧ Below w.heap.size w (W.drew.alloc o)) := Lib.hid (fun o => ⟨(World.cell?_alloc_lt W.drew o _ hbW).trans hc, (HB.out.drew).alloc HB.out.size _⟩)
  have kc := fun (W : World) (x0 x1 : Int) => cv_row W #[.int .u8 x0, .int .u8 x1] [x0, x1] 2 2 rfl rfl
  have kd := fun (W : World) (x0 x1 : Int) => cv_drew W #[.int .u8 x0, .int .u8 x1] [x0, x1] 2 2 rfl rfl
  clear hbW hb hW
  go_wp2_with fail
  go_region_with (first
      | (go_at_call 113
         with_reducible refine (tail0 b v _ hv1 hS0.out.1).mono ?_
         rintro e w' ⟨rfl, rfl⟩))
  all_goals
    go_wp2
    go_ret
    refine ⟨_, rfl, bl_str ?_ (by intro x hx; simp at hx; omega), (hSA.out _).2⟩
    have hq : IntKind.u8.wrap ((v : Int) / 64) = ((v / 64 : Nat) : Int) := by
      rw [show (v : Int) / 64 = ((v / 64 : Nat) : Int) by omega, u8_wrap _ (by omega)]
    rw [hq, or192 _ (by omega)]
    simp

set_option maxRecDepth 100000 in
set_option maxHeartbeats 4000000 in
theorem Encode_three (v : Nat) (h1 : 2048 ≤ v) (h2 : v < 65536) (h3 : v < 55296 ∨ 57343 < v) (w : World) : Calls Tryz.prog 102 #[.int .i32 (v : Int)] w (StrOut w [224 + v / 4096, 128 + v / 64 % 64, 128 + v % 64]) := by
  have hR : runeN v = true := decide_eq_true (by omega)
  clear h3
  have hv1 : v ≤ 1114111 := by omega
  have d1 : decide ((v : Int) < 128) = false := decide_eq_false (by omega)
  have d2 : decide ((v : Int) < 2048) = false := decide_eq_false (by omega)
  have d3 : decide ((v : Int) < 65536) = true := decide_eq_true (by omega)
  have H1 := Lib.hid h1
  have H2 := Lib.hid h2
  have hv1 := Lib.hid hv1
  clear h1 h2
  go_enter Tryz.func102, Tryz.ntmps102
  go_wp2_with fail
  with_reducible refine (is_yes v hR _).mono ?_
  rintro e w' ⟨rfl, rfl⟩
  obtain ⟨b, hb⟩ : ∃ b, w.heap.size = b := ⟨_, rfl⟩
  obtain ⟨W, hW⟩ : ∃ W, w.alloc (.cells #[.int .i32 (v : Int)] 21) = W := ⟨_, rfl⟩
  rw [hb, hW]
  have hc : W.cell? ⟨b, 0, none⟩ = some (.int .i32 (v : Int)) := by rw [← hW, ← hb]; exact (Blk.cell (Blk.made w 21 [.int .i32 (v : Int)]) 0)
  have HB : Hid (Below w.heap.size w W) := Lib.hid (by rw [← hW]; exact (Below.refl _ _).alloc (Nat.le_refl _) _)
  have hbW : b < W.heap.size := by rw [← hW, ← hb]; simp
  have hS0 : Hid (W.drew.cell? ⟨b, 0, none⟩ = some (.int .i32 (v : Int)) ∧ Below w.heap.size w W.drew) := Lib.hid ⟨hc, HB.out.drew⟩
  have hSA : Hid (∀ o, (W.drew.alloc o).cell? ⟨b, 0, none⟩ = some (.int .i32 (v : Int)) ∧ Below w.heap.size w (W.drew.alloc o)) := Lib.hid (fun o => ⟨(World.cell?_alloc_lt W.drew o _ hbW).trans hc, (HB.out.drew).alloc HB.out.size _⟩)
  have kc := fun (W : World) (x0 x1 x2 : Int) => cv_row W #[.int .u8 x0, .int .u8 x1, .int .u8 x2] [x0, x1, x2] 3 3 rfl rfl
  have kd := fun (W : World) (x0 x1 x2 : Int) => cv_drew W #[.int .u8 x0, .int .u8 x1, .int .u8 x2] [x0, x1, x2] 3 3 rfl rfl
  clear hbW hb hW
  go_wp2_with fail
  go_region_with (first
      | (go_at_call 113
         with_reducible refine (tail6 b v _ hv1.out hS0.out.1).mono ?_
         rintro e w' ⟨rfl, rfl⟩)
      | (go_at_call 113
         with_reducible refine (tail0 b v _ hv1.out hS0.out.1).mono ?_
         rintro e w' ⟨rfl, rfl⟩))
  all_goals
    go_wp2
    go_ret
    have h1 := H1.out
    have h2 := H2.out
    refine ⟨_, rfl, bl_str ?_ (by intro x hx; simp at hx; omega), (hSA.out _).2⟩
    have hq : IntKind.u8.wrap ((v : Int) / 4096) = ((v / 4096 : Nat) : Int) := by
      rw [show (v : Int) / 4096 = ((v / 4096 : Nat) : Int) by omega, u8_wrap _ (by omega)]
    rw [hq, or224 _ (by omega)]
    simp

set_option maxRecDepth 100000 in
set_option maxHeartbeats 4000000 in
theorem Encode_four (v : Nat) (h1 : 65536 ≤ v) (h2 : v ≤ 1114111) (w : World) : Calls Tryz.prog 102 #[.int .i32 (v : Int)] w (StrOut w [240 + v / 262144, 128 + v / 4096 % 64, 128 + v / 64 % 64, 128 + v % 64]) := by
  have hR : runeN v = true := decide_eq_true (by omega)
  have hv1 : v ≤ 1114111 := by omega
  have d1 : decide ((v : Int) < 128) = false := decide_eq_false (by omega)
  have d2 : decide ((v : Int) < 2048) = false := decide_eq_false (by omega)
  have d3 : decide ((v : Int) < 65536) = false := decide_eq_false (by omega)
  have H1 := Lib.hid h1
  have H2 := Lib.hid h2
  have hv1 := Lib.hid hv1
  clear h1 h2
  go_enter Tryz.func102, Tryz.ntmps102
  go_wp2_with fail
  with_reducible refine (is_yes v hR _).mono ?_
  rintro e w' ⟨rfl, rfl⟩
  obtain ⟨b, hb⟩ : ∃ b, w.heap.size = b := ⟨_, rfl⟩
  obtain ⟨W, hW⟩ : ∃ W, w.alloc (.cells #[.int .i32 (v : Int)] 21) = W := ⟨_, rfl⟩
  rw [hb, hW]
  have hc : W.cell? ⟨b, 0, none⟩ = some (.int .i32 (v : Int)) := by rw [← hW, ← hb]; exact (Blk.cell (Blk.made w 21 [.int .i32 (v : Int)]) 0)
  have HB : Hid (Below w.heap.size w W) := Lib.hid (by rw [← hW]; exact (Below.refl _ _).alloc (Nat.le_refl _) _)
  have hbW : b < W.heap.size := by rw [← hW, ← hb]; simp
  have hS0 : Hid (W.drew.cell? ⟨b, 0, none⟩ = some (.int .i32 (v : Int)) ∧ Below w.heap.size w W.drew) := Lib.hid ⟨hc, HB.out.drew⟩
  have hSA : Hid (∀ o, (W.drew.alloc o).cell? ⟨b, 0, none⟩ = some (.int .i32 (v : Int)) ∧ Below w.heap.size w (W.drew.alloc o)) := Lib.hid (fun o => ⟨(World.cell?_alloc_lt W.drew o _ hbW).trans hc, (HB.out.drew).alloc HB.out.size _⟩)
  have kc := fun (W : World) (x0 x1 x2 x3 : Int) => cv_row W #[.int .u8 x0, .int .u8 x1, .int .u8 x2, .int .u8 x3] [x0, x1, x2, x3] 4 4 rfl rfl
  have kd := fun (W : World) (x0 x1 x2 x3 : Int) => cv_drew W #[.int .u8 x0, .int .u8 x1, .int .u8 x2, .int .u8 x3] [x0, x1, x2, x3] 4 4 rfl rfl
  clear hbW hb hW
  go_wp2_with fail
  go_region_with (first
      | (go_at_call 113
         with_reducible refine (tail12 b v _ hv1.out hS0.out.1).mono ?_
         rintro e w' ⟨rfl, rfl⟩)
      | (go_at_call 113
         with_reducible refine (tail6 b v _ hv1.out hS0.out.1).mono ?_
         rintro e w' ⟨rfl, rfl⟩)
      | (go_at_call 113
         with_reducible refine (tail0 b v _ hv1.out hS0.out.1).mono ?_
         rintro e w' ⟨rfl, rfl⟩))
  all_goals
    go_wp2
    go_ret
    have h1 := H1.out
    have h2 := H2.out
    refine ⟨_, rfl, bl_str ?_ (by intro x hx; simp at hx; omega), (hSA.out _).2⟩
    have hq : IntKind.u8.wrap ((v : Int) / 262144) = ((v / 262144 : Nat) : Int) := by
      rw [show (v : Int) / 262144 = ((v / 262144 : Nat) : Int) by omega, u8_wrap _ (by omega)]
    rw [hq, or240 _ (by omega)]
    simp

set_option maxRecDepth 100000 in
set_option maxHeartbeats 4000000 in
theorem Encode_bad (r : Int) (hr : isR r = false) (w : World) : Calls Tryz.prog 102 #[.int .i32 r] w (StrOut w [239, 191, 189]) := by
  go_enter Tryz.func102, Tryz.ntmps102
  go_wp2_with fail
  with_reducible refine (is_no r hr _).mono ?_
  rintro e w' ⟨rfl, rfl⟩
  obtain ⟨b, hb⟩ : ∃ b, w.heap.size = b := ⟨_, rfl⟩
  obtain ⟨W, hW⟩ : ∃ W, w.alloc (.cells #[.int .i32 r] 21) = W := ⟨_, rfl⟩
  rw [hb, hW]
  have hc : W.cell? ⟨b, 0, none⟩ = some (.int .i32 r) := by rw [← hW, ← hb]; exact (Blk.cell (Blk.made w 21 [.int .i32 r]) 0)
  have HB : Hid (Below w.heap.size w W) := Lib.hid (by rw [← hW]; exact (Below.refl _ _).alloc (Nat.le_refl _) _)
  have hbW : b < W.heap.size := by rw [← hW, ← hb]; simp
  have hfz : W.frozen? ⟨b, 0, none⟩ = false := by rw [← hW, ← hb]; exact (Blk.frozen (Blk.made w 21 [.int .i32 r]) 0)
  have hbw : w.heap.size ≤ b := Nat.le_of_eq hb
  clear hb hW
  go_upto_region 3 with fail
  obtain ⟨V, hV⟩ : ∃ V, W.setCell ⟨b, 0, none⟩ (.int .i32 65533) = V := ⟨_, rfl⟩
  have hc2 : V.cell? ⟨b, 0, none⟩ = some (.int .i32 ((65533 : Nat) : Int)) := by rw [← hV]; exact World.cell?_setCell_same' _ _ _ (by rw [hc]; rfl)
  have HB2 : Hid (Below w.heap.size w V) := Lib.hid (by rw [← hV]; exact HB.out.setCell (p := ⟨b, 0, none⟩) hbw _)
  have hbV : b < V.heap.size := by rw [← hV]; simpa [World.setCell] using hbW
  rw [hV]
  clear hV hc hfz HB hbW
  have hS0 : Hid (V.drew.cell? ⟨b, 0, none⟩ = some (.int .i32 ((65533 : Nat) : Int)) ∧ Below w.heap.size w V.drew) := Lib.hid ⟨hc2, HB2.out.drew⟩
  have hSA : Hid (∀ o, (V.drew.alloc o).cell? ⟨b, 0, none⟩ = some (.int .i32 ((65533 : Nat) : Int)) ∧ Below w.heap.size w (V.drew.alloc o)) := Lib.hid (fun o => ⟨(World.cell?_alloc_lt V.drew o _ hbV).trans hc2, (HB2.out.drew).alloc HB2.out.size _⟩)
  have kc := fun (W : World) (x0 x1 x2 : Int) => cv_row W #[.int .u8 x0, .int .u8 x1, .int .u8 x2] [x0, x1, x2] 3 3 rfl rfl
  have kd := fun (W : World) (x0 x1 x2 : Int) => cv_drew W #[.int .u8 x0, .int .u8 x1, .int .u8 x2] [x0, x1, x2] 3 3 rfl rfl
  clear hbV
  go_wp2_with fail
  go_region_with (first
      | (go_at_call 113
         with_reducible refine (tail6 b 65533 _ (by omega) hS0.out.1).mono ?_
         rintro e w' ⟨rfl, rfl⟩)
      | (go_at_call 113
         with_reducible refine (tail0 b 65533 _ (by omega) hS0.out.1).mono ?_
         rintro e w' ⟨rfl, rfl⟩))
  all_goals
    go_wp2
    go_ret
    exact ⟨_, rfl, bl_str (by first | rfl | decide) (by intro x hx; simp at hx; omega), (hSA.out _).2⟩

theorem Encode_any (r : Int) (w : World) : Calls Tryz.prog 102 #[.int .i32 r] w (StrOut w (enc r)) := by
  by_cases hR : isR r = true
  · have h := of_decide_eq_true hR
    obtain ⟨v, rfl⟩ := Int.eq_ofNat_of_zero_le h.1
    rw [enc, runeOf, if_pos hR, Int.toNat_natCast]
    unfold encN
    by_cases h1 : v < 128
    · rw [if_pos h1]; exact Encode_one v h1 w
    · rw [if_neg h1]
      by_cases h2 : v < 2048
      · rw [if_pos h2]; exact Encode_two v (by omega) h2 w
      · rw [if_neg h2]
        by_cases h3 : v < 65536
        · rw [if_pos h3]; exact Encode_three v (by omega) h3 (by omega) w
        · rw [if_neg h3]; exact Encode_four v (by omega) (by omega) w
  · rw [enc, runeOf, if_neg hR]
    exact Encode_bad r (by simpa using hR) w

/-- The sizes by ranges. -/
theorem sz_cases (c : Nat) : (c < 128 ∧ szB c = 1) ∨ (128 ≤ c ∧ c < 192 ∧ szB c = 0) ∨ (192 ≤ c ∧ c < 224 ∧ szB c = 2) ∨ (224 ≤ c ∧ c < 240 ∧ szB c = 3) ∨ (240 ≤ c ∧ c < 248 ∧ szB c = 4) ∨ (248 ≤ c ∧ szB c = 0) := by
  unfold szB
  by_cases h1 : c < 128
  · simp [h1]
  · by_cases h2 : c < 192
    · simp [h1, h2]; omega
    · by_cases h3 : c < 224
      · simp [h1, h2, h3]; omega
      · by_cases h4 : c < 240
        · simp [h1, h2, h3, h4]; omega
        · by_cases h5 : c < 248
          · simp [h1, h2, h3, h4, h5]; omega
          · simp [h1, h2, h3, h4, h5]; omega
set_option maxRecDepth 100000 in
set_option maxHeartbeats 4000000 in
theorem encodedSize_any (c : Nat) (h : c < 256) (w : World) : Calls Tryz.prog 101 #[.int .u8 (c : Int)] w fun e w' => e = .returned (.int .i64 (szB c : Nat)) ∧ w' = w := by
  have hw : IntKind.i32.wrap (c : Int) = (c : Int) := i32_wrap c (by omega)
  obtain ⟨n, hn⟩ : ∃ n, szB c = n := ⟨_, rfl⟩
  rw [hn]
  have e1 : decide ((240 : Int) ≤ (c : Int)) = decide (240 ≤ c) := by apply decide_eq_decide.2; omega
  have e2 : decide ((c : Int) < 248) = decide (c < 248) := by apply decide_eq_decide.2; omega
  have e3 : decide ((224 : Int) ≤ (c : Int)) = decide (224 ≤ c) := by apply decide_eq_decide.2; omega
  have e4 : decide ((c : Int) < 240) = decide (c < 240) := by apply decide_eq_decide.2; omega
  have e5 : decide ((192 : Int) ≤ (c : Int)) = decide (192 ≤ c) := by apply decide_eq_decide.2; omega
  have e6 : decide ((c : Int) < 224) = decide (c < 224) := by apply decide_eq_decide.2; omega
  have e7 : decide ((c : Int) < 128) = decide (c < 128) := by apply decide_eq_decide.2; omega
  rcases sz_cases c with ⟨h1, h2⟩ | ⟨h1, h2, h3⟩ | ⟨h1, h2, h3⟩ | ⟨h1, h2, h3⟩ | ⟨h1, h2, h3⟩ | ⟨h1, h2⟩
  all_goals
    first | (rw [h3] at hn) | (rw [h2] at hn)
    subst hn
    have d1 : decide ((240 : Int) ≤ (c : Int)) = _ := e1.trans (by first | exact decide_eq_true (by omega) | exact decide_eq_false (by omega))
    have d2 : decide ((c : Int) < 248) = _ := e2.trans (by first | exact decide_eq_true (by omega) | exact decide_eq_false (by omega))
    have d3 : decide ((224 : Int) ≤ (c : Int)) = _ := e3.trans (by first | exact decide_eq_true (by omega) | exact decide_eq_false (by omega))
    have d4 : decide ((c : Int) < 240) = _ := e4.trans (by first | exact decide_eq_true (by omega) | exact decide_eq_false (by omega))
    have d5 : decide ((192 : Int) ≤ (c : Int)) = _ := e5.trans (by first | exact decide_eq_true (by omega) | exact decide_eq_false (by omega))
    have d6 : decide ((c : Int) < 224) = _ := e6.trans (by first | exact decide_eq_true (by omega) | exact decide_eq_false (by omega))
    have d7 : decide ((c : Int) < 128) = _ := e7.trans (by first | exact decide_eq_true (by omega) | exact decide_eq_false (by omega))
    clear e1 e2 e3 e4 e5 e6 e7 h1
    try clear h2
    try clear h3
    go_enter Tryz.func101, Tryz.ntmps101
    go_wp2
    go_ret
    exact ⟨rfl, rfl⟩

theorem Below.dn {B : Nat} {w a : World} (h : Below B w a) (n : Nat) : Below B w (a.drewN n) := ⟨h.os, h.tape, h.output, h.size, h.block⟩
theorem bl_cell (w : World) (s : ByteArray) (spare j : Nat) (m : Nat × Nat) (hj : j < s.size) : ((w.alloc (.cells (bytesRow s spare) 5 m)).drew).cell? ⟨w.heap.size, j, none⟩ = some (.int .u8 (((bl s).getD j 0 : Nat) : Int)) := by
  show (w.alloc (.cells (bytesRow s spare) 5 m)).cell? _ = _
  rw [World.cell?_alloc_mark]
  have h : j < s.data.size := hj
  rw [bytesRow_at s spare j h]
  simp only [bl, List.getD_eq_getElem?_getD, List.getElem?_map, Array.getElem?_toList, Array.getElem?_eq_getElem h, Option.map_some, Option.getD_some]
theorem enc_one {c : Nat} (h : c < 128) : enc (c : Nat) = [c] := by
  have : runeN c = true := decide_eq_true (by omega)
  rw [enc, runeOf, isR_nat, this, if_pos rfl, Int.toNat_natCast, encN, if_pos h]
theorem dec_one {c : Nat} {t : List Nat} (h : c < 128) : dec (c :: t) = (c, 1) := by
  have hs : szB c = 1 := by rw [szB, if_pos h]
  have hc : candB (c :: t) = c := by simp only [candB, hs, if_pos]
  simp only [dec, hs, hc, enc_one h]
  simp
theorem dec_bad {c : Nat} {t : List Nat} (h : szB c = 0 ∨ t.length + 1 < szB c) : dec (c :: t) = (65533, 1) := by
  simp only [dec, if_pos h]
theorem dec_yes {c : Nat} {t : List Nat} (h0 : szB c ≠ 0) (h1 : szB c ≤ t.length + 1) (h : enc (candB (c :: t) : Nat) = (c :: t).take (szB c)) : dec (c :: t) = (candB (c :: t), szB c) := by
  simp only [dec]
  rw [if_neg (by omega), if_pos h]
theorem dec_no {c : Nat} {t : List Nat} (h : enc (candB (c :: t) : Nat) ≠ (c :: t).take (szB c)) : dec (c :: t) = (65533, 1) := by
  simp only [dec]
  split
  · rfl
  · first | rfl | rw [if_neg h]
theorem candB_long {c : Nat} {t : List Nat} (h : szB c ≠ 1) : candB (c :: t) = foldB (headB c (szB c)) (t.take (szB c - 1)) := by
  simp only [candB, if_neg h]
theorem foldB_next (r : Nat) (l : List Nat) (j : Nat) (h : j < l.length) : foldB r (l.take (j + 1)) = foldB r (l.take j) * 64 + l.getD j 0 % 64 := by
  rw [List.take_add_one, List.getElem?_eq_getElem h, Option.toList_some, foldB, List.foldl_append, List.getD_eq_getElem?_getD, List.getElem?_eq_getElem h]
  rfl
theorem head_val (c n : Nat) (hc : c < 256) (hn : 2 ≤ n) (hn4 : n ≤ 4) : bits .and .i32 (c : Int) ((127 : Int) / 2 ^ n) = ((headB c n : Nat) : Int) := by
  have : n = 2 ∨ n = 3 ∨ n = 4 := by omega
  rcases this with rfl | rfl | rfl
  · rw [show (127 : Int) / 2 ^ 2 = ((31 : Nat) : Int) by decide, and_i32 _ _ (by omega) (by omega), headB]
    exact congrArg _ (Nat.and_two_pow_sub_one_eq_mod c 5)
  · rw [show (127 : Int) / 2 ^ 3 = ((15 : Nat) : Int) by decide, and_i32 _ _ (by omega) (by omega), headB]
    exact congrArg _ (Nat.and_two_pow_sub_one_eq_mod c 4)
  · rw [show (127 : Int) / 2 ^ 4 = ((7 : Nat) : Int) by decide, and_i32 _ _ (by omega) (by omega), headB]
    exact congrArg _ (Nat.and_two_pow_sub_one_eq_mod c 3)
theorem step_val (r b : Nat) (hr : r < 33554432) (hb : b < 256) : bits .or .i32 (IntKind.i32.wrap ((r : Int) * 64)) (IntKind.i32.wrap (bits .and .u8 (b : Int) 63)) = ((r * 64 + b % 64 : Nat) : Int) := by
  rw [show (63 : Int) = ((63 : Nat) : Int) from rfl, and_u8 _ _ hb (by omega), low6, show (r : Int) * 64 = ((r * 64 : Nat) : Int) by omega, i32_wrap _ (by omega), i32_wrap _ (by omega), or_i32 _ _ (by omega) (by omega)]
  rw [Nat.mul_comm r 64]
  exact congrArg _ (or_add6 r (b % 64) (Nat.mod_lt _ (by omega)))

/-- What Decode leaves behind. -/
def DecOut (w : World) (d : Nat × Nat) (e : Ending) (w' : World) : Prop := e = .returned (.tuple #[.int .i32 (d.1 : Nat), .int .i64 (d.2 : Nat)]) ∧ Below w.heap.size w w'
theorem isEmpty_no {s : ByteArray} {c : Nat} {t : List Nat} (h : bl s = c :: t) : s.toList.isEmpty = false := by
  rw [ByteArray.toList_eq]
  cases hd : s.data.toList with
  | nil => rw [bl, hd] at h; cases h
  | cons => rfl
theorem first_byte {s : ByteArray} {c : Nat} {t : List Nat} (h : bl s = c :: t) : c < 256 ∧ s.size = t.length + 1 ∧ ∃ h0 : 0 < s.size, (s[0]'h0).toNat = c := by
  have hl := bl_len s
  have hln : s.size = t.length + 1 := by rw [← hl, h]; rfl
  exact ⟨bl_byt s c (by rw [h]; simp), hln, by omega, by rw [bl_get s 0 (by omega), h]; rfl⟩
set_option maxRecDepth 100000 in
set_option maxHeartbeats 4000000 in
theorem Decode_one (s : ByteArray) (c : Nat) (t : List Nat) (hL : bl s = c :: t) (hz : szB c = 1) (w : World) : Calls Tryz.prog 86 #[.string s] w (DecOut w (c, 1)) := by
  obtain ⟨hc8, hln, h00, h0⟩ := first_byte hL
  have hne := isEmpty_no hL
  have hs0 : (0 : Int) < (s.size : Int) := by omega
  have HE := encodedSize_any c hc8 w
  rw [hz] at HE
  have hw : IntKind.i32.wrap (c : Int) = (c : Int) := i32_wrap c (by omega)
  clear hL hz hln
  go_enter Tryz.func86, Tryz.ntmps86
  go_wp2_with fail
  with_reducible refine HE.mono ?_
  rintro e w' ⟨rfl, rfl⟩
  go_wp2
  go_ret2
  exact ⟨rfl, Below.refl _ _⟩
set_option maxRecDepth 100000 in
set_option maxHeartbeats 4000000 in
theorem Decode_off (s : ByteArray) (c n : Nat) (t : List Nat) (hL : bl s = c :: t) (hz : szB c = n) (hn : n ≠ 1) (hb : n = 0 ∨ s.size < n) (w : World) : Calls Tryz.prog 86 #[.string s] w (DecOut w (65533, 1)) := by
  obtain ⟨hc8, hln, h00, h0⟩ := first_byte hL
  have hne := isEmpty_no hL
  have hs0 : (0 : Int) < (s.size : Int) := by omega
  have HE := encodedSize_any c hc8 w
  rw [hz] at HE
  have hn1 : ((n : Int) == 1) = false := by simp; omega
  clear hL hz hln
  rcases hb with rfl | hb
  · clear hn hn1
    go_enter Tryz.func86, Tryz.ntmps86
    go_wp2_with fail
    with_reducible refine HE.mono ?_
    rintro e w' ⟨rfl, rfl⟩
    go_wp2
    go_ret2
    exact ⟨rfl, Below.refl _ _⟩
  · have hn0 : ((n : Int) == 0) = false := by simp; omega
    have hb' : decide (s.size < n) = true := decide_eq_true (by omega)
    clear hn hb
    go_enter Tryz.func86, Tryz.ntmps86
    go_wp2_with fail
    with_reducible refine HE.mono ?_
    rintro e w' ⟨rfl, rfl⟩
    go_wp2
    go_ret2
    exact ⟨rfl, Below.refl _ _⟩
set_option maxRecDepth 100000 in
set_option maxHeartbeats 4000000 in
theorem Decode_long (s : ByteArray) (hs : s.size ≤ 140737488351232) (c n : Nat) (t : List Nat) (hL : bl s = c :: t) (hz : szB c = n) (hn2 : 2 ≤ n) (hn4 : n ≤ 4) (hb : n ≤ s.size) (w : World) :
    Calls Tryz.prog 86 #[.string s] w (DecOut w (dec (c :: t))) := by
  obtain ⟨hc8, hln, h00, h0⟩ := first_byte hL
  have hne := isEmpty_no hL
  have hs0 : (0 : Int) < (s.size : Int) := by omega
  have HE := encodedSize_any c hc8 w
  rw [hz] at HE
  have hn1 : ((n : Int) == 1) = false := by simp; omega
  have hn0 : ((n : Int) == 0) = false := by simp; omega
  have hb' : decide (s.size < n) = false := decide_eq_false (by omega)
  have hw : IntKind.i32.wrap (c : Int) = (c : Int) := i32_wrap c (by omega)
  have b1 : (0 : Int) ≤ (n : Int) := by omega
  have b2 : (1 : Int) ≤ (n : Int) := by omega
  have b3 : (n : Int) ≤ (s.size : Int) := by omega
  have hcv := fun w s => run_bytes_of_string (P := Tryz.prog) w 9 45 5 s Tryz.underlying9 Tryz.underlying45 Tryz.underlying5
  have HL := Lib.hid hL
  have HZ := Lib.hid hz
  clear hL hz hln hs
  go_enter Tryz.func86, Tryz.ntmps86
  go_wp2_with fail
  with_reducible refine HE.mono ?_
  rintro e w' ⟨rfl, rfl⟩
  go_wp2_with fail
  go_quiet (fail)
  go_wp2_with fail
  rename Nat => nq
  obtain ⟨S1, hS1⟩ : ∃ S, s.extract 1 n = S := ⟨_, rfl⟩
  have hbl : bl S1 = t.take (n - 1) := by
    rw [← hS1, bl_extract, HL.out]
    cases n with
    | zero => omega
    | succ m => rfl
  obtain ⟨tl, htl⟩ : ∃ l, t.take (n - 1) = l := ⟨_, rfl⟩
  rw [htl] at hbl
  obtain ⟨p, hp⟩ : ∃ p, n - 1 = p := ⟨_, rfl⟩
  rw [hp] at htl
  have htlen : tl.length = p := by
    have := (first_byte HL.out).2.1
    rw [← htl, List.length_take]; omega
  have hsz1 : S1.size = p := by rw [← bl_len, hbl, htlen]
  rw [head_val c n hc8 hn2 hn4, hS1, hp]
  obtain ⟨r0, hr0⟩ : ∃ r, headB c n = r := ⟨_, rfl⟩
  have hr32 : r0 < 32 := by
    rw [← hr0]
    refine Nat.lt_of_lt_of_le (Nat.mod_lt _ (Nat.two_pow_pos _)) ?_
    exact Nat.pow_le_pow_right (n := 2) (by omega) (show 7 - n ≤ 5 by omega)
  have hcand : candB (c :: t) = foldB r0 tl := by rw [candB_long (by rw [HZ.out]; omega), HZ.out, hr0, hp, htl]
  have htb : Byt tl := by rw [← hbl]; exact bl_byt S1
  rw [hr0]
  have hC : ∀ j, j < p → ((w'.drewN (nq + 1)).alloc (.cells (bytesRow S1 (grownCap (w'.drewN nq) p 0 5)) 5 ((bytesRow S1 (grownCap (w'.drewN nq) p 0 5)).size, (bytesRow S1 (grownCap (w'.drewN nq) p 0 5)).size + 1))).cell? ⟨w'.heap.size, j, none⟩ = some (.int .u8 ((tl.getD j 0 : Nat) : Int)) := fun j hj => by
    have := bl_cell (w'.drewN (nq + 1)) S1 (grownCap (w'.drewN nq) p 0 5) j ((bytesRow S1 (grownCap (w'.drewN nq) p 0 5)).size, (bytesRow S1 (grownCap (w'.drewN nq) p 0 5)).size + 1) (by omega)
    rw [hbl] at this
    exact this
  have hB : Below w'.heap.size w' ((w'.drewN (nq + 1)).alloc (.cells (bytesRow S1 (grownCap (w'.drewN nq) p 0 5)) 5 ((bytesRow S1 (grownCap (w'.drewN nq) p 0 5)).size, (bytesRow S1 (grownCap (w'.drewN nq) p 0 5)).size + 1))) := (Below.dn (Below.refl _ w') _).alloc (Nat.le_refl _) _
  obtain ⟨W, hW⟩ : ∃ W, ((w'.drewN (nq + 1)).alloc (.cells (bytesRow S1 (grownCap (w'.drewN nq) p 0 5)) 5 ((bytesRow S1 (grownCap (w'.drewN nq) p 0 5)).size, (bytesRow S1 (grownCap (w'.drewN nq) p 0 5)).size + 1))) = W := ⟨_, rfl⟩
  rw [hW] at hC hB ⊢
  obtain ⟨g, hg⟩ : ∃ g, w'.heap.size = g := ⟨_, rfl⟩
  rw [hg] at hC ⊢
  have HC := Lib.hid hC
  have HB := Lib.hid hB
  have HCd := Lib.hid hcand
  have HT := Lib.hid htb
  have HTl := Lib.hid htlen
  have hp3 : p ≤ 3 := by omega
  have hpn : (n : Int) = (p : Int) + 1 := by omega
  have HPn := Lib.hid hpn
  generalize grownCap (w'.drewN nq) p 0 5 = cp at *
  clear hcv hC hB hcand htb htl hbl hS1 hsz1 hr0 hW hg hp HE hw h0 h00 htlen hpn
  go_loopw [2, 35] (fun r i wr => ∃ j : Nat, j ≤ p ∧ i = .int .i64 j ∧ r = .int .i32 (foldB r0 (tl.take j) : Nat) ∧ wr = W) (fun _ i _ => p - (intOf i).toNat)
  case atStart => exact ⟨0, by omega, rfl, rfl, rfl⟩
  case round =>
    obtain ⟨j, hj, rfl, rfl, rfl⟩ := hrel
    by_cases hlt : j < p
    · have hj0 : (0 : Int) ≤ (j : Int) := by omega
      have hj1 : (j : Int) < (p : Int) := by omega
      have hcell := HC.out j hlt
      obtain ⟨B, hBv⟩ : ∃ b, tl.getD j 0 = b := ⟨_, rfl⟩
      have hB8 : B < 256 := by
        rw [← hBv, List.getD_eq_getElem?_getD, List.getElem?_eq_getElem (by rw [HTl.out]; exact hlt)]
        exact HT.out _ (List.getElem_mem _)
      have hnx := foldB_next r0 tl j (by rw [HTl.out]; exact hlt)
      obtain ⟨R, hR⟩ : ∃ r, foldB r0 (tl.take j) = r := ⟨_, rfl⟩
      have hRl : R < 33554432 := by
        rw [← hR]
        refine Nat.lt_of_lt_of_le (foldB_lt hr32 _) ?_
        have : (tl.take j).length ≤ 3 := by rw [List.length_take]; omega
        exact Nat.le_trans (Nat.mul_le_mul_left _ (Nat.pow_le_pow_right (by omega) this)) (by decide)
      rw [hBv] at hcell hnx
      rw [hR] at hnx ⊢
      have HN := Lib.hid hnx
      have HS := Lib.hid (step_val R B hRl hB8)
      clear hnx hBv hR
      go_wp2_with fail
      exact ⟨⟨j + 1, hlt, by go_num, by rw [HN.out]; simp, trivial⟩, by simp [intOf]; omega⟩
    · have hjp : j = p := by omega
      subst hjp
      rw [List.take_of_length_le (by rw [HTl.out]; exact Nat.le_refl _), ← HCd.out]
      obtain ⟨R, hR⟩ : ∃ r, candB (c :: t) = r := ⟨_, rfl⟩
      have hX : bl (s.extract 0 n) = (c :: t).take n := by rw [bl_extract, HL.out]; rfl
      rw [hR]
      by_cases hE : enc (R : Nat) = (c :: t).take n
      · have HD : Hid (dec (c :: t) = (R, n)) := Lib.hid (by
          have := dec_yes (c := c) (t := t) (by rw [HZ.out]; omega) (by rw [HZ.out, ← (first_byte HL.out).2.1]; exact hb) (by rw [hR, HZ.out]; exact hE)
          rw [this, hR, HZ.out])
        have HQ : Hid (∀ S, bl S = enc (R : Nat) → (S.toList == (s.extract 0 n).toList) = true) := Lib.hid (fun S h => by rw [toList_bl, h, hX]; exact decide_eq_true hE)
        have HE := Lib.hid (fun w => Encode_any (R : Nat) w)
        clear hE hX hR hlt hj
        go_wp2_with fail
        go_region_with (first
          | (go_at_call 102
             with_reducible refine (HE.out _).mono ?_
             rintro e w2 ⟨S, rfl, hS, hb2⟩
             have hq := HQ.out S hS))
        all_goals
          go_wp2
          go_ret2
          rw [HD.out]
          exact ⟨rfl, next HB.out.drew hb2⟩
      · have HD : Hid (dec (c :: t) = (65533, 1)) := Lib.hid (dec_no (c := c) (t := t) (by rw [hR, HZ.out]; exact hE))
        have HQ : Hid (∀ S, bl S = enc (R : Nat) → (S.toList == (s.extract 0 n).toList) = false) := Lib.hid (fun S h => by rw [toList_bl, h, hX]; exact decide_eq_false hE)
        have HE := Lib.hid (fun w => Encode_any (R : Nat) w)
        clear hE hX hR hlt hj
        go_wp2_with fail
        go_region_with (first
          | (go_at_call 102
             with_reducible refine (HE.out _).mono ?_
             rintro e w2 ⟨S, rfl, hS, hb2⟩
             have hq := HQ.out S hS))
        all_goals
          go_wp2
          go_ret2
          rw [HD.out]
          exact ⟨rfl, next HB.out.drew hb2⟩
theorem Decode_any (s : ByteArray) (hs : s.size ≤ 140737488351232) (w : World) : Calls Tryz.prog 86 #[.string s] w (DecOut w (dec (bl s))) := by
  cases hL : bl s with
  | nil =>
    have he : s = ByteArray.empty := bl_nil.2 hL
    subst he
    go_enter Tryz.func86, Tryz.ntmps86
    go_wp2
    go_ret2
    exact ⟨rfl, Below.refl _ _⟩
  | cons c t =>
    obtain ⟨_, hln, _, _⟩ := first_byte hL
    have h4 := szB_le c
    by_cases h1 : szB c = 1
    · have hc : c < 128 := by
        rcases sz_cases c with h | h | h | h | h | h <;> omega
      rw [dec_one hc]
      exact Decode_one s c t hL h1 w
    · by_cases hb : szB c = 0 ∨ s.size < szB c
      · rw [dec_bad (by omega)]
        exact Decode_off s c (szB c) t hL rfl h1 hb w
      · exact Decode_long s hs c (szB c) t hL rfl (by omega) h4 (by omega) w

open Go.RowKit Go.Shelf

attribute [local go_sem] Oper.semAt_some

/-- A part of a text: its bytes, its rune. -/
abbrev Pt := { x : ByteArray × Nat // 1 ≤ x.1.size ∧ x.1.size ≤ 4 ∧ x.2 < 2097152 }
def ptF (x : Pt) : List Nat × Nat := (bl x.1.1, x.1.2)
def ptE (x : Pt) : Array Value := #[.string x.1.1, .int .i32 (x.1.2 : Int)]
theorem below_grown {w w' : World} (h : Below w.heap.size w w') : w.grownBy w' none := ⟨h.os, h.tape, h.output, h.size, fun k hk _ => h.block k hk⟩
def strLen : Value → Nat
  | .string s => s.size
  | _ => 0

set_option maxRecDepth 100000 in
set_option maxHeartbeats 2000000 in
theorem each1_in (n : Nat) (hn : 1 ≤ n) (l Bn B : Nat) (s : ByteArray) (hs : s.size ≤ 140737488351232) (J Jx : List Pt → World → Prop) (hJ : AbidesFrom B J)
    (hY : ∀ pre x W, J pre W → pre.length < (parts (bl s)).length → YieldAt Fence.wide (n - 1) Tryz.prog l (ptE x) W fun e W' =>
      (e = .returned (.bool true) ∧ J (pre ++ [x]) W' ∧ True) ∨ (e = .returned (.bool false) ∧ Jx (pre ++ [x]) W'))
    (W : World) (hBn : W.cell? ⟨Bn, 0, none⟩ = some (.string s)) (h0 : J [] W) :
    CallsIn Fence.wide n Tryz.prog 85 #[.func (.yield l) #[] #[], .pointer (some ⟨Bn, 0, none⟩)] W fun e W' => (∃ v, e = .returned v) ∧
      ((∃ ys : List Pt, ys.map ptF = parts (bl s) ∧ J ys W') ∨ (∃ pre, True ∧ Jx pre W')) := by
  refine callsIn_of_wp Tryz.func85 rfl trivial ?_ rfl
  simp only [Tryz.ntmps85, List.size_toArray, List.length_cons, List.length_nil, Nat.reduceAdd, Nat.reduceSub, Array.replicate_succ, Array.replicate_zero, List.push_toArray, List.append_toArray, List.nil_append, List.cons_append]
  gi_wp2
  gi_loopw [3] (fun p wr => ∃ (pre : List Pt) (r : ByteArray), p = .string r ∧ r.size ≤ s.size ∧ parts (bl s) = pre.map ptF ++ parts (bl r) ∧ J pre wr)
    (fun p _ => strLen p)
  case atStart => exact ⟨[], s, rfl, Nat.le_refl _, rfl, h0⟩
  case round =>
    obtain ⟨pre, r, rfl, hr, hx, hJs⟩ := hrel
    cases hL : bl r with
    | nil =>
      have he : r = ByteArray.empty := bl_nil.2 hL
      subst he
      rw [hL, parts_nil, List.append_nil] at hx
      gi_wp2
      go_end0
      exact ⟨⟨_, rfl⟩, .inl ⟨pre, hx.symm, hJs⟩⟩
    | cons c t =>
      have hne := isEmpty_no hL
      have hnn : bl r ≠ [] := by rw [hL]; simp
      have hd := dec_size hnn
      have hd4 := dec_size4 (bl r)
      have hd1 := dec_lt (bl_byt r)
      rw [bl_len] at hd
      have hp := parts_cons hnn
      have HD := Lib.hid (fun w => Decode_any r (by omega) w)
      obtain ⟨d2, h2⟩ : ∃ d, (dec (bl r)).2 = d := ⟨_, rfl⟩
      obtain ⟨d1, h1⟩ : ∃ d, (dec (bl r)).1 = d := ⟨_, rfl⟩
      rw [h2] at hd hd4 hp
      rw [h1] at hd1 hp
      have e1 : (0 : Int) ≤ (d2 : Int) := by omega
      have e2 : (d2 : Int) ≤ (r.size : Int) := by omega
      have HX := Lib.hid hx
      have HP := Lib.hid hp
      have hsz : r.size - d2 < r.size := by omega
      have hlen : pre.length < (parts (bl s)).length := by
        rw [hx, hp, List.length_append, List.length_map, List.length_cons]; omega
      have HP2 : Hid (bl (r.extract 0 d2) = (bl r).take d2 ∧ bl (r.extract d2 r.size) = (bl r).drop d2) := Lib.hid ⟨by rw [bl_extract]; rfl, by rw [bl_extract, ← bl_len, List.take_length]⟩
      have hq : 1 ≤ (r.extract 0 d2).size ∧ (r.extract 0 d2).size ≤ 4 ∧ d1 < 2097152 := by
        have := bl_len (r.extract 0 d2)
        rw [HP2.out.1, List.length_take, bl_len] at this
        omega
      have hs2 : (r.extract d2 r.size).size = r.size - d2 := by
        have := bl_len (r.extract d2 r.size)
        rw [HP2.out.2, List.length_drop, bl_len] at this
        exact this.symm
      have HS2 := Lib.hid hs2
      have HQ := Lib.hid hq
      clear hL hnn hx hp hq hs2
      gi_wp2_with fail
      refine ⟨trivial, (callsIn_wide.2 (HD.out _)).mono ?_⟩
      rintro e w2 ⟨rfl, b2⟩
      rw [h1, h2]
      have hJ2 : J pre w2 := hJ pre wr w2 none hJs (below_grown b2) (fun r e => by cases e)
      obtain ⟨fn, tmps, assign, body, hy, hR⟩ := hY pre ⟨(r.extract 0 d2, d1), HQ.out⟩ w2 hJ2 hlen
      dsimp only [ptE] at hy
      clear HD b2 hJs h1 h2
      gi_wp2
      refine hR.mono ?_
      rintro e W3 (⟨rfl, hJ3, _⟩ | ⟨rfl, hJx3⟩)
      · gi_wp2
        go_roundw
        case rel => exact ⟨pre ++ [⟨(r.extract 0 d2, d1), HQ.out⟩], _, rfl, by rw [HS2.out]; omega, by rw [HX.out, HP.out, HP2.out.2, List.map_append, List.append_assoc]; simp [ptF, HP2.out.1], hJ3⟩
        case measure =>
          show (r.extract d2 r.size).size < r.size
          rw [HS2.out]; exact hsz
      · gi_wp2
        refine bodyPost_ret (results_none rfl _ _ _) rfl ?_
        exact ⟨⟨_, rfl⟩, .inr ⟨_, trivial, hJx3⟩⟩
theorem each_in (n : Nat) (s : ByteArray) (w : World) :
    CallsIn Fence.wide n Tryz.prog 61 #[.string s] w fun e w' => e = .returned (.func (.func 85) #[] #[.pointer (some ⟨w.heap.size, 0, none⟩)]) ∧ w' = w.alloc (.cells #[.string s] 9) := by
  refine callsIn_of_wp Tryz.func61 rfl trivial ?_ rfl
  simp only [Tryz.ntmps61, List.size_toArray, List.length_cons, List.length_nil, Nat.reduceAdd, Nat.reduceSub, Array.replicate_succ, Array.replicate_zero, List.push_toArray, List.append_toArray, List.nil_append, List.cons_append]
  gi_wp2
  go_ret
  exact ⟨rfl, rfl⟩
theorem each_stops (n : Nat) (hn : 1 ≤ n) (Bn : Nat) (s : ByteArray) (hs : s.size ≤ 140737488351232) (w : World) (hB : Bn < w.heap.size) (hc : w.cell? ⟨Bn, 0, none⟩ = some (.string s)) :
    SeqStopsK Fence.wide n Tryz.prog 85 #[.pointer (some ⟨Bn, 0, none⟩)] ptE (fun _ _ => True) (fun ys : List Pt => ys.map ptF = parts (bl s)) (fun _ => True) (parts (bl s)).length w := fun l J Jx W hW hJ _ hY h0 =>
  each1_in n hn l Bn W.heap.size s hs J Jx hJ hY W ((hW.cell (p := ⟨Bn, 0, none⟩) hB).trans hc) h0

open Go.RowKit Go.Shelf

attribute [local go_sem] Oper.semAt_some

theorem i32_info : (Tryz.prog.info? 21).map (fun i => (i.zero, i.size, i.bytes)) = some (some (.int .i32 0), 1, 4) := by kernel_rfl
def rEnc (x : List Nat × Nat) : Value := .int .i32 (x.2 : Int)
end Go.Proofs.YtdmflofdchmfhaaGreatDoor
