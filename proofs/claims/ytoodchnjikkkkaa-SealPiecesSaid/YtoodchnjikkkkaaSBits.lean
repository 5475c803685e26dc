/- Bytes as integers and as numbers; the language's operations on them. -/
import Derived.Test.YtoodchnjikkkkaaSMath
import Derived.Test.YtoodchnjikkkkaaEq
import Derived.Laws.Bits64b
import Derived.StillTailTactics
import Derived.Deep.RegionWith
namespace Go.Proofs.Ytoodchnjikkkkaa
open Go.RowKit

theorem u32_ofInt (a : Nat) (ha : a < 4294967296) : (BitVec.ofInt 32 (a : Int)).toNat = a := by
  rw [BitVec.ofInt_natCast, BitVec.toNat_ofNat]; exact Nat.mod_eq_of_lt (by omega)
theorem u32_wrap (n : Nat) (h : n < 4294967296) : IntKind.u32.wrap (n : Int) = (n : Int) := by
  simp only [IntKind.wrap, IntKind.bits, IntKind.signed, Bool.false_and, Bool.false_eq_true, if_false]
  omega
theorem u8_ofInt (a : Nat) (ha : a < 256) : (BitVec.ofInt 8 (a : Int)).toNat = a := by
  rw [BitVec.ofInt_natCast, BitVec.toNat_ofNat]; exact Nat.mod_eq_of_lt (by omega)
theorem u8_wrap (n : Nat) (h : n < 256) : IntKind.u8.wrap (n : Int) = (n : Int) := by
  simp only [IntKind.wrap, IntKind.bits, IntKind.signed, Bool.false_and, Bool.false_eq_true, if_false]
  omega
theorem and32 (a b : Nat) (ha : a < 4294967296) (hb : b < 4294967296) : bits .and .u32 (a : Int) (b : Int) = ((a &&& b : Nat) : Int) := by
  have hx : a &&& b < 2 ^ 32 := Nat.and_lt_two_pow _ (by omega)
  show IntKind.u32.wrap ((BitVec.ofInt 32 (a : Int) &&& BitVec.ofInt 32 (b : Int)).toNat : Int) = _
  rw [BitVec.toNat_and, u32_ofInt a ha, u32_ofInt b hb, u32_wrap _ (by omega)]
theorem xor32 (a b : Nat) (ha : a < 4294967296) (hb : b < 4294967296) : bits .xor .u32 (a : Int) (b : Int) = ((a ^^^ b : Nat) : Int) := by
  have hx : a ^^^ b < 2 ^ 32 := Nat.xor_lt_two_pow (by omega) (by omega)
  show IntKind.u32.wrap ((BitVec.ofInt 32 (a : Int) ^^^ BitVec.ofInt 32 (b : Int)).toNat : Int) = _
  rw [BitVec.toNat_xor, u32_ofInt a ha, u32_ofInt b hb, u32_wrap _ (by omega)]
theorem xor8 (a b : Nat) (ha : a < 256) (hb : b < 256) : bits .xor .u8 (a : Int) (b : Int) = ((a ^^^ b : Nat) : Int) := by
  have hx : a ^^^ b < 2 ^ 8 := Nat.xor_lt_two_pow (by omega) (by omega)
  show IntKind.u8.wrap ((BitVec.ofInt 8 (a : Int) ^^^ BitVec.ofInt 8 (b : Int)).toNat : Int) = _
  rw [BitVec.toNat_xor, u8_ofInt a ha, u8_ofInt b hb, u8_wrap _ (by omega)]
theorem low_one (r : Nat) : r &&& 1 = r % 2 := by
  have := Nat.and_two_pow_sub_one_eq_mod r 1
  simp at this
  simp [this]
theorem and_ones (r : Nat) (h : r < 4294967296) : r &&& 4294967295 = r := by
  have := Nat.and_two_pow_sub_one_eq_mod r 32
  rw [show (2:Nat) ^ 32 - 1 = 4294967295 by decide, show (2:Nat) ^ 32 = 4294967296 by decide] at this
  rw [this]; omega

/-- One shift, as the program spells it. -/
theorem st_prog (r : Nat) (h : r < 4294967296) : bits .xor .u32 ((r : Int) / 2) (bits .and .u32 3988292384 ((-(bits .and .u32 (r : Int) 1)) % 4294967296)) = ((st r : Nat) : Int) := by
  have e1 : bits .and .u32 (r : Int) 1 = ((r % 2 : Nat) : Int) := by
    rw [show (1 : Int) = ((1 : Nat) : Int) from rfl, and32 _ _ h (by omega), low_one]
  rw [e1]
  have h2 : r % 2 = 0 ∨ r % 2 = 1 := by omega
  have hd : (r : Int) / 2 = ((r / 2 : Nat) : Int) := by omega
  rw [hd]
  unfold st
  rcases h2 with h2 | h2
  · rw [h2, show (-((0 : Nat) : Int)) % 4294967296 = ((0 : Nat) : Int) from rfl, show (3988292384 : Int) = ((3988292384 : Nat) : Int) from rfl, and32 _ _ (by omega) (by omega), Nat.and_zero, xor32 _ _ (by omega) (by omega)]
  · rw [h2, show (-((1 : Nat) : Int)) % 4294967296 = ((4294967295 : Nat) : Int) from rfl, show (3988292384 : Int) = ((3988292384 : Nat) : Int) from rfl, and32 _ _ (by omega) (by omega), and_ones _ (by omega), xor32 _ _ (by omega) (by omega)]
/-- One shift, as the document spells it. -/
theorem st_odd (r : Nat) (h : r < 4294967296) (h1 : r % 2 = 1) : bits .xor .u32 ((r / 2 : Nat) : Int) 3988292384 = ((st r : Nat) : Int) := by
  rw [show (3988292384 : Int) = ((3988292384 : Nat) : Int) from rfl, xor32 _ _ (by omega) (by omega), st, h1]
theorem st_evn (r : Nat) (h1 : r % 2 = 0) : r / 2 = st r := by rw [st, h1]; simp

def nats (l : List Int) : List Nat := l.map Int.toNat
def castI (l : List Nat) : List Int := l.map (fun n : Nat => (n : Int))
def U8 (l : List Int) : Prop := ∀ x ∈ l, 0 ≤ x ∧ x ≤ 255
theorem U8.byt {l : List Int} (h : U8 l) : Byt (nats l) := by
  intro b hb
  simp only [nats, List.mem_map] at hb
  obtain ⟨x, hx, rfl⟩ := hb
  have := h x hx
  omega
theorem U8.take {l : List Int} (h : U8 l) (k : Nat) : U8 (l.take k) := fun x hx => h x (List.mem_of_mem_take hx)
theorem U8.drop {l : List Int} (h : U8 l) (k : Nat) : U8 (l.drop k) := fun x hx => h x (List.mem_of_mem_drop hx)
theorem U8.app {a b : List Int} (ha : U8 a) (hb : U8 b) : U8 (a ++ b) := fun x hx => (List.mem_append.1 hx).elim (ha x) (hb x)
theorem U8.nil : U8 [] := fun _ h => by cases h
theorem nats_cast (l : List Nat) : nats (castI l) = l := by
  induction l with
  | nil => rfl
  | cons a l ih => simp only [nats, castI, List.map_cons, Int.toNat_natCast] at *; rw [ih]
theorem cast_nats : ∀ {l : List Int}, U8 l → castI (nats l) = l
  | [], _ => rfl
  | x :: l, h => by
    have h1 := h x (List.mem_cons_self ..)
    have ih := cast_nats (l := l) (fun y hy => h y (List.mem_cons_of_mem _ hy))
    simp only [nats, castI, List.map_cons] at *
    rw [ih, Int.toNat_of_nonneg h1.1]
theorem cast_u8 {l : List Nat} (h : Byt l) : U8 (castI l) := by
  intro x hx
  simp only [castI, List.mem_map] at hx
  obtain ⟨b, hb, rfl⟩ := hx
  have := h b hb
  omega
theorem nats_len (l : List Int) : (nats l).length = l.length := by simp [nats]
theorem cast_len (l : List Nat) : (castI l).length = l.length := by simp [castI]
theorem nats_take (l : List Int) (k : Nat) : nats (l.take k) = (nats l).take k := by simp [nats, List.map_take]
theorem nats_drop (l : List Int) (k : Nat) : nats (l.drop k) = (nats l).drop k := by simp [nats, List.map_drop]
theorem nats_app (a b : List Int) : nats (a ++ b) = nats a ++ nats b := by simp [nats]

/-- The sum of bytes, from another one on. -/
def sumOf (s : Nat) (l : List Int) : Nat := crc s (nats l)
def regOf (r : Nat) (l : List Int) : Nat := regs r (nats l)
def rowI (s : Nat) : List Int := castI (row4 s)
theorem rowI_len (s : Nat) : (rowI s).length = 4 := rfl
theorem rowI_u8 (s : Nat) : U8 (rowI s) := cast_u8 (row_byt s)
theorem regOf_nil (r : Nat) : regOf r [] = r := rfl
theorem regOf_next (r : Nat) (l : List Int) (x : Int) : regOf r (l ++ [x]) = stepB (regOf r l) x.toNat := by
  unfold regOf nats regs
  rw [List.map_append, List.foldl_append]
  rfl
theorem regOf_lt {r : Nat} {l : List Int} (h : U8 l) (hr : r < 4294967296) : regOf r l < 4294967296 := regs_lt' h.byt hr
  where regs_lt' {m : List Nat} {r : Nat} (hm : Byt m) (hr : r < 4294967296) : regs r m < 4294967296 := run_lt m hm hr
theorem sumOf_reg (s : Nat) (l : List Int) : sumOf s l = 4294967295 ^^^ regOf (4294967295 ^^^ s) l := rfl
theorem sumOf_lt {s : Nat} {l : List Int} (h : U8 l) (hs : s < 4294967296) : sumOf s l < 4294967296 := crc_lt _ h.byt hs
theorem sumOf_app (s : Nat) (a b : List Int) : sumOf s (a ++ b) = sumOf (sumOf s a) b := by unfold sumOf; rw [nats_app, crc_app]
theorem sumOf_nil (s : Nat) : sumOf s [] = s := crc_nil s
theorem inv_lt {s : Nat} (h : s < 4294967296) : 4294967295 ^^^ s < 4294967296 := Nat.xor_lt_two_pow (n := 32) (by omega) h
/-- A byte, as the program takes it: the register's lowest byte alone goes through the shifts. -/
theorem stepB_split (r b : Nat) (hb : b < 256) : r / 256 ^^^ sts 8 ((r % 256) ^^^ b) = stepB r b := by
  unfold stepB
  have h1 : r % 256 < 2 ^ 8 := Nat.mod_lt _ (by omega)
  have e : r = (r % 256) ^^^ 2 ^ 8 * (r / 256) := by
    rw [← low_high 8 _ h1]; omega
  have e2 : r ^^^ b = ((r % 256) ^^^ b) ^^^ 2 ^ 8 * (r / 256) := by
    conv => lhs; rw [e]
    rw [Nat.xor_assoc, Nat.xor_comm (2 ^ 8 * (r / 256)), Nat.xor_assoc]
  rw [e2, sts_xor 8 (r % 256 ^^^ b) (2 ^ 8 * (r / 256)), sts_even, Nat.xor_comm]

def sealedI (l : List Int) : Bool := decide (4 ≤ l.length ∧ l.drop (l.length - 4) = rowI (sumOf 0 (l.take (l.length - 4))))
theorem sealedI_nat {l : List Int} (h : U8 l) : sealedI l = sealed (nats l) := by
  unfold sealedI sealed
  rw [nats_len]
  congr 1
  apply propext
  refine and_congr_right fun _ => ?_
  rw [← nats_drop, ← nats_take]
  unfold sumOf rowI
  constructor
  · intro e
    rw [e, nats_cast]
  · intro e
    rw [← e, cast_nats (h.drop _)]
def cutOf (l : List Int) : List Int := if sealedI l then l.take (l.length - 4) else []
theorem put_sealedI {l : List Int} (h : U8 l) : sealedI (l ++ rowI (sumOf 0 l)) = true := by
  rw [sealedI_nat (h.app (rowI_u8 _)), nats_app, rowI, nats_cast]
  exact put_sealed h.byt
theorem put_cut {l : List Int} (h : U8 l) : cutOf (l ++ rowI (sumOf 0 l)) = l := by
  rw [cutOf, if_pos (put_sealedI h), List.length_append, rowI_len, Nat.add_sub_cancel, List.take_left]
end Go.Proofs.Ytoodchnjikkkkaa
