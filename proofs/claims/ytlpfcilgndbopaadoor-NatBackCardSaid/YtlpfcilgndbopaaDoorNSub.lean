/- bits.Sub32: the difference, and the borrow by its bits. -/
import Derived.Test.YtlpfcilgndbopaaDoorNRAdd
import Derived.StillTailTactics
import Derived.Laws.Bits64b
namespace Go.Proofs.YtlpfcilgndbopaaDoor
open Go.RowKit

theorem u32_ofInt (a : Nat) (ha : a < 4294967296) : (BitVec.ofInt 32 (a : Int)).toNat = a := by
  rw [BitVec.ofInt_natCast, BitVec.toNat_ofNat]; exact Nat.mod_eq_of_lt (by omega)
theorem u32_wrap (n : Nat) (h : n < 4294967296) : IntKind.u32.wrap (n : Int) = (n : Int) := by
  simp only [IntKind.wrap, IntKind.bits, IntKind.signed, Bool.false_and, Bool.false_eq_true, if_false]
  omega
theorem and32 (a b : Nat) (ha : a < 4294967296) (hb : b < 4294967296) : bits .and .u32 (a : Int) (b : Int) = ((a &&& b : Nat) : Int) := by
  have hx : a &&& b < 2 ^ 32 := Nat.and_lt_two_pow _ (by omega)
  show IntKind.u32.wrap ((BitVec.ofInt 32 (a : Int) &&& BitVec.ofInt 32 (b : Int)).toNat : Int) = _
  rw [BitVec.toNat_and, u32_ofInt a ha, u32_ofInt b hb, u32_wrap _ (by omega)]
theorem or32 (a b : Nat) (ha : a < 4294967296) (hb : b < 4294967296) : bits .or .u32 (a : Int) (b : Int) = ((a ||| b : Nat) : Int) := by
  have hx : a ||| b < 2 ^ 32 := Nat.or_lt_two_pow (by omega) (by omega)
  show IntKind.u32.wrap ((BitVec.ofInt 32 (a : Int) ||| BitVec.ofInt 32 (b : Int)).toNat : Int) = _
  rw [BitVec.toNat_or, u32_ofInt a ha, u32_ofInt b hb, u32_wrap _ (by omega)]
theorem xor32 (a b : Nat) (ha : a < 4294967296) (hb : b < 4294967296) : bits .xor .u32 (a : Int) (b : Int) = ((a ^^^ b : Nat) : Int) := by
  have hx : a ^^^ b < 2 ^ 32 := Nat.xor_lt_two_pow (by omega) (by omega)
  show IntKind.u32.wrap ((BitVec.ofInt 32 (a : Int) ^^^ BitVec.ofInt 32 (b : Int)).toNat : Int) = _
  rw [BitVec.toNat_xor, u32_ofInt a ha, u32_ofInt b hb, u32_wrap _ (by omega)]

theorem top_bits (x y d : Nat) : (((4294967295 ^^^ x) &&& y) ||| ((4294967295 ^^^ (x ^^^ y)) &&& d)) / 2147483648 = ((1 ^^^ (x / 2147483648)) &&& (y / 2147483648)) ||| ((1 ^^^ ((x / 2147483648) ^^^ (y / 2147483648))) &&& (d / 2147483648)) := by
  have h : ∀ n : Nat, n / 2147483648 = n >>> 31 := fun n => by rw [Nat.shiftRight_eq_div_pow]
  simp only [h, Nat.shiftRight_or_distrib, Nat.shiftRight_and_distrib, Nat.shiftRight_xor_distrib]
  rfl
theorem borrow_nat (x y z : Nat) (hx : x < 4294967296) (hy : y < 4294967296) (hz : z ≤ 1) :
    (((4294967295 ^^^ x) &&& y) ||| ((4294967295 ^^^ (x ^^^ y)) &&& ((x + (8589934592 - y - z)) % 4294967296))) / 2147483648 = if x < y + z then 1 else 0 := by
  rw [top_bits]
  generalize hd : (x + (8589934592 - y - z)) % 4294967296 = d
  have hX : x / 2147483648 = 0 ∨ x / 2147483648 = 1 := by omega
  have hY : y / 2147483648 = 0 ∨ y / 2147483648 = 1 := by omega
  have hD : d / 2147483648 = 0 ∨ d / 2147483648 = 1 := by omega
  rcases hX with hX | hX <;> rcases hY with hY | hY <;> rcases hD with hD | hD <;> rw [hX, hY, hD] <;> by_cases h : x < y + z <;> simp only [h, if_true, if_false] <;> first | decide | (exfalso; omega)
theorem borrow_int (x y z : Int) (hx : 0 ≤ x ∧ x ≤ 4294967295) (hy : 0 ≤ y ∧ y ≤ 4294967295) (hz : 0 ≤ z ∧ z ≤ 1) :
    bits .or .u32 (bits .and .u32 (bits .xor .u32 IntKind.u32.max x) y) (bits .and .u32 (bits .xor .u32 IntKind.u32.max (bits .xor .u32 x y)) ((x - y - z) % 4294967296)) / 2147483648 = if x < y + z then 1 else 0 := by
  obtain ⟨a, rfl⟩ := Int.eq_ofNat_of_zero_le hx.1
  obtain ⟨b, rfl⟩ := Int.eq_ofNat_of_zero_le hy.1
  obtain ⟨c, rfl⟩ := Int.eq_ofNat_of_zero_le hz.1
  have hM : IntKind.u32.max = ((4294967295 : Nat) : Int) := rfl
  have hD : ((a : Int) - (b : Int) - (c : Int)) % 4294967296 = (((a + (8589934592 - b - c)) % 4294967296 : Nat) : Int) := by omega
  have l1 : a < 4294967296 := by omega
  have l2 : b < 4294967296 := by omega
  have l3 : (4294967295 : Nat) ^^^ a < 4294967296 := Nat.xor_lt_two_pow (n := 32) (by decide) l1
  have l4 : a ^^^ b < 4294967296 := Nat.xor_lt_two_pow (n := 32) l1 l2
  have l5 : (4294967295 : Nat) ^^^ (a ^^^ b) < 4294967296 := Nat.xor_lt_two_pow (n := 32) (by decide) l4
  have l6 : (a + (8589934592 - b - c)) % 4294967296 < 4294967296 := Nat.mod_lt _ (by decide)
  have l7 : ((4294967295 : Nat) ^^^ a) &&& b < 4294967296 := Nat.and_lt_two_pow (n := 32) _ l2
  have l8 : ((4294967295 : Nat) ^^^ (a ^^^ b)) &&& ((a + (8589934592 - b - c)) % 4294967296) < 4294967296 := Nat.and_lt_two_pow (n := 32) _ l6
  rw [hM, hD, xor32 _ _ (by decide) l1, xor32 _ _ l1 l2, xor32 _ _ (by decide) l4, and32 _ _ l3 l2, and32 _ _ l5 l6, or32 _ _ l7 l8]
  have := borrow_nat a b c l1 l2 (by omega)
  by_cases h : a < b + c
  · rw [if_pos h] at this
    rw [if_pos (by omega)]
    omega
  · rw [if_neg h] at this
    rw [if_neg (by omega)]
    omega

theorem Sub32_any (x y z q : Int) (w : World) (hx : 0 ≤ x ∧ x ≤ 4294967295) (hy : 0 ≤ y ∧ y ≤ 4294967295) (hz : 0 ≤ z ∧ z ≤ 1) (hq : Hid ((if x < y + z then 1 else 0) = q)) :
    Calls Tryd.prog 75 #[.int .u32 x, .int .u32 y, .int .u32 z] w fun e w' => e = .returned (.tuple #[.int .u32 ((x - y - z) % 4294967296), .int .u32 q]) ∧ w = w' := by
  have HB := Lib.hid ((borrow_int x y z hx hy hz).trans hq.out)
  obtain ⟨hx0, hx1⟩ := hx
  obtain ⟨hy0, hy1⟩ := hy
  obtain ⟨hz0, hz1⟩ := hz
  clear hq
  go_enter Tryd.func75, Tryd.ntmps75
  go_wp2
  go_ret2
  refine ⟨?_, rfl⟩
  rw [← HB.out]
  rfl
end Go.Proofs.YtlpfcilgndbopaaDoor
