/- SMath SBits SWalk SOf SPut SSeal: taken over. -/
import Derived.Test.YtpeepolmbcakbaaDoorBase
import Derived.Test.YtpeepolmbcakbaaDoorVaryA
import Derived.Laws.Bits64b
import Derived.StillTailTactics
import Derived.Deep.RegionWith
import Derived.Deep.QuietTactic
import Derived.BigQuiet
import Derived.WalkSpells
import Derived.Deep.RegionHeld3
namespace Go.Proofs.YtpeepolmbcakbaaDoor
open Go.RowKit

/-- One shift of the register. -/
def st (x : Nat) : Nat := (x / 2) ^^^ ((x % 2) * 3988292384)
def sts : Nat → Nat → Nat
  | 0, x => x
  | k + 1, x => sts k (st x)

theorem sts_add (a b x : Nat) : sts (a + b) x = sts b (sts a x) := by
  induction a generalizing x with
  | zero => simp [sts]
  | succ a ih => rw [show a + 1 + b = (a + b) + 1 by omega, sts, ih, sts]

theorem xor_half (x y : Nat) : (x ^^^ y) / 2 = (x / 2) ^^^ (y / 2) := by
  have := Nat.shiftRight_xor_distrib (a := x) (b := y) (i := 1)
  simpa [Nat.shiftRight_succ] using this
theorem xor_odd (x y : Nat) : (x ^^^ y) % 2 = (x % 2) ^^^ (y % 2) := by
  have := Nat.xor_mod_two_pow (a := x) (b := y) (n := 1)
  simpa using this

theorem odd_mul (a b p : Nat) (ha : a < 2) (hb : b < 2) : (a ^^^ b) * p = (a * p) ^^^ (b * p) := by
  have h1 : a = 0 ∨ a = 1 := by omega
  have h2 : b = 0 ∨ b = 1 := by omega
  rcases h1 with rfl | rfl <;> rcases h2 with rfl | rfl <;> simp

theorem st_xor (x y : Nat) : st (x ^^^ y) = st x ^^^ st y := by
  unfold st
  rw [xor_half, xor_odd]
  generalize 3988292384 = p
  rw [odd_mul _ _ p (Nat.mod_lt _ (by omega)) (Nat.mod_lt _ (by omega))]
  generalize x / 2 = a; generalize y / 2 = b; generalize x % 2 * p = c; generalize y % 2 * p = d
  rw [Nat.xor_assoc, Nat.xor_assoc, ← Nat.xor_assoc b c d, Nat.xor_comm b c, Nat.xor_assoc]
theorem sts_xor (k : Nat) : ∀ x y, sts k (x ^^^ y) = sts k x ^^^ sts k y := by
  induction k with
  | zero => intro x y; rfl
  | succ k ih => intro x y; rw [sts, st_xor, ih]; rfl
theorem st_even (y : Nat) : st (2 * y) = y := by
  unfold st
  rw [show 2 * y / 2 = y by omega, show 2 * y % 2 = 0 by omega]
  simp
theorem sts_even (k : Nat) : ∀ y, sts k (2 ^ k * y) = y := by
  induction k with
  | zero => intro y; simp [sts]
  | succ k ih => intro y; rw [sts, show 2 ^ (k + 1) * y = 2 * (2 ^ k * y) by rw [Nat.pow_succ, Nat.mul_comm (2 ^ k) 2, Nat.mul_assoc], st_even, ih]
theorem st_lt {x : Nat} (h : x < 4294967296) : st x < 4294967296 := by
  unfold st
  have h1 : x / 2 < 2 ^ 32 := by omega
  have h2 : x % 2 * 3988292384 < 2 ^ 32 := by
    have : x % 2 < 2 := Nat.mod_lt _ (by omega)
    omega
  exact Nat.xor_lt_two_pow h1 h2
theorem sts_lt (k : Nat) : ∀ {x : Nat}, x < 4294967296 → sts k x < 4294967296 := by
  induction k with
  | zero => intro x h; exact h
  | succ k ih => intro x h; exact ih (st_lt h)
theorem st_zero {x : Nat} (h : x < 4294967296) (h0 : st x = 0) : x = 0 := by
  unfold st at h0
  have e : x / 2 = x % 2 * 3988292384 := by
    have := congrArg (· ^^^ (x % 2 * 3988292384)) h0
    simpa [Nat.xor_assoc] using this
  have : x % 2 < 2 := Nat.mod_lt _ (by omega)
  omega
theorem sts_zero (k : Nat) : ∀ {x : Nat}, x < 4294967296 → sts k x = 0 → x = 0 := by
  induction k with
  | zero => intro x _ h; exact h
  | succ k ih => intro x hx h; exact st_zero hx (ih (st_lt hx) h)
theorem sts_nil (k : Nat) : sts k 0 = 0 := by
  induction k with
  | zero => rfl
  | succ k ih => rw [sts, show st 0 = 0 from rfl, ih]
theorem sts_inj (k : Nat) {x y : Nat} (hx : x < 4294967296) (hy : y < 4294967296) (h : sts k x = sts k y) : x = y := by
  have h1 : sts k (x ^^^ y) = 0 := by rw [sts_xor, h, Nat.xor_self]
  have h2 : x ^^^ y = 0 := sts_zero k (Nat.xor_lt_two_pow (n := 32) hx hy) h1
  have h3 := congrArg (· ^^^ y) h2
  simpa [Nat.xor_assoc] using h3

/-- A low byte and what stands above it. -/
theorem low_high {b : Nat} (n m : Nat) (h : b < 2 ^ n) : b + 2 ^ n * m = b ^^^ 2 ^ n * m := by
  apply Nat.eq_of_testBit_eq
  intro j
  rw [Nat.testBit_xor, Nat.add_comm, Nat.testBit_two_pow_mul_add _ h, Nat.testBit_two_pow_mul]
  by_cases hj : j < n
  · simp [hj, show ¬ n ≤ j by omega]
  · have : b.testBit j = false := Nat.testBit_lt_two_pow (Nat.lt_of_lt_of_le h (Nat.pow_le_pow_right (by omega) (by omega)))
    simp [hj, this, show n ≤ j by omega]

/-- The register after a byte: eight shifts. -/
def stepB (r b : Nat) : Nat := sts 8 (r ^^^ b)
def regs (r : Nat) (l : List Nat) : Nat := l.foldl stepB r
/-- The bytes as one number, the first the lowest. -/
def bnum : List Nat → Nat
  | [] => 0
  | b :: l => b + 256 * bnum l
def Byt (l : List Nat) : Prop := ∀ b ∈ l, b < 256

theorem num_lt : ∀ {l : List Nat}, Byt l → bnum l < 2 ^ (8 * l.length)
  | [], _ => by simp [bnum]
  | b :: l, h => by
    have h1 := h b (List.mem_cons_self ..)
    have h2 := num_lt (l := l) (fun x hx => h x (List.mem_cons_of_mem _ hx))
    rw [List.length_cons, show 8 * (l.length + 1) = 8 * l.length + 8 by omega, Nat.pow_add, bnum]
    omega
theorem num_app : ∀ (l m : List Nat), bnum (l ++ m) = bnum l + 2 ^ (8 * l.length) * bnum m
  | [], m => by simp [bnum]
  | b :: l, m => by
    rw [List.cons_append, bnum, num_app l m, bnum, List.length_cons, show 8 * (l.length + 1) = 8 * l.length + 8 by omega, Nat.pow_add, Nat.mul_add]
    have : 256 * (2 ^ (8 * l.length) * bnum m) = 2 ^ (8 * l.length) * 2 ^ 8 * bnum m := by
      rw [show (2:Nat) ^ 8 = 256 by rfl, Nat.mul_comm (2 ^ (8 * l.length)) 256, Nat.mul_assoc]
    omega
theorem run_num : ∀ (l : List Nat) (r : Nat), Byt l → regs r l = sts (8 * l.length) (r ^^^ bnum l)
  | [], r, _ => by simp [regs, bnum, sts]
  | b :: l, r, h => by
    have h1 := h b (List.mem_cons_self ..)
    have h2 : Byt l := fun x hx => h x (List.mem_cons_of_mem _ hx)
    have ih := run_num l (stepB r b) h2
    rw [show regs r (b :: l) = regs (stepB r b) l from rfl, ih, List.length_cons, show 8 * (l.length + 1) = 8 + 8 * l.length by omega, sts_add, bnum,
      show b + 256 * bnum l = b ^^^ (2 ^ 8 * bnum l) from low_high 8 (bnum l) h1, ← Nat.xor_assoc, sts_xor 8, sts_even, stepB]
theorem run_lt : ∀ (l : List Nat) {r : Nat}, Byt l → r < 4294967296 → regs r l < 4294967296
  | [], r, _, h => h
  | b :: l, r, hb, h => by
    have h1 := hb b (List.mem_cons_self ..)
    exact run_lt l (fun x hx => hb x (List.mem_cons_of_mem _ hx)) (sts_lt 8 (Nat.xor_lt_two_pow (n := 32) h (by omega)))

/-- The sum of bytes, from another one on. -/
def crc (s : Nat) (l : List Nat) : Nat := 4294967295 ^^^ regs (4294967295 ^^^ s) l
def row4 (s : Nat) : List Nat := [s % 256, s / 256 % 256, s / 65536 % 256, s / 16777216 % 256]
theorem row_num {s : Nat} (h : s < 4294967296) : bnum (row4 s) = s := by simp [row4, bnum]; omega
theorem row_byt (s : Nat) : Byt (row4 s) := by intro b hb; simp [row4] at hb; omega
theorem crc_lt {s : Nat} (l : List Nat) (hl : Byt l) (h : s < 4294967296) : crc s l < 4294967296 :=
  Nat.xor_lt_two_pow (n := 32) (by omega) (run_lt l hl (Nat.xor_lt_two_pow (n := 32) (by omega) h))
theorem all_xor (x : Nat) : 4294967295 ^^^ (4294967295 ^^^ x) = x := by rw [← Nat.xor_assoc, Nat.xor_self, Nat.zero_xor]
theorem crc_app (s : Nat) (l m : List Nat) : crc s (l ++ m) = crc (crc s l) m := by
  unfold crc regs
  rw [List.foldl_append, all_xor]
theorem crc_nil (s : Nat) : crc s [] = s := by simp [crc, regs, all_xor]

/-- Sealed: the last four bytes are the row4 of the sum of the others. -/
def sealed (x : List Nat) : Bool := decide (4 ≤ x.length ∧ x.drop (x.length - 4) = row4 (crc 0 (x.take (x.length - 4))))

theorem four {l : List Nat} (h : l.length = 4) (hb : Byt l) {s : Nat} (hs : s < 4294967296) : l = row4 s ↔ bnum l = s := by
  match l, h with
  | [a, b, c, d], _ =>
    have h1 := hb a (by simp)
    have h2 := hb b (by simp)
    have h3 := hb c (by simp)
    have h4 := hb d (by simp)
    simp only [row4, bnum, List.cons.injEq, and_true]
    omega

theorem sealed_iff {x : List Nat} (hx : Byt x) (h4 : 4 ≤ x.length) : sealed x = true ↔ sts (8 * x.length) (4294967295 ^^^ bnum x) = sts 32 4294967295 := by
  have hlen : (x.take (x.length - 4)).length = x.length - 4 := by simp
  have hdl : (x.drop (x.length - 4)).length = 4 := by simp; omega
  have hd : Byt (x.drop (x.length - 4)) := fun b hb => hx b (List.mem_of_mem_drop hb)
  have ht : Byt (x.take (x.length - 4)) := fun b hb => hx b (List.mem_of_mem_take hb)
  have hN : bnum x = bnum (x.take (x.length - 4)) + 2 ^ (8 * (x.length - 4)) * bnum (x.drop (x.length - 4)) := by
    have := num_app (x.take (x.length - 4)) (x.drop (x.length - 4))
    rwa [List.take_append_drop, hlen] at this
  have hR := run_num (x.take (x.length - 4)) 4294967295 ht
  rw [hlen] at hR
  have hB := num_lt ht
  rw [hlen] at hB
  have hc : crc 0 (x.take (x.length - 4)) = 4294967295 ^^^ regs 4294967295 (x.take (x.length - 4)) := rfl
  have hlt := run_lt (x.take (x.length - 4)) ht (r := 4294967295) (by omega)
  have hD := num_lt hd
  rw [hdl] at hD
  unfold sealed
  rw [decide_eq_true_iff, four hdl hd (crc_lt _ ht (by omega)), hc, show 8 * x.length = 8 * (x.length - 4) + 32 by omega, sts_add, hN, low_high _ _ hB, ← Nat.xor_assoc, sts_xor (8 * (x.length - 4)), sts_even, ← hR]
  generalize regs 4294967295 (x.take (x.length - 4)) = r at *
  generalize bnum (x.drop (x.length - 4)) = d at *
  constructor
  · rintro ⟨_, rfl⟩
    rw [← Nat.xor_assoc, Nat.xor_comm r, Nat.xor_assoc, Nat.xor_self, Nat.xor_zero]
  · intro h
    refine ⟨h4, ?_⟩
    have := sts_inj 32 (Nat.xor_lt_two_pow (n := 32) hlt (by omega)) (by omega) h
    rw [← this, Nat.xor_comm r d, Nat.xor_assoc, Nat.xor_self, Nat.xor_zero]

/-- Some bits turned, all within 32: sealed no more. -/
theorem turned_not {x y : List Nat} {k p : Nat} (hx : Byt x) (hy : Byt y) (h4 : 4 ≤ x.length) (hl : y.length = x.length) (hs : sealed x = true) (hk : k ≤ 8 * x.length) (hp : p < 4294967296)
    (he : bnum y = bnum x ^^^ 2 ^ k * p) : sealed y = decide (p = 0) := by
  have h1 := (sealed_iff hx h4).1 hs
  have h2 := sealed_iff hy (by omega)
  rw [hl, he, ← Nat.xor_assoc, sts_xor, h1] at h2
  have h3 : sts (8 * x.length) (2 ^ k * p) = sts (8 * x.length - k) p := by
    conv => lhs; rw [show 8 * x.length = k + (8 * x.length - k) by omega, sts_add, sts_even]
  rw [h3] at h2
  by_cases h0 : p = 0
  · subst h0
    rw [sts_nil, Nat.xor_zero] at h2
    simpa using h2
  · have : sealed y = false := by
      rcases hy' : sealed y with _ | _
      · rfl
      · exfalso
        have h5 := h2.1 hy'
        have h6 : sts (8 * x.length - k) p = 0 := by
          have := congrArg (sts 32 4294967295 ^^^ ·) h5
          simpa [← Nat.xor_assoc] using this
        exact h0 (sts_zero _ hp h6)
    rw [this]; simp [h0]

theorem put_sealed {b : List Nat} (_hb : Byt b) : sealed (b ++ row4 (crc 0 b)) = true := by
  unfold sealed
  rw [decide_eq_true_iff]
  have : (b ++ row4 (crc 0 b)).length - 4 = b.length := by simp [row4]
  rw [this]
  refine ⟨by simp [row4], ?_⟩
  simp
/-- Two sums are the same just if the difference is none. -/
theorem crc_apart {x y : List Nat} {k p : Nat} (hx : Byt x) (hy : Byt y) (hl : y.length = x.length) (hk : k ≤ 8 * x.length) (hp : p < 4294967296)
    (he : bnum y = bnum x ^^^ 2 ^ k * p) : (crc 0 y = crc 0 x) ↔ p = 0 := by
  unfold crc
  rw [run_num _ _ hx, run_num _ _ hy, hl, he, ← Nat.xor_assoc (4294967295 ^^^ 0), sts_xor]
  have h3 : sts (8 * x.length) (2 ^ k * p) = sts (8 * x.length - k) p := by
    conv => lhs; rw [show 8 * x.length = k + (8 * x.length - k) by omega, sts_add, sts_even]
  rw [h3]
  constructor
  · intro h
    have h6 : sts (8 * x.length - k) p = 0 := by
      generalize sts (8 * x.length) (4294967295 ^^^ 0 ^^^ bnum x) = z at *
      have h7 := congrArg (4294967295 ^^^ ·) h
      simp only [all_xor] at h7
      have := congrArg (z ^^^ ·) h7
      simpa [← Nat.xor_assoc] using this
    exact sts_zero _ hp h6
  · rintro rfl
    rw [sts_nil, Nat.xor_zero]



theorem mul_pow_xor (n a b : Nat) : 2 ^ n * (a ^^^ b) = 2 ^ n * a ^^^ 2 ^ n * b := by
  have := Nat.shiftLeft_xor_distrib (a := a) (b := b) (i := n)
  simp only [Nat.shiftLeft_eq] at this
  rw [Nat.mul_comm, this, Nat.mul_comm a, Nat.mul_comm b]

theorem bnum_set : ∀ {l : List Nat} {j v b : Nat}, Byt l → v < 256 → l[j]? = some b → bnum (l.set j (b ^^^ v)) = bnum l ^^^ 2 ^ (8 * j) * v
  | [], j, v, b, _, _, h => by simp at h
  | a :: l, 0, v, b, hl, hv, h => by
    have h1 := hl a (List.mem_cons_self ..)
    simp only [List.getElem?_cons_zero, Option.some.injEq] at h
    subst h
    have h2 : a ^^^ v < 2 ^ 8 := Nat.xor_lt_two_pow (n := 8) h1 hv
    rw [List.set_cons_zero, bnum, bnum, show 256 * bnum l = 2 ^ 8 * bnum l from rfl, low_high 8 _ h2, low_high 8 _ h1]
    simp only [Nat.mul_zero, Nat.pow_zero, Nat.one_mul]
    rw [Nat.xor_assoc, Nat.xor_comm v, Nat.xor_assoc]
  | a :: l, j + 1, v, b, hl, hv, h => by
    have h1 := hl a (List.mem_cons_self ..)
    rw [List.getElem?_cons_succ] at h
    have ih := bnum_set (l := l) (fun x hx => hl x (List.mem_cons_of_mem _ hx)) hv h
    rw [List.set_cons_succ, bnum, ih, bnum, show ∀ z, 256 * z = 2 ^ 8 * z from fun _ => rfl, low_high 8 _ h1, show ∀ z, 256 * z = 2 ^ 8 * z from fun _ => rfl, low_high 8 _ h1, mul_pow_xor, ← Nat.mul_assoc, ← Nat.pow_add, show 8 + 8 * j = 8 * (j + 1) by omega, Nat.xor_assoc]
theorem byt_set {l : List Nat} {j v : Nat} (h : Byt l) (hv : v < 256) : Byt (l.set j v) := fun b hb => by
  rcases List.mem_or_eq_of_mem_set hb with h1 | rfl
  · exact h b h1
  · exact hv

/-- One bit more of the pattern. -/
theorem bit_next (p i : Nat) : p % 2 ^ (i + 1) = p % 2 ^ i ^^^ 2 ^ i * (p / 2 ^ i % 2) := by
  rw [Nat.mod_pow_succ, low_high i _ (Nat.mod_lt _ (Nat.two_pow_pos i))]
/-- A bit turned: where it stands among all. -/
theorem turn_bit {l : List Nat} {k i p b n0 : Nat} (hl : Byt l) (h : l[(k + i) / 8]? = some b) (hn : bnum l = n0 ^^^ 2 ^ k * (p % 2 ^ i)) (h1 : p / 2 ^ i % 2 = 1) :
    bnum (l.set ((k + i) / 8) (b ^^^ 2 ^ ((k + i) % 8))) = n0 ^^^ 2 ^ k * (p % 2 ^ (i + 1)) := by
  have h8 : 2 ^ ((k + i) % 8) < 256 := by
    have : 2 ^ ((k + i) % 8) < 2 ^ 8 := Nat.pow_lt_pow_right (by omega) (by omega)
    omega
  rw [bnum_set hl h8 h, hn, bit_next, h1, mul_pow_xor, Nat.mul_one, ← Nat.pow_add, ← Nat.pow_add, show 8 * ((k + i) / 8) + (k + i) % 8 = k + i by omega, Nat.xor_assoc]
theorem keep_bit {k i p n n0 : Nat} (hn : n = n0 ^^^ 2 ^ k * (p % 2 ^ i)) (h0 : p / 2 ^ i % 2 = 0) : n = n0 ^^^ 2 ^ k * (p % 2 ^ (i + 1)) := by
  rw [hn, bit_next, h0, Nat.mul_zero, Nat.xor_zero]
theorem any_next {p i : Nat} (h1 : p / 2 ^ i % 2 = 1) : p % 2 ^ (i + 1) ≠ 0 := by
  rw [Nat.mod_pow_succ, h1, Nat.mul_one]
  have := Nat.two_pow_pos i
  omega
theorem any_keep {p i : Nat} (h0 : p / 2 ^ i % 2 = 0) : p % 2 ^ (i + 1) = p % 2 ^ i := by
  rw [Nat.mod_pow_succ, h0, Nat.mul_zero, Nat.add_zero]

/-- Two neighbours change places. -/
theorem swap_num {l : List Nat} {k a b : Nat} (hl : Byt l) (ha : l[k]? = some a) (hb : l[k + 1]? = some b) :
    bnum ((l.set k b).set (k + 1) a) = bnum l ^^^ 2 ^ (8 * k) * ((a ^^^ b) ^^^ 2 ^ 8 * (a ^^^ b)) := by
  have h1 := hl a (List.mem_of_getElem? ha)
  have h2 := hl b (List.mem_of_getElem? hb)
  have hx : a ^^^ b < 256 := Nat.xor_lt_two_pow (n := 8) h1 h2
  have e1 : a ^^^ (a ^^^ b) = b := by rw [← Nat.xor_assoc, Nat.xor_self, Nat.zero_xor]
  have e2 : b ^^^ (a ^^^ b) = a := by rw [Nat.xor_comm a b, ← Nat.xor_assoc, Nat.xor_self, Nat.zero_xor]
  have s1 := bnum_set hl hx ha
  rw [e1] at s1
  have hb' : (l.set k b)[k + 1]? = some b := by rw [List.getElem?_set_ne (by omega)]; exact hb
  have s2 := bnum_set (byt_set (j := k) hl h2) hx hb'
  rw [e2, s1] at s2
  rw [s2, mul_pow_xor (8 * k) (a ^^^ b) (2 ^ 8 * (a ^^^ b)), ← Nat.mul_assoc (2 ^ (8 * k)), ← Nat.pow_add, show 8 * k + 8 = 8 * (k + 1) by omega, Nat.xor_assoc]
theorem swap_pat {a b : Nat} (ha : a < 256) (hb : b < 256) : (a ^^^ b) ^^^ 2 ^ 8 * (a ^^^ b) < 4294967296 ∧ ((a ^^^ b) ^^^ 2 ^ 8 * (a ^^^ b) = 0 ↔ a = b) := by
  have hx : a ^^^ b < 2 ^ 8 := Nat.xor_lt_two_pow (n := 8) ha hb
  rw [← low_high 8 _ hx]
  refine ⟨by omega, ?_⟩
  constructor
  · intro h
    have h0 : a ^^^ b = 0 := by omega
    have h3 := congrArg (· ^^^ b) h0
    simpa [Nat.xor_assoc] using h3
  · rintro rfl
    simp
theorem swap_crc {l : List Nat} {k a b : Nat} (hl : Byt l) (ha : l[k]? = some a) (hb : l[k + 1]? = some b) : (crc 0 ((l.set k b).set (k + 1) a) = crc 0 l) ↔ a = b := by
  have h1 := hl a (List.mem_of_getElem? ha)
  have h2 := hl b (List.mem_of_getElem? hb)
  have hk : k < l.length := (List.getElem?_eq_some_iff.1 ha).1
  have h := crc_apart (x := l) (y := (l.set k b).set (k + 1) a) (k := 8 * k) hl (byt_set (byt_set hl h2) h1) (by simp) (by omega) (swap_pat h1 h2).1 (swap_num hl ha hb)
  rw [h]
  exact (swap_pat h1 h2).2

theorem u32_ofInt (a : Nat) (ha : a < 4294967296) : (BitVec.ofInt 32 (a : Int)).toNat = a := by
  rw [BitVec.ofInt_natCast, BitVec.toNat_ofNat]; exact Nat.mod_eq_of_lt (by omega)
theorem u32_wrap (n : Nat) (h : n < 4294967296) : IntKind.u32.wrap (n : Int) = (n : Int) := by
  simp only [IntKind.wrap, IntKind.bits, IntKind.signed, Bool.false_and, Bool.false_eq_true, if_false]
  omega
theorem u8_ofInt (a : Nat) (ha : a < 256) : (BitVec.ofInt 8 (a : Int)).toNat = a := by
  rw [BitVec.ofInt_natCast, BitVec.toNat_ofNat]; exact Nat.mod_eq_of_lt (by omega)
theorem u8_wrap (n : Nat) (h : n < 256) : IntKind.u8.wrap (n : Int) = (n : Int) := by
  simp only [IntKind.wrap, IntKind.bits, IntKind.signed, Bool.false_and, Bool.false_eq_true, if_false]
  omega
theorem and32 (a b : Nat) (ha : a < 4294967296) (hb : b < 4294967296) : bits .and .u32 (a : Int) (b : Int) = ((a &&& b : Nat) : Int) := by
  have hx : a &&& b < 2 ^ 32 := Nat.and_lt_two_pow _ (by omega)
  show IntKind.u32.wrap ((BitVec.ofInt 32 (a : Int) &&& BitVec.ofInt 32 (b : Int)).toNat : Int) = _
  rw [BitVec.toNat_and, u32_ofInt a ha, u32_ofInt b hb, u32_wrap _ (by omega)]
theorem xor32 (a b : Nat) (ha : a < 4294967296) (hb : b < 4294967296) : bits .xor .u32 (a : Int) (b : Int) = ((a ^^^ b : Nat) : Int) := by
  have hx : a ^^^ b < 2 ^ 32 := Nat.xor_lt_two_pow (by omega) (by omega)
  show IntKind.u32.wrap ((BitVec.ofInt 32 (a : Int) ^^^ BitVec.ofInt 32 (b : Int)).toNat : Int) = _
  rw [BitVec.toNat_xor, u32_ofInt a ha, u32_ofInt b hb, u32_wrap _ (by omega)]
theorem xor8 (a b : Nat) (ha : a < 256) (hb : b < 256) : bits .xor .u8 (a : Int) (b : Int) = ((a ^^^ b : Nat) : Int) := by
  have hx : a ^^^ b < 2 ^ 8 := Nat.xor_lt_two_pow (by omega) (by omega)
  show IntKind.u8.wrap ((BitVec.ofInt 8 (a : Int) ^^^ BitVec.ofInt 8 (b : Int)).toNat : Int) = _
  rw [BitVec.toNat_xor, u8_ofInt a ha, u8_ofInt b hb, u8_wrap _ (by omega)]
theorem low_one (r : Nat) : r &&& 1 = r % 2 := by
  have := Nat.and_two_pow_sub_one_eq_mod r 1
  simp at this
  simp [this]
theorem and_ones (r : Nat) (h : r < 4294967296) : r &&& 4294967295 = r := by
  have := Nat.and_two_pow_sub_one_eq_mod r 32
  rw [show (2:Nat) ^ 32 - 1 = 4294967295 by decide, show (2:Nat) ^ 32 = 4294967296 by decide] at this
  rw [this]; omega

/-- One shift, as the program spells it. -/
theorem st_prog (r : Nat) (h : r < 4294967296) : bits .xor .u32 ((r : Int) / 2) (bits .and .u32 3988292384 ((-(bits .and .u32 (r : Int) 1)) % 4294967296)) = ((st r : Nat) : Int) := by
  have e1 : bits .and .u32 (r : Int) 1 = ((r % 2 : Nat) : Int) := by
    rw [show (1 : Int) = ((1 : Nat) : Int) from rfl, and32 _ _ h (by omega), low_one]
  rw [e1]
  have h2 : r % 2 = 0 ∨ r % 2 = 1 := by omega
  have hd : (r : Int) / 2 = ((r / 2 : Nat) : Int) := by omega
  rw [hd]
  unfold st
  rcases h2 with h2 | h2
  · rw [h2, show (-((0 : Nat) : Int)) % 4294967296 = ((0 : Nat) : Int) from rfl, show (3988292384 : Int) = ((3988292384 : Nat) : Int) from rfl, and32 _ _ (by omega) (by omega), Nat.and_zero, xor32 _ _ (by omega) (by omega)]
  · rw [h2, show (-((1 : Nat) : Int)) % 4294967296 = ((4294967295 : Nat) : Int) from rfl, show (3988292384 : Int) = ((3988292384 : Nat) : Int) from rfl, and32 _ _ (by omega) (by omega), and_ones _ (by omega), xor32 _ _ (by omega) (by omega)]
/-- One shift, as the document spells it. -/
theorem st_odd (r : Nat) (h : r < 4294967296) (h1 : r % 2 = 1) : bits .xor .u32 ((r / 2 : Nat) : Int) 3988292384 = ((st r : Nat) : Int) := by
  rw [show (3988292384 : Int) = ((3988292384 : Nat) : Int) from rfl, xor32 _ _ (by omega) (by omega), st, h1]
theorem st_evn (r : Nat) (h1 : r % 2 = 0) : r / 2 = st r := by rw [st, h1]; simp

def nats (l : List Int) : List Nat := l.map Int.toNat
def castI (l : List Nat) : List Int := l.map (fun n : Nat => (n : Int))
def U8 (l : List Int) : Prop := ∀ x ∈ l, 0 ≤ x ∧ x ≤ 255
theorem U8.byt {l : List Int} (h : U8 l) : Byt (nats l) := by
  intro b hb
  simp only [nats, List.mem_map] at hb
  obtain ⟨x, hx, rfl⟩ := hb
  have := h x hx
  omega
theorem U8.take {l : List Int} (h : U8 l) (k : Nat) : U8 (l.take k) := fun x hx => h x (List.mem_of_mem_take hx)
theorem U8.drop {l : List Int} (h : U8 l) (k : Nat) : U8 (l.drop k) := fun x hx => h x (List.mem_of_mem_drop hx)
theorem U8.app {a b : List Int} (ha : U8 a) (hb : U8 b) : U8 (a ++ b) := fun x hx => (List.mem_append.1 hx).elim (ha x) (hb x)
theorem U8.nil : U8 [] := fun _ h => by cases h
theorem nats_cast (l : List Nat) : nats (castI l) = l := by
  induction l with
  | nil => rfl
  | cons a l ih => simp only [nats, castI, List.map_cons, Int.toNat_natCast] at *; rw [ih]
theorem cast_nats : ∀ {l : List Int}, U8 l → castI (nats l) = l
  | [], _ => rfl
  | x :: l, h => by
    have h1 := h x (List.mem_cons_self ..)
    have ih := cast_nats (l := l) (fun y hy => h y (List.mem_cons_of_mem _ hy))
    simp only [nats, castI, List.map_cons] at *
    rw [ih, Int.toNat_of_nonneg h1.1]
theorem cast_u8 {l : List Nat} (h : Byt l) : U8 (castI l) := by
  intro x hx
  simp only [castI, List.mem_map] at hx
  obtain ⟨b, hb, rfl⟩ := hx
  have := h b hb
  omega
theorem nats_len (l : List Int) : (nats l).length = l.length := by simp [nats]
theorem cast_len (l : List Nat) : (castI l).length = l.length := by simp [castI]
theorem nats_take (l : List Int) (k : Nat) : nats (l.take k) = (nats l).take k := by simp [nats, List.map_take]
theorem nats_drop (l : List Int) (k : Nat) : nats (l.drop k) = (nats l).drop k := by simp [nats, List.map_drop]
theorem nats_app (a b : List Int) : nats (a ++ b) = nats a ++ nats b := by simp [nats]

/-- The sum of bytes, from another one on. -/
def sumOf (s : Nat) (l : List Int) : Nat := crc s (nats l)
def regOf (r : Nat) (l : List Int) : Nat := regs r (nats l)
def rowI (s : Nat) : List Int := castI (row4 s)
theorem rowI_len (s : Nat) : (rowI s).length = 4 := rfl
theorem rowI_u8 (s : Nat) : U8 (rowI s) := cast_u8 (row_byt s)
theorem regOf_nil (r : Nat) : regOf r [] = r := rfl
theorem regOf_next (r : Nat) (l : List Int) (x : Int) : regOf r (l ++ [x]) = stepB (regOf r l) x.toNat := by
  unfold regOf nats regs
  rw [List.map_append, List.foldl_append]
  rfl
theorem regOf_lt {r : Nat} {l : List Int} (h : U8 l) (hr : r < 4294967296) : regOf r l < 4294967296 := regs_lt' h.byt hr
  where regs_lt' {m : List Nat} {r : Nat} (hm : Byt m) (hr : r < 4294967296) : regs r m < 4294967296 := run_lt m hm hr
theorem sumOf_reg (s : Nat) (l : List Int) : sumOf s l = 4294967295 ^^^ regOf (4294967295 ^^^ s) l := rfl
theorem sumOf_lt {s : Nat} {l : List Int} (h : U8 l) (hs : s < 4294967296) : sumOf s l < 4294967296 := crc_lt _ h.byt hs
theorem sumOf_app (s : Nat) (a b : List Int) : sumOf s (a ++ b) = sumOf (sumOf s a) b := by unfold sumOf; rw [nats_app, crc_app]
theorem sumOf_nil (s : Nat) : sumOf s [] = s := crc_nil s
theorem inv_lt {s : Nat} (h : s < 4294967296) : 4294967295 ^^^ s < 4294967296 := Nat.xor_lt_two_pow (n := 32) (by omega) h
/-- A byte, as the program takes it: the register's lowest byte alone goes through the shifts. -/
theorem stepB_split (r b : Nat) (hb : b < 256) : r / 256 ^^^ sts 8 ((r % 256) ^^^ b) = stepB r b := by
  unfold stepB
  have h1 : r % 256 < 2 ^ 8 := Nat.mod_lt _ (by omega)
  have e : r = (r % 256) ^^^ 2 ^ 8 * (r / 256) := by
    rw [← low_high 8 _ h1]; omega
  have e2 : r ^^^ b = ((r % 256) ^^^ b) ^^^ 2 ^ 8 * (r / 256) := by
    conv => lhs; rw [e]
    rw [Nat.xor_assoc, Nat.xor_comm (2 ^ 8 * (r / 256)), Nat.xor_assoc]
  rw [e2, sts_xor 8 (r % 256 ^^^ b) (2 ^ 8 * (r / 256)), sts_even, Nat.xor_comm]

def sealedI (l : List Int) : Bool := decide (4 ≤ l.length ∧ l.drop (l.length - 4) = rowI (sumOf 0 (l.take (l.length - 4))))
theorem sealedI_nat {l : List Int} (h : U8 l) : sealedI l = sealed (nats l) := by
  unfold sealedI sealed
  rw [nats_len]
  congr 1
  apply propext
  refine and_congr_right fun _ => ?_
  rw [← nats_drop, ← nats_take]
  unfold sumOf rowI
  constructor
  · intro e
    rw [e, nats_cast]
  · intro e
    rw [← e, cast_nats (h.drop _)]
def cutOf (l : List Int) : List Int := if sealedI l then l.take (l.length - 4) else []
theorem put_sealedI {l : List Int} (h : U8 l) : sealedI (l ++ rowI (sumOf 0 l)) = true := by
  rw [sealedI_nat (h.app (rowI_u8 _)), nats_app, rowI, nats_cast]
  exact put_sealed h.byt
theorem put_cut {l : List Int} (h : U8 l) : cutOf (l ++ rowI (sumOf 0 l)) = l := by
  rw [cutOf, if_pos (put_sealedI h), List.length_append, rowI_len, Nat.add_sub_cancel, List.take_left]

theorem sts_last (k x : Nat) : sts (k + 1) x = st (sts k x) := by rw [sts_add]; rfl

set_option maxHeartbeats 1000000 in
theorem shifted_any (m : Nat) (w : World) (hm : m < 256) :
    Calls Tryd.prog 59 #[.int .u8 m] w fun e w' => e = .returned (.int .u32 ((sts 8 m : Nat) : Int)) ∧ w = w' := by
  have HM := Lib.hid hm
  go_enter Tryd.func59, Tryd.ntmps59
  go_wp2
  go_loopw [3, 7] (fun r i wr => ∃ k : Nat, k ≤ 8 ∧ i = .int .i64 k ∧ r = .int .u32 ((sts k m : Nat) : Int) ∧ w = wr) (fun _ i _ => 8 - (intOf i).toNat)
  case atStart => exact ⟨0, by omega, rfl, rfl, rfl⟩
  case round =>
    obtain ⟨k, hk, rfl, rfl, rfl⟩ := hrel
    by_cases h8 : k < 8
    · have hr : sts k m < 4294967296 := sts_lt k (by have := HM.out; omega)
      have HS := Lib.hid (st_prog (sts k m) hr)
      have HN := Lib.hid (sts_last k m)
      generalize sts k m = r at *
      have hr0 : (0 : Int) ≤ (r : Int) := by omega
      go_wp2
      rw [HS.out]
      exact ⟨⟨k + 1, by omega, by go_num, by rw [HN.out], trivial⟩, by simp [intOf]; omega⟩
    · obtain rfl : k = 8 := by omega
      go_wp2
      go_ret
      exact ⟨rfl, rfl⟩

theorem shifted_at (z : Int) (m : Nat) (w : World) (hz : Hid (z = (m : Int))) (hm : m < 256) :
    Calls Tryd.prog 59 #[.int .u8 z] w fun e w' => e = .returned (.int .u32 ((sts 8 m : Nat) : Int)) ∧ w = w' := by
  rw [hz.out]
  exact shifted_any m w hm

/-- What the program makes of a byte. -/
theorem byte_arg (r x : Nat) (hx : x < 256) : bits .xor .u8 ((r : Int) % 256) (x : Int) = ((((r % 256) ^^^ x : Nat)) : Int) := by
  rw [show (r : Int) % 256 = ((r % 256 : Nat) : Int) by omega, xor8 _ _ (by omega) hx]
theorem byte_step (r x : Nat) (hr : r < 4294967296) (hx : x < 256) : bits .xor .u32 ((r : Int) / 256) ((sts 8 ((r % 256) ^^^ x) : Nat) : Int) = ((stepB r x : Nat) : Int) := by
  rw [show (r : Int) / 256 = ((r / 256 : Nat) : Int) by omega, xor32 _ _ (by omega) (sts_lt 8 (Nat.lt_of_lt_of_le (Nat.xor_lt_two_pow (n := 8) (by omega) (by omega)) (by omega))), stepB_split r x hx]
theorem reg_take {r0 : Nat} {l : List Int} {k x : Nat} (h : l.take (k + 1) = l.take k ++ [(x : Int)]) : regOf r0 (l.take (k + 1)) = stepB (regOf r0 (l.take k)) x := by
  rw [h, regOf_next, Int.toNat_natCast]
theorem byte_at {l : List Int} (hu : U8 l) (k : Nat) (h : k < l.length) : ∃ x : Nat, x < 256 ∧ (ints .u8 l)[k]? = some (.int .u8 x) ∧ l.take (k + 1) = l.take k ++ [(x : Int)] := by
  obtain ⟨z, h1, _, h3, h4⟩ := ints_at .u8 l k h
  have := hu z h4
  obtain ⟨x, rfl⟩ := Int.eq_ofNat_of_zero_le this.1
  exact ⟨x, by omega, h1, h3⟩

set_option maxHeartbeats 1000000 in
theorem On_eq (s : Nat) (A : Option Addr) (c B : Nat) (l : List Int) (w : World) (hr : Row w B A l.length (ints .u8 l)) (hu : U8 l) (hs : s < 4294967296) (hl : l.length ≤ 9223372036854775807) :
    Calls Tryd.prog 55 #[.int .u32 s, .slice A l.length c] w fun e w' => e = .returned (.int .u32 ((sumOf s l : Nat) : Int)) ∧ w = w' := by
  have HI := Lib.hid (show bits .xor .u32 IntKind.u32.max (s : Int) = ((4294967295 ^^^ s : Nat) : Int) from xor32 4294967295 s (by omega) hs)
  have HU := Lib.hid hu
  have HS := Lib.hid (sumOf_reg s l)
  have hi := inv_lt hs
  go_enter Tryd.func55, Tryd.ntmps55
  go_wp2
  rw [HI.out]
  generalize 4294967295 ^^^ s = r0 at *
  go_loopw [5, 12] (fun r i wr => ∃ k : Nat, k ≤ l.length ∧ i = .int .i64 k ∧ r = .int .u32 ((regOf r0 (l.take k) : Nat) : Int) ∧ w = wr) (fun _ i _ => l.length - (intOf i).toNat)
  case atStart => exact ⟨0, by omega, rfl, rfl, rfl⟩
  case round =>
    obtain ⟨k, hk, rfl, rfl, rfl⟩ := hrel
    have hrl := regOf_lt (HU.out.take k) hi
    by_cases hlt : k < l.length
    · obtain ⟨b, off, rfl, hbB, hc⟩ := hr.2 (by omega)
      obtain ⟨x, hx, hget, htk⟩ := byte_at HU.out k hlt
      have hcell := (hc k hlt).trans hget
      have HN := Lib.hid (reg_take (r0 := r0) htk)
      generalize regOf r0 (l.take k) = r at *
      have HA := Lib.hid (byte_arg r x hx)
      have HB := Lib.hid (byte_step r x hrl hx)
      have hr0 : (0 : Int) ≤ (r : Int) := by omega
      have hlt' : (k : Int) < (l.length : Int) := by omega
      have hx8 : (r % 256) ^^^ x < 256 := Nat.xor_lt_two_pow (n := 8) (by omega) (by omega)
      clear hc hget htk hr hu
      go_wp2_with fail
      refine (shifted_at _ ((r % 256) ^^^ x) _ HA hx8).mono ?_
      rintro e w' ⟨rfl, rfl⟩
      go_wp2
      rw [HB.out]
      exact ⟨⟨k + 1, by omega, by go_num, by rw [HN.out], trivial⟩, by simp [intOf]; omega⟩
    · obtain rfl : k = l.length := by omega
      rw [List.take_length] at hrl ⊢
      have HF := Lib.hid (show bits .xor .u32 IntKind.u32.max ((regOf r0 l : Nat) : Int) = ((4294967295 ^^^ regOf r0 l : Nat) : Int) from xor32 4294967295 _ (by omega) hrl)
      generalize regOf r0 l = r at *
      clear hr hu
      go_wp2
      rw [HF.out]
      go_ret
      exact ⟨by rw [HS.out]; rfl, rfl⟩
theorem xor32' (a b : Nat) (ha : a < 4294967296) (hb : b < 4294967296) : bits .xor .u32 (a : Int) (b : Int) = ((b ^^^ a : Nat) : Int) := by rw [xor32 a b ha hb, Nat.xor_comm]
set_option maxHeartbeats 1000000 in
theorem rOn_eq (s : Nat) (A : Option Addr) (c B : Nat) (l : List Int) (w : World) (hr : Row w B A l.length (ints .u8 l)) (hu : U8 l) (hs : s < 4294967296) (hl : l.length ≤ 9223372036854775807) :
    Calls Tryd.prog 51 #[.int .u32 s, .slice A l.length c] w fun e w' => e = .returned (.int .u32 ((sumOf s l : Nat) : Int)) ∧ w = w' := by
  have HI := Lib.hid (show bits .xor .u32 (s : Int) 4294967295 = ((4294967295 ^^^ s : Nat) : Int) from xor32' s 4294967295 hs (by omega))
  have HU := Lib.hid hu
  have HS := Lib.hid (sumOf_reg s l)
  have hi := inv_lt hs
  go_enter Tryd.func51, Tryd.ntmps51
  go_wp2
  rw [HI.out]
  generalize 4294967295 ^^^ s = r0 at *
  go_loopw [5, 6] (fun r i wr => ∃ k : Nat, k ≤ l.length ∧ i = .int .i64 k ∧ r = .int .u32 ((regOf r0 (l.take k) : Nat) : Int) ∧ w = wr) (fun _ i _ => l.length - (intOf i).toNat)
  case atStart => exact ⟨0, by omega, rfl, rfl, rfl⟩
  case round =>
    obtain ⟨k, hk, rfl, rfl, rfl⟩ := hrel
    have hrl := regOf_lt (HU.out.take k) hi
    by_cases hlt : k < l.length
    · obtain ⟨b, off, rfl, hbB, hc⟩ := hr.2 (by omega)
      obtain ⟨x, hx, hget, htk⟩ := byte_at HU.out k hlt
      have hcell := (hc k hlt).trans hget
      have HN := Lib.hid (reg_take (r0 := r0) htk)
      generalize regOf r0 (l.take k) = r at *
      have HX := Lib.hid (xor32 r x hrl (by omega))
      have hxr : r ^^^ x < 4294967296 := Nat.xor_lt_two_pow (n := 32) hrl (by omega)
      have hlt' : (k : Int) < (l.length : Int) := by omega
      have hst : stepB r x = sts 8 (r ^^^ x) := rfl
      rw [hst] at HN
      clear hst hc hget htk hr hu
      go_wp2
      rw [HX.out]
      generalize r ^^^ x = y at *
      go_loopw [5, 7] (fun r i wr => ∃ j : Nat, j ≤ 8 ∧ i = .int .i64 j ∧ r = .int .u32 ((sts j y : Nat) : Int) ∧ w = wr) (fun _ i _ => 8 - (intOf i).toNat)
      case atStart => exact ⟨0, by omega, rfl, rfl, rfl⟩
      case round =>
        obtain ⟨j, hj, rfl, rfl, rfl⟩ := hrel
        have hy := sts_lt j hxr
        by_cases h8 : j < 8
        · have HM := Lib.hid (sts_last j y)
          have hlo := low_one (sts j y)
          generalize sts j y = z at *
          have hj' : (j : Int) < 8 := by omega
          have HZ := Lib.hid (show bits .and .u32 (z : Int) 1 = ((z % 2 : Nat) : Int) by rw [show (1 : Int) = ((1 : Nat) : Int) from rfl, and32 _ _ hy (by omega), low_one])
          have hz0 : (0 : Int) ≤ (z : Int) := by omega
          rcases (show z % 2 = 0 ∨ z % 2 = 1 by omega) with h2 | h2
          · have HE := Lib.hid (st_evn z h2)
            rw [h2] at HZ
            have h2' : bits .and .u32 (z : Int) 1 = 0 := HZ.out
            clear hlo h2 HZ
            go_wp2
            exact ⟨⟨j + 1, by omega, by go_num, by rw [HM.out, ← HE.out]; go_num, trivial⟩, by simp [intOf]; omega⟩
          · have HE := Lib.hid (st_odd z hy h2)
            rw [h2] at HZ
            have h2' : bits .and .u32 (z : Int) 1 = 1 := HZ.out
            clear hlo h2 HZ
            go_wp2
            refine ⟨⟨j + 1, by omega, by go_num, ?_, trivial⟩, by simp [intOf]; omega⟩
            rw [HM.out, ← HE.out]
            go_num
        · obtain rfl : j = 8 := by omega
          go_wp2
          exact ⟨⟨k + 1, by omega, by go_num, by rw [HN.out], trivial⟩, by simp [intOf]; omega⟩
    · obtain rfl : k = l.length := by omega
      rw [List.take_length] at hrl ⊢
      have HF := Lib.hid (show bits .xor .u32 ((regOf r0 l : Nat) : Int) 4294967295 = ((4294967295 ^^^ regOf r0 l : Nat) : Int) from xor32' _ 4294967295 hrl (by omega))
      generalize regOf r0 l = r at *
      clear hr hu
      go_wp2
      rw [HF.out]
      go_ret
      exact ⟨by rw [HS.out]; rfl, rfl⟩
theorem On_any (s : Nat) (A : Option Addr) (c B : Nat) (l : List Int) (w : World) (hr : Row w B A l.length (ints .u8 l)) (hu : U8 l) (hs : s < 4294967296) (hl : l.length ≤ 9223372036854775807) :
    Calls Tryd.prog 55 #[.int .u32 s, .slice A l.length c] w fun e w' => e = .returned (.int .u32 ((sumOf s l : Nat) : Int)) ∧ Below w.heap.size w w' := by
  refine (On_eq s A c B l w hr hu hs hl).mono ?_
  rintro e w' ⟨rfl, rfl⟩
  exact ⟨rfl, Below.refl _ _⟩
theorem rOn_any (s : Nat) (A : Option Addr) (c B : Nat) (l : List Int) (w : World) (hr : Row w B A l.length (ints .u8 l)) (hu : U8 l) (hs : s < 4294967296) (hl : l.length ≤ 9223372036854775807) :
    Calls Tryd.prog 51 #[.int .u32 s, .slice A l.length c] w fun e w' => e = .returned (.int .u32 ((sumOf s l : Nat) : Int)) ∧ Below w.heap.size w w' := by
  refine (rOn_eq s A c B l w hr hu hs hl).mono ?_
  rintro e w' ⟨rfl, rfl⟩
  exact ⟨rfl, Below.refl _ _⟩

/-- Lists of bytes, as the cells of a slice of slices. -/
def Lists (w : World) (B : Nat) (vs : List Value) (ls : List (List Int)) : Prop :=
  vs.length = ls.length ∧ ∀ (j : Nat) (l : List Int), ls[j]? = some l → ∃ (A : Option Addr) (c : Nat), vs[j]? = some (Value.slice A l.length c) ∧ Row w B A l.length (ints .u8 l)
theorem Lists.below {w w' : World} {B : Nat} {vs : List Value} {ls : List (List Int)} (h : Lists w B vs ls) (hb : Below B w w') : Lists w' B vs ls :=
  ⟨h.1, fun j l hj => by
    obtain ⟨A, c, h1, h2⟩ := h.2 j l hj
    exact ⟨A, c, h1, h2.below hb⟩⟩
theorem Lists.alloc {w : World} {B : Nat} {vs : List Value} {ls : List (List Int)} (h : Lists w B vs ls) (hB : B ≤ w.heap.size) (o : Obj) : Lists (w.alloc o) B vs ls :=
  ⟨h.1, fun j l hj => by
    obtain ⟨A, c, h1, h2⟩ := h.2 j l hj
    exact ⟨A, c, h1, h2.alloc hB o⟩⟩
theorem Lists.nil (w : World) (B : Nat) : Lists w B [] [] := ⟨rfl, fun j l hj => by simp at hj⟩
theorem Lists.cons {w : World} {B : Nat} {vs : List Value} {ls : List (List Int)} {A : Option Addr} {c n : Nat} {l : List Int} (hr : Row w B A n (ints .u8 l)) (h : Lists w B vs ls) : Lists w B (Value.slice A n c :: vs) (l :: ls) := by
  have hn : l.length = n := by simpa [ints] using hr.1
  subst hn
  refine ⟨by simp [h.1], fun j m hj => ?_⟩
  cases j with
  | zero =>
    simp only [List.getElem?_cons_zero, Option.some.injEq] at hj
    subst hj
    exact ⟨A, c, rfl, hr⟩
  | succ j => exact h.2 j m hj
/-- Values written out in the text, just laid. -/
theorem Row.lits (w : World) (vs : List Value) (e : TypeId) : Row (w.alloc (.cells vs.toArray e)) (w.heap.size + 1) (some ⟨w.heap.size, 0, none⟩) vs.length vs := by
  refine ⟨rfl, fun _ => ⟨w.heap.size, 0, rfl, by omega, fun j hj => ?_⟩⟩
  rw [World.cell?_alloc_at _ _ _ _ (by simp)]
  simp

def sumsOf (ls : List (List Int)) : Nat := sumOf 0 ls.flatten
def U8s (ls : List (List Int)) : Prop := ∀ l ∈ ls, U8 l
theorem U8s.flat {ls : List (List Int)} (h : U8s ls) : U8 ls.flatten := by
  intro x hx
  obtain ⟨l, hl, hxl⟩ := List.mem_flatten.1 hx
  exact h l hl x hxl
theorem U8s.take {ls : List (List Int)} (h : U8s ls) (k : Nat) : U8s (ls.take k) := fun l hl => h l (List.mem_of_mem_take hl)
theorem flat_take {ls : List (List Int)} {k : Nat} {l : List Int} (h : ls[k]? = some l) : (ls.take (k + 1)).flatten = (ls.take k).flatten ++ l := by
  rw [List.take_add_one, h]
  simp
theorem sums_next {ls : List (List Int)} {k : Nat} {l : List Int} (h : ls[k]? = some l) : sumsOf (ls.take (k + 1)) = sumOf (sumsOf (ls.take k)) l := by
  unfold sumsOf
  rw [flat_take h, sumOf_app]

set_option maxRecDepth 100000 in
set_option maxHeartbeats 1000000 in
theorem Of_eq (A : Option Addr) (c B B' : Nat) (vs : List Value) (ls : List (List Int)) (w : World) (hr : Row w B A vs.length vs) (hl : Lists w B' vs ls) (hu : U8s ls)
    (hn : vs.length ≤ 9223372036854775807) (hm : ∀ l ∈ ls, l.length ≤ 9223372036854775807) :
    Calls Tryd.prog 46 #[.slice A vs.length c] w fun e w' => e = .returned (.int .u32 ((sumsOf ls : Nat) : Int)) ∧ w = w' := by
  have HR := Lib.hid hr
  have HL := Lib.hid hl
  have HU := Lib.hid hu
  have HM := Lib.hid hm
  clear hr hl hu hm
  go_enter Tryd.func46, Tryd.ntmps46
  go_wp2
  go_loopw [3, 8] (fun r i wr => ∃ k : Nat, k ≤ vs.length ∧ i = .int .i64 k ∧ r = .int .u32 ((sumsOf (ls.take k) : Nat) : Int) ∧ w = wr) (fun _ i _ => vs.length - (intOf i).toNat)
  case atStart => exact ⟨0, by omega, rfl, by simp [sumsOf, sumOf_nil], rfl⟩
  case round =>
    obtain ⟨k, hk, rfl, rfl, rfl⟩ := hrel
    by_cases hlt : k < vs.length
    · have hkl : k < ls.length := by have := HL.out.1; omega
      obtain ⟨l, hl⟩ : ∃ l, ls[k]? = some l := ⟨_, List.getElem?_eq_getElem hkl⟩
      obtain ⟨A', c', hv, hrow⟩ := HL.out.2 k l hl
      have hml : l ∈ ls := List.mem_of_getElem? hl
      have hll := HM.out l hml
      have HUL := Lib.hid (HU.out l hml)
      have HN := Lib.hid (sums_next hl)
      have HRow := Lib.hid hrow
      obtain ⟨b, off, rfl, hbB, hc⟩ := HR.out.2 (by omega)
      have hcell := (hc k hlt).trans hv
      have hsl : sumsOf (ls.take k) < 4294967296 := sumOf_lt (HU.out.take k).flat (by omega)
      generalize sumsOf (ls.take k) = s at *
      have hlt' : (k : Int) < (vs.length : Int) := by omega
      clear hc hv hrow hl
      go_wp2_with fail
      refine (On_eq s A' c' B' l _ HRow.out HUL.out hsl hll).mono ?_
      rintro e w1 ⟨rfl, rfl⟩
      go_wp2
      exact ⟨⟨k + 1, by omega, by go_num, by rw [HN.out], trivial⟩, by simp [intOf]; omega⟩
    · obtain rfl : k = vs.length := by omega
      have hall : ls.take vs.length = ls := by rw [List.take_of_length_le (by have := HL.out.1; omega)]
      rw [hall]
      clear hall
      go_wp2
      go_ret
      exact ⟨rfl, rfl⟩
theorem Of_any (A : Option Addr) (c B B' : Nat) (vs : List Value) (ls : List (List Int)) (w : World) (hr : Row w B A vs.length vs) (hl : Lists w B' vs ls) (hu : U8s ls) (_hB : B ≤ w.heap.size) (_hB' : B' ≤ w.heap.size)
    (hn : vs.length ≤ 9223372036854775807) (hm : ∀ l ∈ ls, l.length ≤ 9223372036854775807) :
    Calls Tryd.prog 46 #[.slice A vs.length c] w fun e w' => e = .returned (.int .u32 ((sumsOf ls : Nat) : Int)) ∧ Below w.heap.size w w' := by
  refine (Of_eq A c B B' vs ls w hr hl hu hn hm).mono ?_
  rintro e w' ⟨rfl, rfl⟩
  exact ⟨rfl, Below.refl _ _⟩
def Fresh (w : World) (l : List Int) (e : Ending) (w' : World) : Prop :=
  ∃ A c, e = .returned (.slice A l.length c) ∧ w'.ownsRow w.heap.size 5 1 (.slice A l.length c) l.length (ints .u8 l) ∧ Below w.heap.size w w'
theorem made8 (N : Nat) : (madeCells #[.int .u8 0] N).toList = ints .u8 ([] ++ List.replicate N 0) := by
  rw [toList_madeCells_one]; simp [ints]

theorem row_int (s : Nat) : rowI s = [(s : Int) % 256, (s : Int) / 256 % 256, (s : Int) / 65536 % 256, (s : Int) / 16777216 % 256] := by
  simp [rowI, row4, castI]
set_option maxRecDepth 100000 in
set_option maxHeartbeats 1000000 in
theorem Row_any (s : Nat) (w : World) (hs : s < 4294967296) :
    Calls Tryd.prog 45 #[.int .u32 s] w (Fresh w (rowI s)) := by
  obtain ⟨i0, hi, hz0, hz1, hz2⟩ := info_parts u8_info
  have HI := Lib.hid (row_int s)
  have hs0 : (0:Int) ≤ s := by omega
  go_enter Tryd.func45, Tryd.ntmps45
  go_wp2_with (refine wpList_make_full _ rfl (.const (.int .i64 4)) (.const (.int .i64 4)) 24 rfl w.heap.size 5 i0 (.int .u8 0) 1 Tryd.underlying24 hi hz0 hz1 .i64 .i64 _ _ 4 rfl rfl rfl rfl (by rw [hz2]; omega) (by unfold maxLen; omega) (Nat.le_refl _) ?_)
  intro w6 hown hg6
  rw [made8] at hown
  have hb6 : Below w.heap.size w w6 := (Below.refl _ _).grown hg6 (Nat.le_refl _) (by simp)
  obtain ⟨g, hg⟩ : ∃ g, g = w.heap.size := ⟨_, rfl⟩
  have HG := Lib.hid hg
  rw [← hg] at hown hb6 ⊢
  clear hg hg6
  go_wp2
  go_loopw [8] (fun i wr => ∃ (k : Nat), k ≤ 4 ∧ i = .int .i64 k ∧
      wr.ownsRow g 5 1 (.slice (some ⟨g, 0, none⟩) 4 4) 4 (ints .u8 ((rowI s).take k ++ List.replicate (4 - k) 0)) ∧ Below g w wr) (fun i _ => 4 - (intOf i).toNat)
  case atStart => exact ⟨0, by omega, rfl, hown, hb6⟩
  case round =>
    obtain ⟨k, hk, rfl, hown, hb⟩ := hrel
    rename World => ws
    rw [HI.out] at hown ⊢
    rcases (show k = 0 ∨ k = 1 ∨ k = 2 ∨ k = 3 ∨ k = 4 by omega) with rfl | rfl | rfl | rfl | rfl
    · have hc0 : ws.cell? ⟨g, 0, none⟩ = some (.int .u8 0) := hown.cellAt 0 (by omega)
      have hfz := hown.frozenAt 0
      have HOwn := Lib.hid hown
      clear hown
      go_wp2
      refine ⟨⟨1, by omega, by go_num, ?_, hb.grown (row := some g) (HOwn.out.stored 0 (.int .u8 ((s : Int) % 256))).2 (by have h1 := HG.out; have h2 := hb.size; omega) (by simp)⟩, by simp [intOf]⟩
      have := (HOwn.out.stored 0 (.int .u8 ((s : Int) % 256))).1
      simpa [ints, List.replicate] using this
    · have hc0 : ws.cell? ⟨g, 1, none⟩ = some (.int .u8 0) := hown.cellAt 1 (by omega)
      have hfz := hown.frozenAt 1
      have HOwn := Lib.hid hown
      clear hown
      go_wp2
      refine ⟨⟨2, by omega, by go_num, ?_, hb.grown (row := some g) (HOwn.out.stored 1 (.int .u8 ((s : Int) / 256 % 256))).2 (by have h1 := HG.out; have h2 := hb.size; omega) (by simp)⟩, by simp [intOf]⟩
      have := (HOwn.out.stored 1 (.int .u8 ((s : Int) / 256 % 256))).1
      simpa [ints, List.replicate] using this
    · have hc0 : ws.cell? ⟨g, 2, none⟩ = some (.int .u8 0) := hown.cellAt 2 (by omega)
      have hfz := hown.frozenAt 2
      have HOwn := Lib.hid hown
      clear hown
      go_wp2
      refine ⟨⟨3, by omega, by go_num, ?_, hb.grown (row := some g) (HOwn.out.stored 2 (.int .u8 ((s : Int) / 65536 % 256))).2 (by have h1 := HG.out; have h2 := hb.size; omega) (by simp)⟩, by simp [intOf]⟩
      have := (HOwn.out.stored 2 (.int .u8 ((s : Int) / 65536 % 256))).1
      simpa [ints, List.replicate] using this
    · have hc0 : ws.cell? ⟨g, 3, none⟩ = some (.int .u8 0) := hown.cellAt 3 (by omega)
      have hfz := hown.frozenAt 3
      have HOwn := Lib.hid hown
      clear hown
      go_wp2
      refine ⟨⟨4, by omega, by go_num, ?_, hb.grown (row := some g) (HOwn.out.stored 3 (.int .u8 ((s : Int) / 16777216))).2 (by have h1 := HG.out; have h2 := hb.size; omega) (by simp)⟩, by simp [intOf]⟩
      have := (HOwn.out.stored 3 (.int .u8 ((s : Int) / 16777216))).1
      rw [show (s : Int) / 16777216 % 256 = (s : Int) / 16777216 by omega]; simpa [ints, List.replicate] using this
    · go_wp2
      go_ret
      have hg := HG.out
      subst hg
      refine ⟨some ⟨w.heap.size, 0, none⟩, 4, rfl, ?_, hb⟩
      rw [HI.out]
      exact hown
theorem rRow_any (s : Nat) (w : World) (hs : s < 4294967296) :
    Calls Tryd.prog 50 #[.int .u32 s] w (Fresh w (rowI s)) := by
  have hs0 : (0:Int) ≤ s := by omega
  have HI := Lib.hid (row_int s)
  go_enter Tryd.func50, Tryd.ntmps50
  go_wp2
  go_ret
  refine ⟨_, 4, rfl, ?_, (Below.refl _ _).alloc (Nat.le_refl _) _⟩
  have h := World.ownsRow_lit (size := 1) (e := 5) w #[Value.int .u8 (s % 256), Value.int .u8 (s / 256 % 256), Value.int .u8 (s / 65536 % 256), Value.int .u8 (s / 16777216)] 4 (Nat.le_refl _) (by decide) rfl
  rw [HI.out, show (s : Int) / 16777216 % 256 = (s : Int) / 16777216 by omega]
  exact h

theorem own_low {w : World} {base base' size n : Nat} {e : TypeId} {v : Value} {xs : List Value} (h : w.ownsRow base e size v n xs) (hb : base' ≤ base) : w.ownsRow base' e size v n xs := by
  refine ⟨h.1, ?_⟩
  rcases h.2 with h0 | ⟨g, cap, cur, h1, h2, h3⟩
  · exact .inl h0
  · exact .inr ⟨g, cap, cur, h1, Nat.le_trans hb h2, h3⟩
theorem Fresh.from {w w1 w' : World} {l : List Int} {e : Ending} (hb : Below w.heap.size w w1) (h : Fresh w1 l e w') : Fresh w l e w' := by
  obtain ⟨A, c, he, hown, hb'⟩ := h
  exact ⟨A, c, he, own_low hown hb.size, next hb hb'⟩
theorem CopyBytesW_any (A : Option Addr) (c B : Nat) (l : List Int) (w : World) (hr : Row w B A l.length (ints .u8 l)) (hB : B ≤ w.heap.size) (hl : l.length ≤ 150000000000000) :
    Calls Tryd.prog 18 #[.slice A l.length c] w (Fresh w l) := by
  obtain ⟨i0, hi, hz0, hz1, hz2⟩ := info_parts u8_info
  go_enter Tryd.func18, Tryd.ntmps18
  go_wp2_with (at_builtin; refine wpList_app _ rfl (.tmp 4) (.tmp 5) 24 rfl w.heap.size 5 i0 (.int .u8 0) 1 Tryd.underlying24 hi hz0 hz1 hz2 rfl _ 0 [] rfl (World.ownsRow_nil _ _ _ _) _ _ _ _ _ rfl hr (ints_one _ _) (by unfold maxLen; omega) (by omega) (Nat.le_refl _) ?_)
  intro v' w' hown' _ hb'
  obtain ⟨A', c', rfl⟩ := own_slice hown'
  go_wp2
  go_ret
  exact ⟨A', c', by simp, by simpa using hown', hb'⟩

theorem tmod_or (i n : Int) (hn : 0 < n) : (i.tmod n = i % n ∨ i.tmod n = i % n - n) ∧ 0 ≤ i % n ∧ i % n < n := by
  refine ⟨?_, Int.emod_nonneg _ (by omega), Int.emod_lt_of_pos _ hn⟩
  rw [Int.tmod_eq_emod]
  split
  · left; omega
  · right; omega
set_option maxRecDepth 100000 in
theorem Bring_any (i n : Int) (w : World) (hi : (Lit.int .i64 i).wf = true) (hn : n ≤ 9223372036854775807) (hn0 : 0 < n) :
    Calls Tryd.prog 21 #[.int .i64 i, .int .i64 n] w fun e w' => e = .returned (.int .i64 (i % n)) ∧ w = w' := by
  have HK := Lib.hid (tmod_or i n hn0)
  go_enter Tryd.func21, Tryd.ntmps21
  go_wp2
  · have h0 : i.tmod n < 0 := by assumption
    have h2 := HK.out
    go_ret
    refine ⟨?_, rfl⟩
    show Ending.returned (Value.int .i64 (wrap64 (i.tmod n + n))) = _
    rw [show i.tmod n + n = i % n by omega, IntWalk.wrap64_in _ (by omega)]
  · have h0 : 0 ≤ i.tmod n := by assumption
    have h2 := HK.out
    go_ret
    refine ⟨?_, rfl⟩
    show Ending.returned (Value.int .i64 (i.tmod n)) = _
    rw [show i.tmod n = i % n by omega]

theorem Grow_any (n : Nat) (w : World) (hn : n ≤ 200000000000000) :
    Calls Tryd.prog 56 #[.slice none 0 0, .int .i64 n] w fun e w' => ∃ A c, e = .returned (.slice A 0 c) ∧ w'.ownsRow w.heap.size 5 1 (.slice A 0 c) 0 [] ∧ Below w.heap.size w w' := by
  by_cases h : n = 0
  · subst h
    go_enter Tryd.func56, Tryd.ntmps56
    go_wp2
    go_ret
    exact ⟨none, 0, rfl, World.ownsRow_nil _ _ _ _, Below.refl _ _⟩
  · have hpos : (0 : Int) < n := by omega
    have hby : Tryd.t5.bytes = 1 := rfl
    have h1 : ¬ (281474976710656 < Builtin.nextslicecap n 0 * Tryd.t5.bytes) := by rw [nextslicecap_zero (by omega), hby]; omega
    have h2 : ¬ (281474976710656 < (n : Int) * (Tryd.t5.bytes : Int)) := by rw [hby]; omega
    clear hby
    go_enter Tryd.func56, Tryd.ntmps56
    go_wp2
    have hcap : ∀ t : Nat, n ≤ (Question.appendCap n 0 5).cut t ∧ (Question.appendCap n 0 5).cut t ≤ maxLen := by
      intro t
      show n ≤ n + t % (2 ^ 63 - n) ∧ n + t % (2 ^ 63 - n) ≤ maxLen
      have := Nat.mod_lt t (show 2 ^ 63 - n > 0 by omega)
      unfold maxLen
      omega
    have hc := hcap (w.tape w.drawn (Question.appendCap n 0 5))
    go_ret
    refine ⟨some ⟨w.heap.size, 0, none⟩, _, rfl, ?_, ((Below.refl _ _).alloc (Nat.le_refl _) _).drew⟩
    refine World.ownsRow_made w _ _ (Nat.le_refl _) hc.2 ?_
    rw [Array.size_append, size_zeroCells, size_zeroCells]
    simp
    omega
theorem len_flat_next {ls : List (List Int)} {k : Nat} {l : List Int} (h : ls[k]? = some l) : (ls.take (k + 1)).flatten.length = (ls.take k).flatten.length + l.length := by
  rw [flat_take h, List.length_append]
theorem len_flat_le (ls : List (List Int)) (k : Nat) : (ls.take k).flatten.length ≤ ls.flatten.length := by
  conv => rhs; rw [← List.take_append_drop k ls, List.flatten_append, List.length_append]
  omega
set_option maxRecDepth 100000 in
set_option maxHeartbeats 1000000 in
theorem Concat_any (A : Option Addr) (c B B' : Nat) (vs : List Value) (ls : List (List Int)) (w : World) (hr : Row w B A vs.length vs) (hl : Lists w B' vs ls) (hB : B ≤ w.heap.size) (hB' : B' ≤ w.heap.size)
    (hn : vs.length ≤ 9223372036854775807) (hm : ls.flatten.length ≤ 200000000000000) :
    Calls Tryd.prog 48 #[.slice A vs.length c] w (Fresh w ls.flatten) := by
  obtain ⟨i0, hi, hz0, hz1, hz2⟩ := info_parts u8_info
  have HR := Lib.hid hr
  have HL := Lib.hid hl
  clear hr hl
  go_enter Tryd.func48, Tryd.ntmps48
  go_wp2
  go_loopw [3, 11] (fun z i wr => ∃ k : Nat, k ≤ vs.length ∧ i = .int .i64 k ∧ z = .int .i64 (((ls.take k).flatten.length : Nat) : Int) ∧ Below w.heap.size w wr) (fun _ i _ => vs.length - (intOf i).toNat)
  case atStart => exact ⟨0, by omega, rfl, by simp, Below.refl _ _⟩
  case round =>
    obtain ⟨k, hk, rfl, rfl, hb⟩ := hrel
    rename World => ws
    by_cases hlt : k < vs.length
    · have hkl : k < ls.length := by have := HL.out.1; omega
      obtain ⟨l, hl⟩ : ∃ l, ls[k]? = some l := ⟨_, List.getElem?_eq_getElem hkl⟩
      obtain ⟨A', c', hv, hrow⟩ := HL.out.2 k l hl
      have HN := Lib.hid (len_flat_next hl)
      have hle := len_flat_le ls (k + 1)
      rw [HN.out] at hle
      obtain ⟨b, off, rfl, hbB, hc⟩ := (HR.out.below (hb.mono hB)).2 (by omega)
      have hcell := (hc k hlt).trans hv
      generalize (ls.take k).flatten.length = s at *
      have hlt' : (k : Int) < (vs.length : Int) := by omega
      have hs0 : (0 : Int) ≤ (s : Int) + (l.length : Int) := by omega
      clear hc hv hrow hl
      have HB := Lib.hid hb
      clear hb
      go_wp2
      refine ⟨⟨k + 1, by omega, by go_num, by rw [HN.out]; go_num, HB.out⟩, by simp [intOf]; omega⟩
    · obtain rfl : k = vs.length := by omega
      have hall : ls.take vs.length = ls := by rw [List.take_of_length_le (by have := HL.out.1; omega)]
      rw [hall]
      have HA := Lib.hid hall
      clear hall
      obtain ⟨T, hT⟩ : ∃ T, ls.flatten.length = T := ⟨_, rfl⟩
      rw [hT] at hm ⊢
      have HT := Lib.hid hT
      clear hT
      go_wp2_with fail
      refine (Grow_any T _ hm).mono ?_
      rintro e w1 ⟨A1, c1, rfl, hown, hb1⟩
      have hbb := next hb hb1
      have hown0 := own_low hown hb.size
      clear hown hb hb1
      go_wp2
      go_loopw [6, 27] (fun o i wr => ∃ (k n : Nat) (A2 : Option Addr) (c2 : Nat), k ≤ vs.length ∧ i = .int .i64 k ∧ o = .slice A2 n c2 ∧ Hid (n = (ls.take k).flatten.length) ∧
        wr.ownsRow w.heap.size 5 1 (.slice A2 n c2) n (ints .u8 (ls.take k).flatten) ∧ Below w.heap.size w wr) (fun _ i _ => vs.length - (intOf i).toNat)
      case atStart => exact ⟨0, 0, A1, c1, by omega, rfl, rfl, Lib.hid rfl, hown0, hbb⟩
      case round =>
        obtain ⟨k, n, A2, c2, hk, rfl, rfl, HN, hown, hb⟩ := hrel
        rename World => ws
        by_cases hlt : k < vs.length
        · have hkl : k < ls.length := by have := HL.out.1; omega
          obtain ⟨l, hl⟩ : ∃ l, ls[k]? = some l := ⟨_, List.getElem?_eq_getElem hkl⟩
          obtain ⟨A', c', hv, hrow⟩ := HL.out.2 k l hl
          have hnx := len_flat_next hl
          have hfl := Lib.hid (flat_take hl)
          have hle := len_flat_le ls (k + 1)
          rw [hnx, HT.out, ← HN.out] at hle
          have HN1 : Hid (n + l.length = (ls.take (k + 1)).flatten.length) := Lib.hid (by rw [hnx, HN.out])
          have hrow' := hrow.below (hb.mono hB')
          obtain ⟨b, off, rfl, hbB, hc⟩ := (HR.out.below (hb.mono hB)).2 (by omega)
          have hcell := (hc k hlt).trans hv
          have hlt' : (k : Int) < (vs.length : Int) := by omega
          have HOwn := Lib.hid hown
          have HRow := Lib.hid hrow'
          have HB := Lib.hid hb
          have hbs := hb.size
          clear hc hv hrow hrow' hl hnx hown hb
          go_wp2_with (at_builtin; refine wpList_app _ rfl (.tmp 31) (.tmp 32) 24 rfl w.heap.size 5 i0 (.int .u8 0) 1 Tryd.underlying24 hi hz0 hz1 hz2 rfl _ _ _ rfl HOwn.out _ _ _ _ _ rfl HRow.out (ints_one _ _) (by unfold maxLen; omega) (by omega) hbs ?_)
          intro v' w2 hown2 _ hb2
          obtain ⟨A3, c3, rfl⟩ := own_slice hown2
          go_wp2
          go_roundw
          case rel => exact ⟨k + 1, n + l.length, A3, c3, by omega, by go_num, rfl, HN1, by rw [hfl.out, ints_append]; exact hown2, HB.out.trans hb2⟩
          case measure => simp [intOf]; omega
        · obtain rfl : k = vs.length := by omega
          have hall := HA.out
          rw [hall] at hown
          have hn : n = ls.flatten.length := by rw [HN.out, hall]
          have HN2 := Lib.hid hn
          clear hall hn HN
          go_wp2
          go_ret
          have hn := HN2.out
          subst hn
          exact ⟨A2, c2, rfl, hown, hb⟩

theorem Equal_len (A A' : Option Addr) (n m cap cap' : Nat) (w : World) (hne : n ≠ m) :
    Calls Tryd.prog 44 #[.slice A n cap, .slice A' m cap'] w fun e w' => e = .returned (.bool false) ∧ w = w' := by
  have h1 : ((n : Int) == (m : Int)) = false := beq_eq_false_iff_ne.2 (by omega)
  have h2 : ((n : Int) != (m : Int)) = true := by simp [bne, h1]
  go_enter Tryd.func44, Tryd.ntmps44
  go_wp2
  go_ret
  exact ⟨rfl, rfl⟩

set_option maxHeartbeats 400000 in
theorem Equal_walk (b b' off off' n cap cap' : Nat) (xs ys : List Int) (w : World) (hx : xs.length = n) (hy : ys.length = n) (hn : n ≤ 9223372036854775807)
    (hcx : ∀ j, j < n → w.cell? ⟨b, off + j, none⟩ = some (.int .u8 (xs.getD j 0))) (hcy : ∀ j, j < n → w.cell? ⟨b', off' + j, none⟩ = some (.int .u8 (ys.getD j 0))) :
    Calls Tryd.prog 44 #[.slice (some ⟨b, off, none⟩) n cap, .slice (some ⟨b', off', none⟩) n cap'] w fun e w' => e = .returned (.bool (decide (xs = ys))) ∧ ∃ k, w' = w.drewN k := by
  go_enter Tryd.func44, Tryd.ntmps44
  go_wp2
  go_loopw [13] (fun i wr => ∃ k q : Nat, k ≤ n ∧ i = .int .i64 k ∧ xs.take k = ys.take k ∧ wr = w.drewN q) (fun i _ => n - (intOf i).toNat)
  case atStart => exact ⟨0, 0, Nat.zero_le _, rfl, rfl, rfl⟩
  case round =>
    obtain ⟨k, q, hk, rfl, ht, rfl⟩ := hrel
    by_cases hlt : k < n
    · have gx := hcx k hlt
      have hlx : k < xs.length := by omega
      have hly : k < ys.length := by omega
      have gy := hcy k hlt
      have hlt' : (k : Int) < (n : Int) := by omega
      have HT := Lib.hid ht
      clear ht hcx hcy
      go_wp2_with fail
      go_quiet (fail)
      go_wp2
      · have hne : (xs[k] != ys[k]) = true := by assumption
        go_ret
        refine ⟨ret_bool ?_, _, World.drewN_drewN _ _ _⟩
        simp only [Bool.false_eq, decide_eq_false_iff_not]
        rintro rfl
        simp at hne
      · have he : (xs[k] != ys[k]) = false := by assumption
        go_roundw
        case rel => exact ⟨k + 1, q + _, by omega, by go_num, take_succ_eq HT.out (by omega) (by omega) (by simpa [hlx, hly] using he), rfl⟩
        case measure => simp [intOf]; omega
    · have hkn : k = n := by omega
      have hxy : xs = ys := by
        subst hkn
        rw [List.take_of_length_le (by omega), List.take_of_length_le (by omega)] at ht
        exact ht
      have HT := Lib.hid hxy
      clear ht hxy hcx hcy hkn
      go_wp2
      go_ret
      exact ⟨ret_bool (by simp [HT.out]), _, rfl⟩

theorem Equal_any (A A' : Option Addr) (n m cap cap' B B' : Nat) (xs ys : List Int) (w : World) (hx : Row w B A n (ints .u8 xs)) (hy : Row w B' A' m (ints .u8 ys)) (hn : n ≤ 9223372036854775807) :
    Calls Tryd.prog 44 #[.slice A n cap, .slice A' m cap'] w fun e w' => e = .returned (.bool (decide (xs = ys))) ∧ Below w.heap.size w w' := by
  have lx : xs.length = n := by simpa [ints] using hx.1
  have ly : ys.length = m := by simpa [ints] using hy.1
  by_cases hne : n = m
  · subst hne
    by_cases h0 : n = 0
    · subst h0
      have e1 : xs = [] := List.eq_nil_of_length_eq_zero lx
      have e2 : ys = [] := List.eq_nil_of_length_eq_zero ly
      subst e1; subst e2
      go_enter Tryd.func44, Tryd.ntmps44
      go_wp2
      refine wp_loop_rounds 1 ?_
      rw [rounds_succ]
      go_wp2
      go_ret
      exact ⟨rfl, Below.refl _ _⟩
    · obtain ⟨b, off, rfl, _, hc⟩ := hx.2 (by omega)
      obtain ⟨b', off', rfl, _, hc'⟩ := hy.2 (by omega)
      refine (Equal_walk b b' off off' n cap cap' xs ys w lx ly hn (fun j hj => (hc j hj).trans (ints_get _ _ _ (by omega))) (fun j hj => (hc' j hj).trans (ints_get _ _ _ (by omega)))).mono ?_
      rintro e w' ⟨rfl, k, rfl⟩
      exact ⟨rfl, ⟨rfl, rfl, rfl, Nat.le_refl _, fun _ _ => rfl⟩⟩
  · refine (Equal_len A A' n m cap cap' w hne).mono ?_
    rintro e w' ⟨rfl, rfl⟩
    refine ⟨ret_bool ?_, Below.refl _ _⟩
    simp only [Bool.false_eq, decide_eq_false_iff_not]
    rintro rfl
    omega

/-- Of, of lists written out in the call. -/
theorem Of_lits (vs : List Value) (ls : List (List Int)) (n B' : Nat) (w : World) (hl : Lists w B' vs ls) (hB' : B' ≤ w.heap.size) (hu : U8s ls) (hn : vs.length = n) (hn2 : n ≤ 1000) (hm : ∀ l ∈ ls, l.length ≤ 9223372036854775807) :
    Calls Tryd.prog 46 #[.slice (some ⟨w.heap.size, 0, none⟩) n n] (w.alloc (.cells vs.toArray 24)) fun e w' => e = .returned (.int .u32 ((sumsOf ls : Nat) : Int)) ∧ Below w.heap.size w w' := by
  subst hn
  refine (Of_any _ vs.length (w.heap.size + 1) B' vs ls _ (Row.lits w vs _) (hl.alloc hB' _) hu (by simp) (by simp; omega) (by omega) hm).mono ?_
  rintro e w' ⟨rfl, hb⟩
  exact ⟨rfl, nextA (Below.refl _ _) hb⟩
theorem Concat_lits (vs : List Value) (ls : List (List Int)) (n B' : Nat) (w : World) (hl : Lists w B' vs ls) (hB' : B' ≤ w.heap.size) (hn : vs.length = n) (hn2 : n ≤ 1000) (hm : ls.flatten.length ≤ 200000000000000) :
    Calls Tryd.prog 48 #[.slice (some ⟨w.heap.size, 0, none⟩) n n] (w.alloc (.cells vs.toArray 24)) (Fresh w ls.flatten) := by
  subst hn
  refine (Concat_any _ vs.length (w.heap.size + 1) B' vs ls _ (Row.lits w vs _) (hl.alloc hB' _) (by simp) (by simp; omega) (by omega) hm).mono ?_
  rintro e w' hF
  exact Fresh.from ((Below.refl _ _).alloc (Nat.le_refl _) _) hF
theorem Of_one (A : Option Addr) (c n B' : Nat) (l : List Int) (w : World) (hr : Row w B' A n (ints .u8 l)) (hB' : B' ≤ w.heap.size) (hu : U8 l) (hm : l.length ≤ 9223372036854775807) :
    Calls Tryd.prog 46 #[.slice (some ⟨w.heap.size, 0, none⟩) 1 1] (w.alloc (.cells #[.slice A n c] 24)) fun e w' => e = .returned (.int .u32 ((sumOf 0 l : Nat) : Int)) ∧ Below w.heap.size w w' := by
  have := Of_lits [.slice A n c] [l] 1 B' w (Lists.cons hr (Lists.nil _ _)) hB' (by intro x hx; simp at hx; subst hx; exact hu) rfl (by omega) (by intro x hx; simp at hx; subst hx; exact hm)
  rwa [show sumsOf [l] = sumOf 0 l by simp [sumsOf]] at this

/-- A row, just made: four bytes. -/
def Fresh4 (w : World) (s : Nat) (e : Ending) (w' : World) : Prop :=
  ∃ A c, e = .returned (.slice A 4 c) ∧ w'.ownsRow w.heap.size 5 1 (.slice A 4 c) 4 (ints .u8 (rowI s)) ∧ Below w.heap.size w w'
theorem Row4_any (s : Nat) (w : World) (hs : s < 4294967296) : Calls Tryd.prog 45 #[.int .u32 s] w (Fresh4 w s) := (Row_any s w hs).mono fun _ _ h => h
theorem rRow4_any (s : Nat) (w : World) (hs : s < 4294967296) : Calls Tryd.prog 50 #[.int .u32 s] w (Fresh4 w s) := (rRow_any s w hs).mono fun _ _ h => h
set_option maxHeartbeats 1000000 in
theorem Put_any (A : Option Addr) (c B : Nat) (l : List Int) (w : World) (hr : Row w B A l.length (ints .u8 l)) (hB : B ≤ w.heap.size) (hu : U8 l) (hl : l.length ≤ 150000000000000) :
    Calls Tryd.prog 23 #[.slice A l.length c] w (Fresh w (l ++ rowI (sumOf 0 l))) := by
  have hs := sumOf_lt hu (s := 0) (by omega)
  have HO := Lib.hid (Of_one A c l.length B l w hr hB hu (by omega))
  have HR := Lib.hid hr
  generalize sumOf 0 l = s at *
  clear hr
  go_enter Tryd.func23, Tryd.ntmps23
  go_wp2_with fail
  refine HO.out.mono ?_
  rintro e w1 ⟨rfl, b1⟩
  clear HO
  go_wp2_with fail
  refine (Row4_any s w1 hs).mono ?_
  rintro e w2 ⟨A2, c2, rfl, o2, b2⟩
  have r2 := Row.own o2
  have b12 := next b1 b2
  have r1 := (HR.out.wide hB).on b12
  have HC := Lib.hid (Concat_lits [.slice A l.length c, .slice A2 4 c2] [l, rowI s] 2 w2.heap.size w2 (Lists.cons r1 (Lists.cons r2 (Lists.nil _ _))) (Nat.le_refl _) rfl (by omega) (by simp [rowI_len]; omega))
  rw [show [l, rowI s].flatten = l ++ rowI s by simp] at HC
  clear r1 r2 o2
  go_wp2_with fail
  refine HC.out.mono ?_
  rintro e w3 hF
  obtain ⟨A3, c3, rfl, o3, b3⟩ := Fresh.from b12 hF
  go_wp2
  go_ret
  exact ⟨A3, c3, by rw [List.length_append]; rfl, o3, b3⟩

set_option maxHeartbeats 1000000 in
theorem rPut_any (A : Option Addr) (c B : Nat) (l : List Int) (w : World) (hr : Row w B A l.length (ints .u8 l)) (hB : B ≤ w.heap.size) (hu : U8 l) (hl : l.length ≤ 150000000000000) :
    Calls Tryd.prog 32 #[.slice A l.length c] w (Fresh w (l ++ rowI (sumOf 0 l))) := by
  obtain ⟨i0, hi, hz0, hz1, hz2⟩ := info_parts u8_info
  have hs := sumOf_lt hu (s := 0) (by omega)
  have HO := Lib.hid (fun w hr => rOn_any 0 A c w.heap.size l w hr hu (by omega) (by omega))
  have HR := Lib.hid (hr.wide hB)
  generalize sumOf 0 l = s at *
  clear hr
  go_enter Tryd.func32, Tryd.ntmps32
  go_wp2_with fail
  refine (CopyBytesW_any A c _ l w HR.out (Nat.le_refl _) hl).mono ?_
  rintro e w1 ⟨A1, c1, rfl, o1, b1⟩
  go_wp2_with fail
  refine (HO.out w1 (HR.out.on b1)).mono ?_
  rintro e w2 ⟨rfl, b2⟩
  have b12 := next b1 b2
  go_wp2_with fail
  refine (rRow4_any s w2 hs).mono ?_
  rintro e w3 ⟨A3, c3, rfl, o3, b3⟩
  have r3 := Row.own o3
  have b13 := next b12 b3
  have o1' : w3.ownsRow w.heap.size 5 1 (.slice A1 l.length c1) l.length (ints .u8 l) := by
    have hb := next b2 b3
    exact o1.kept (row := none) ⟨hb.os, hb.tape, hb.output, hb.size, fun j hj _ => hb.block j hj⟩ (by cases A1 <;> simp [Value.ownBlock])
  have hbs := b13.size
  clear o1 o3 HO
  go_wp2_with (at_builtin; refine wpList_app _ rfl (.tmp 4) (.tmp 7) 24 rfl w.heap.size 5 i0 (.int .u8 0) 1 Tryd.underlying24 hi hz0 hz1 hz2 rfl _ _ _ rfl o1' _ _ _ _ _ rfl r3 (ints_one _ _) (by unfold maxLen; omega) (by omega) hbs ?_)
  intro v' w4 hown4 _ hb4
  obtain ⟨A4, c4, rfl⟩ := own_slice hown4
  go_wp2
  go_ret
  rw [← ints_append] at hown4
  exact ⟨A4, c4, by rw [List.length_append]; rfl, by rw [List.length_append]; exact hown4, b13.trans hb4⟩
/-- What a call that answers bytes and a bool leaves behind. -/
def CutOut (w : World) (l : List Int) (e : Ending) (w' : World) : Prop :=
  ∃ A c, e = .returned (.tuple #[.slice A (cutOf l).length c, .bool (sealedI l)]) ∧ w'.ownsRow w.heap.size 5 1 (.slice A (cutOf l).length c) (cutOf l).length (ints .u8 (cutOf l)) ∧ Below w.heap.size w w'
theorem short_cut {l : List Int} (h : l.length < 4) : sealedI l = false ∧ cutOf l = [] := by
  have : sealedI l = false := by unfold sealedI; simp; omega
  exact ⟨this, by unfold cutOf; rw [this]; simp⟩
theorem Row.dropped {w : World} {B b off n : Nat} {xs : List Value} (h : Row w B (some ⟨b, off, none⟩) n xs) (m : Nat) (hm : m < n) : Row w B (some ⟨b, off + m, none⟩) (n - m) (xs.drop m) := by
  refine ⟨by rw [List.length_drop, h.1], fun _ => ?_⟩
  obtain ⟨b', off', e, hb, hc⟩ := h.2 (by omega)
  injection e with e
  injection e with e1 e2
  subst e1; subst e2
  refine ⟨b, off + m, rfl, hb, fun j hj => ?_⟩
  rw [List.getElem?_drop, ← hc (m + j) (by omega), Nat.add_assoc]
theorem Row.takeV {w : World} {B n k : Nat} {A : Option Addr} {xs : List Value} (h : Row w B A n xs) (hk : k ≤ n) : Row w B A k (xs.take k) := by
  refine ⟨by rw [List.length_take, h.1]; omega, fun h0 => ?_⟩
  obtain ⟨b, off, e, hb, hc⟩ := h.2 (by omega)
  refine ⟨b, off, e, hb, fun j hj => ?_⟩
  rw [List.getElem?_take, if_pos hj, hc j (by omega)]
theorem Row.len {w : World} {B n : Nat} {A : Option Addr} {l : List Int} (h : Row w B A n (ints .u8 l)) : l.length = n := by simpa [ints] using h.1
def FreshN (w : World) (n : Nat) (l : List Int) (e : Ending) (w' : World) : Prop :=
  ∃ A c, e = .returned (.slice A n c) ∧ w'.ownsRow w.heap.size 5 1 (.slice A n c) n (ints .u8 l) ∧ Below w.heap.size w w'
theorem Fresh.n {w w' : World} {l : List Int} {e : Ending} {n : Nat} (hn : l.length = n) (h : Fresh w l e w') : FreshN w n l e w' := by
  subst hn; exact h
theorem Clone_at (A : Option Addr) (c B n : Nat) (l : List Int) (w : World) (hr : Row w B A n (ints .u8 l)) (hB : B ≤ w.heap.size) (hl : n ≤ 150000000000000) :
    Calls Tryd.prog 47 #[.slice A n c] w (FreshN w n l) := by
  have hn := hr.len
  subst hn
  exact (Clone_any A c B l w hr hB hl).mono fun _ _ h => h
theorem Equal_is (A A' : Option Addr) (n m cap cap' B B' : Nat) (xs ys : List Int) (w : World) (r : Bool) (hx : Row w B A n (ints .u8 xs)) (hy : Row w B' A' m (ints .u8 ys)) (hn : n ≤ 9223372036854775807) (hr : Hid (decide (xs = ys) = r)) :
    Calls Tryd.prog 44 #[.slice A n cap, .slice A' m cap'] w fun e w' => e = .returned (.bool r) ∧ Below w.heap.size w w' := by
  have := Equal_any A A' n m cap cap' B B' xs ys w hx hy hn
  rwa [hr.out] at this
theorem Of_drew (A : Option Addr) (c n B' s : Nat) (l : List Int) (w : World) (hr : Row w B' A n (ints .u8 l)) (hB' : B' ≤ w.heap.size) (hu : U8 l) (hm : l.length ≤ 9223372036854775807) (hs : Hid (sumOf 0 l = s)) :
    Calls Tryd.prog 46 #[.slice (some ⟨w.heap.size, 0, none⟩) 1 1] (w.alloc (.cells #[.slice A n c] 24)).drew fun e w' => e = .returned (.int .u32 (s : Int)) ∧ Below w.heap.size w w' := by
  have h := Of_any (some ⟨w.heap.size, 0, none⟩) 1 (w.heap.size + 1) B' [.slice A n c] [l] (w.alloc (.cells #[.slice A n c] 24)).drew (Row.lits w [.slice A n c] _) ((Lists.cons hr (Lists.nil _ _)).alloc hB' _) (by intro x hx; simp at hx; subst hx; exact hu) (by simp [World.drew]) (by simp [World.drew]; omega) (by simp) (by intro x hx; simp at hx; subst hx; exact hm)
  refine h.mono ?_
  rintro e w' ⟨rfl, hb⟩
  refine ⟨by rw [show sumsOf [l] = s by simp [sumsOf, hs.out]], nextA (o := .cells #[.slice A n c] 24) (Below.refl _ _) ?_⟩
  exact ⟨hb.os, hb.tape, hb.output, hb.size, hb.block⟩

set_option maxRecDepth 100000 in
set_option maxHeartbeats 2000000 in
theorem Cut_long (b off m c B s : Nat) (r : Bool) (l : List Int) (w : World) (hr : Row w B (some ⟨b, off, none⟩) (m + 4) (ints .u8 l)) (hB : B ≤ w.heap.size) (hu : U8 l) (hl : m + 4 ≤ 150000000000000) (hc : m + 4 ≤ c) (hc2 : c ≤ 9223372036854775807)
    (hs : Hid (sumOf 0 (l.take m) = s)) (hd : Hid (decide (l.drop m = rowI s) = r)) :
    Calls Tryd.prog 22 #[.slice (some ⟨b, off, none⟩) (m + 4 : Nat) c] w fun e w' => ∃ A c, (e = .returned (.tuple #[.slice A (if r then m else 0) c, .bool r])) ∧
      w'.ownsRow w.heap.size 5 1 (.slice A (if r then m else 0) c) (if r then m else 0) (ints .u8 (if r then l.take m else [])) ∧ Below w.heap.size w w' := by
  have hlen := hr.len
  have hs2 : s < 4294967296 := by rw [← hs.out]; exact sumOf_lt (hu.take m) (by omega)
  have ht := hr.takeV (k := m) (by omega)
  rw [ints_take] at ht
  have hdr := hr.dropped m (by omega)
  rw [ints_drop, show m + 4 - m = 4 by omega] at hdr
  have HO := Lib.hid (Of_drew (some ⟨b, off, none⟩) c m B s (l.take m) w ht hB (hu.take m) (by rw [List.length_take]; omega) hs)
  have HT := Lib.hid ht
  have HD := Lib.hid hdr
  have hm0 : (0 : Int) ≤ (m : Int) := by omega
  have hmc : m ≤ c := by omega
  have d0 : decide ((m : Int) < 0) = false := by simp
  have h5 : (m : Int) ≤ (m : Int) + 4 := by omega
  have hcm : ¬ c = m := by omega
  clear ht hdr hr
  go_enter Tryd.func22, Tryd.ntmps22
  go_wp2_with fail
  go_region_held3 (fun _ => True) (trivial)
    ((first
      | (go_at_call 46
         refine HO.out.mono ?_
         rintro e w1 ⟨rfl, b1⟩)
      | (go_at_call 45
         refine (Row4_any s w1 hs2).mono ?_
         rintro e w2 ⟨A2, c2, rfl, o2, b2⟩
         have r2 := Row.own o2
         have b12 := next b1 b2)
      | (go_at_call 44
         refine (Equal_is (some ⟨b, off + m, none⟩) A2 4 4 (c - m) c2 w.heap.size w2.heap.size (l.drop m) (rowI s) w2 r ((HD.out.wide hB).below b12) r2 (by omega) hd).mono ?_
         rintro e w3 ⟨rfl, b3⟩
         have b13 := next b12 b3)))
  all_goals
    cases r
    · simp only [Bool.not_false]
      go_wp2_with fail
      go_ret2
      exact ⟨none, 0, rfl, World.ownsRow_nil _ _ _ _, b13⟩
    · simp only [Bool.not_true]
      go_wp2_with fail
      refine (Clone_at (some ⟨b, off, none⟩) c w3.heap.size m (l.take m) w3 ((HT.out.wide hB).on b13) (Nat.le_refl _) (by omega)).mono ?_
      rintro e w4 ⟨A4, c4, rfl, o4, b4⟩
      go_wp2
      go_ret2
      exact ⟨A4, c4, rfl, own_low o4 b13.size, next b13 b4⟩

theorem cut_tail {l : List Int} {m : Nat} (h : l.length = m + 4) : sealedI l = decide (l.drop m = rowI (sumOf 0 (l.take m))) ∧ cutOf l = (if sealedI l then l.take m else []) := by
  have hm : l.length - 4 = m := by omega
  have h1 : sealedI l = decide (l.drop m = rowI (sumOf 0 (l.take m))) := by
    unfold sealedI
    rw [hm]
    simp [h]
  exact ⟨h1, by unfold cutOf; rw [hm]⟩
theorem cut_len {l : List Int} {m : Nat} (h : l.length = m + 4) : (cutOf l).length = if sealedI l then m else 0 := by
  rw [(cut_tail h).2]
  split
  · rw [List.length_take]; omega
  · rfl
set_option maxHeartbeats 1000000 in
theorem Cut_any (A : Option Addr) (c B : Nat) (l : List Int) (w : World) (hr : Row w B A l.length (ints .u8 l)) (hB : B ≤ w.heap.size) (hu : U8 l) (hl : l.length ≤ 150000000000000) (hc : l.length ≤ c) (hc2 : c ≤ 9223372036854775807) :
    Calls Tryd.prog 22 #[.slice A l.length c] w (CutOut w l) := by
  by_cases h4 : l.length < 4
  · have HS := Lib.hid (short_cut h4)
    unfold CutOut
    rw [HS.out.1, HS.out.2]
    have hd : decide ((l.length : Int) - 4 < 0) = true := by simp; omega
    go_enter Tryd.func22, Tryd.ntmps22
    go_wp2
    go_quiet (fail)
    go_wp2
    go_ret2
    exact ⟨none, 0, rfl, World.ownsRow_nil _ _ _ _, ⟨rfl, rfl, rfl, Nat.le_refl _, fun _ _ => rfl⟩⟩
  · obtain ⟨b, off, rfl, hbB, hcl⟩ := hr.2 (by omega)
    obtain ⟨m, hm⟩ : ∃ m, l.length = m + 4 := ⟨l.length - 4, by omega⟩
    have ht := cut_tail hm
    have hln := cut_len hm
    rw [hm] at hr hc hl ⊢
    refine (Cut_long b off m c B _ (sealedI l) l w hr hB hu hl hc hc2 (Lib.hid rfl) (Lib.hid ht.1.symm)).mono ?_
    rintro e w' ⟨A, c', rfl, hown, hb⟩
    refine ⟨A, c', by rw [hln], ?_, hb⟩
    rw [hln, ht.2]
    exact hown

theorem Put_at (A : Option Addr) (c B n : Nat) (l : List Int) (w : World) (hr : Row w B A n (ints .u8 l)) (hB : B ≤ w.heap.size) (hu : U8 l) (hl : n ≤ 150000000000000) :
    Calls Tryd.prog 23 #[.slice A n c] w (FreshN w (n + 4) (l ++ rowI (sumOf 0 l))) := by
  have hn := hr.len
  subst hn
  exact (Put_any A c B l w hr hB hu hl).mono fun _ _ h => h.n (by rw [List.length_append, rowI_len])
theorem rPut_at (A : Option Addr) (c B n : Nat) (l : List Int) (w : World) (hr : Row w B A n (ints .u8 l)) (hB : B ≤ w.heap.size) (hu : U8 l) (hl : n ≤ 150000000000000) :
    Calls Tryd.prog 32 #[.slice A n c] w (FreshN w (n + 4) (l ++ rowI (sumOf 0 l))) := by
  have hn := hr.len
  subst hn
  exact (rPut_any A c B l w hr hB hu hl).mono fun _ _ h => h.n (by rw [List.length_append, rowI_len])
theorem CopyBytes_at (A : Option Addr) (c B n : Nat) (l : List Int) (w : World) (hr : Row w B A n (ints .u8 l)) (hB : B ≤ w.heap.size) (hl : n ≤ 150000000000000) :
    Calls Tryd.prog 18 #[.slice A n c] w (FreshN w n l) := by
  have hn := hr.len
  subst hn
  exact (CopyBytesW_any A c B l w hr hB hl).mono fun _ _ h => h
theorem eq_is (A A' : Option Addr) (n m cap cap' B B' : Nat) (xs ys : List Int) (w : World) (r : Bool) (hx : Row w B A n (ints .u8 xs)) (hy : Row w B' A' m (ints .u8 ys)) (hn : n ≤ 9223372036854775807) (hr : Hid (decide (xs = ys) = r)) :
    Calls Tryd.prog 13 #[.slice A n cap, .slice A' m cap'] w fun e w' => e = .returned (.bool r) ∧ Below w.heap.size w w' := by
  have := eq_any A A' n m cap cap' B B' xs ys w hx hy hn
  rwa [hr.out] at this
theorem take_app_eq (l x : List Int) (m : Nat) : (l.take m ++ x = l) ↔ l.drop m = x := by
  constructor
  · intro h
    have h2 := List.take_append_drop m l
    rw [← h2] at h
    conv at h => lhs; rw [h2]
    exact (List.append_cancel_left h).symm
  · rintro rfl
    exact List.take_append_drop m l

set_option maxRecDepth 100000 in
set_option maxHeartbeats 2000000 in
theorem rCut_long (b off m c B s : Nat) (r : Bool) (l : List Int) (w : World) (hr : Row w B (some ⟨b, off, none⟩) (m + 4) (ints .u8 l)) (hB : B ≤ w.heap.size) (hu : U8 l) (hl : m + 4 ≤ 150000000000000) (hc : m + 4 ≤ c) (hc2 : c ≤ 9223372036854775807)
    (hs : Hid (sumOf 0 (l.take m) = s)) (hd : Hid (decide (l.drop m = rowI s) = r)) :
    Calls Tryd.prog 39 #[.slice (some ⟨b, off, none⟩) (m + 4 : Nat) c] w fun e w' => ∃ A c, (e = .returned (.tuple #[.slice A (if r then m else 0) c, .bool r])) ∧
      w'.ownsRow w.heap.size 5 1 (.slice A (if r then m else 0) c) (if r then m else 0) (ints .u8 (if r then l.take m else [])) ∧ Below w.heap.size w w' := by
  have ht := hr.takeV (k := m) (by omega)
  rw [ints_take] at ht
  have HP := Lib.hid (rPut_at (some ⟨b, off, none⟩) c B m (l.take m) w ht hB (hu.take m) (by omega))
  rw [hs.out] at HP
  have HR := Lib.hid (hr.wide hB)
  have HT := Lib.hid (ht.wide hB)
  have HE : Hid (decide (l.take m ++ rowI s = l) = r) := Lib.hid (by rw [← hd.out]; exact decide_eq_decide.2 (take_app_eq _ _ _))
  have hm0 : (0 : Int) ≤ (m : Int) := by omega
  have hmc : m ≤ c := by omega
  clear ht hr
  cases r
  · go_enter Tryd.func39, Tryd.ntmps39
    go_wp2_with fail
    refine HP.out.mono ?_
    rintro e w1 ⟨A1, c1, rfl, o1, b1⟩
    go_wp2_with fail
    refine (eq_is A1 (some ⟨b, off, none⟩) (m + 4) (m + 4) c1 c w1.heap.size w1.heap.size (l.take m ++ rowI s) l w1 false (Row.own o1) (HR.out.on b1) (by omega) HE).mono ?_
    rintro e w2 ⟨rfl, b2⟩
    go_wp2
    go_ret2
    exact ⟨none, 0, rfl, World.ownsRow_nil _ _ _ _, next b1 b2⟩
  · go_enter Tryd.func39, Tryd.ntmps39
    go_wp2_with fail
    refine HP.out.mono ?_
    rintro e w1 ⟨A1, c1, rfl, o1, b1⟩
    go_wp2_with fail
    refine (eq_is A1 (some ⟨b, off, none⟩) (m + 4) (m + 4) c1 c w1.heap.size w1.heap.size (l.take m ++ rowI s) l w1 true (Row.own o1) (HR.out.on b1) (by omega) HE).mono ?_
    rintro e w2 ⟨rfl, b2⟩
    have b12 := next b1 b2
    go_wp2_with fail
    refine (CopyBytes_at (some ⟨b, off, none⟩) c w2.heap.size m (l.take m) w2 (HT.out.on b12) (Nat.le_refl _) (by omega)).mono ?_
    rintro e w3 ⟨A3, c3, rfl, o3, b3⟩
    go_wp2
    go_ret2
    exact ⟨A3, c3, rfl, own_low o3 b12.size, next b12 b3⟩
set_option maxRecDepth 100000 in
set_option maxHeartbeats 2000000 in
theorem rCut_any (A : Option Addr) (c B : Nat) (l : List Int) (w : World) (hr : Row w B A l.length (ints .u8 l)) (hB : B ≤ w.heap.size) (hu : U8 l) (hl : l.length ≤ 150000000000000) (hc : l.length ≤ c) (hc2 : c ≤ 9223372036854775807) :
    Calls Tryd.prog 39 #[.slice A l.length c] w (CutOut w l) := by
  by_cases h4 : l.length < 4
  · have HS := Lib.hid (short_cut h4)
    unfold CutOut
    rw [HS.out.1, HS.out.2]
    have hd : decide ((l.length : Int) < 4) = true := by simp; omega
    go_enter Tryd.func39, Tryd.ntmps39
    go_wp2
    go_ret2
    exact ⟨none, 0, rfl, World.ownsRow_nil _ _ _ _, Below.refl _ _⟩
  · obtain ⟨b, off, rfl, hbB, hcl⟩ := hr.2 (by omega)
    obtain ⟨m, hm⟩ : ∃ m, l.length = m + 4 := ⟨l.length - 4, by omega⟩
    have ht := cut_tail hm
    have hln := cut_len hm
    rw [hm] at hr hc hl ⊢
    refine (rCut_long b off m c B _ (sealedI l) l w hr hB hu (by omega) hc hc2 (Lib.hid rfl) (Lib.hid ht.1.symm)).mono ?_
    rintro e w' ⟨A, c', rfl, hown, hb⟩
    refine ⟨A, c', by rw [hln], ?_, hb⟩
    rw [hln, ht.2]
    exact hown
end Go.Proofs.YtpeepolmbcakbaaDoor
