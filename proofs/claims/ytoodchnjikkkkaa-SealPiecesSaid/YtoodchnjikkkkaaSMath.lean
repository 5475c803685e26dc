/- Sums by shifts of a register: linear over the bits of all bytes, and one to one. Plain numbers and lists alone. -/
import Derived.Test.YtoodchnjikkkkaaBase
namespace Go.Proofs.Ytoodchnjikkkkaa
/-- One shift of the register. -/
def st (x : Nat) : Nat := (x / 2) ^^^ ((x % 2) * 3988292384)
def sts : Nat → Nat → Nat
  | 0, x => x
  | k + 1, x => sts k (st x)

theorem sts_add (a b x : Nat) : sts (a + b) x = sts b (sts a x) := by
  induction a generalizing x with
  | zero => simp [sts]
  | succ a ih => rw [show a + 1 + b = (a + b) + 1 by omega, sts, ih, sts]

theorem xor_half (x y : Nat) : (x ^^^ y) / 2 = (x / 2) ^^^ (y / 2) := by
  have := Nat.shiftRight_xor_distrib (a := x) (b := y) (i := 1)
  simpa [Nat.shiftRight_succ] using this
theorem xor_odd (x y : Nat) : (x ^^^ y) % 2 = (x % 2) ^^^ (y % 2) := by
  have := Nat.xor_mod_two_pow (a := x) (b := y) (n := 1)
  simpa using this

theorem odd_mul (a b p : Nat) (ha : a < 2) (hb : b < 2) : (a ^^^ b) * p = (a * p) ^^^ (b * p) := by
  have h1 : a = 0 ∨ a = 1 := by omega
  have h2 : b = 0 ∨ b = 1 := by omega
  rcases h1 with rfl | rfl <;> rcases h2 with rfl | rfl <;> simp

theorem st_xor (x y : Nat) : st (x ^^^ y) = st x ^^^ st y := by
  unfold st
  rw [xor_half, xor_odd]
  generalize 3988292384 = p
  rw [odd_mul _ _ p (Nat.mod_lt _ (by omega)) (Nat.mod_lt _ (by omega))]
  generalize x / 2 = a; generalize y / 2 = b; generalize x % 2 * p = c; generalize y % 2 * p = d
  rw [Nat.xor_assoc, Nat.xor_assoc, ← Nat.xor_assoc b c d, Nat.xor_comm b c, Nat.xor_assoc]
theorem sts_xor (k : Nat) : ∀ x y, sts k (x ^^^ y) = sts k x ^^^ sts k y := by
  induction k with
  | zero => intro x y; rfl
  | succ k ih => intro x y; rw [sts, st_xor, ih]; rfl
theorem st_even (y : Nat) : st (2 * y) = y := by
  unfold st
  rw [show 2 * y / 2 = y by omega, show 2 * y % 2 = 0 by omega]
  simp
theorem sts_even (k : Nat) : ∀ y, sts k (2 ^ k * y) = y := by
  induction k with
  | zero => intro y; simp [sts]
  | succ k ih => intro y; rw [sts, show 2 ^ (k + 1) * y = 2 * (2 ^ k * y) by rw [Nat.pow_succ, Nat.mul_comm (2 ^ k) 2, Nat.mul_assoc], st_even, ih]
theorem st_lt {x : Nat} (h : x < 4294967296) : st x < 4294967296 := by
  unfold st
  have h1 : x / 2 < 2 ^ 32 := by omega
  have h2 : x % 2 * 3988292384 < 2 ^ 32 := by
    have : x % 2 < 2 := Nat.mod_lt _ (by omega)
    omega
  exact Nat.xor_lt_two_pow h1 h2
theorem sts_lt (k : Nat) : ∀ {x : Nat}, x < 4294967296 → sts k x < 4294967296 := by
  induction k with
  | zero => intro x h; exact h
  | succ k ih => intro x h; exact ih (st_lt h)
theorem st_zero {x : Nat} (h : x < 4294967296) (h0 : st x = 0) : x = 0 := by
  unfold st at h0
  have e : x / 2 = x % 2 * 3988292384 := by
    have := congrArg (· ^^^ (x % 2 * 3988292384)) h0
    simpa [Nat.xor_assoc] using this
  have : x % 2 < 2 := Nat.mod_lt _ (by omega)
  omega
theorem sts_zero (k : Nat) : ∀ {x : Nat}, x < 4294967296 → sts k x = 0 → x = 0 := by
  induction k with
  | zero => intro x _ h; exact h
  | succ k ih => intro x hx h; exact st_zero hx (ih (st_lt hx) h)
theorem sts_nil (k : Nat) : sts k 0 = 0 := by
  induction k with
  | zero => rfl
  | succ k ih => rw [sts, show st 0 = 0 from rfl, ih]
theorem sts_inj (k : Nat) {x y : Nat} (hx : x < 4294967296) (hy : y < 4294967296) (h : sts k x = sts k y) : x = y := by
  have h1 : sts k (x ^^^ y) = 0 := by rw [sts_xor, h, Nat.xor_self]
  have h2 : x ^^^ y = 0 := sts_zero k (Nat.xor_lt_two_pow (n := 32) hx hy) h1
  have h3 := congrArg (· ^^^ y) h2
  simpa [Nat.xor_assoc] using h3

/-- A low byte and what stands above it. -/
theorem low_high {b : Nat} (n m : Nat) (h : b < 2 ^ n) : b + 2 ^ n * m = b ^^^ 2 ^ n * m := by
  apply Nat.eq_of_testBit_eq
  intro j
  rw [Nat.testBit_xor, Nat.add_comm, Nat.testBit_two_pow_mul_add _ h, Nat.testBit_two_pow_mul]
  by_cases hj : j < n
  · simp [hj, show ¬ n ≤ j by omega]
  · have : b.testBit j = false := Nat.testBit_lt_two_pow (Nat.lt_of_lt_of_le h (Nat.pow_le_pow_right (by omega) (by omega)))
    simp [hj, this, show n ≤ j by omega]

/-- The register after a byte: eight shifts. -/
def stepB (r b : Nat) : Nat := sts 8 (r ^^^ b)
def regs (r : Nat) (l : List Nat) : Nat := l.foldl stepB r
/-- The bytes as one number, the first the lowest. -/
def bnum : List Nat → Nat
  | [] => 0
  | b :: l => b + 256 * bnum l
def Byt (l : List Nat) : Prop := ∀ b ∈ l, b < 256

theorem num_lt : ∀ {l : List Nat}, Byt l → bnum l < 2 ^ (8 * l.length)
  | [], _ => by simp [bnum]
  | b :: l, h => by
    have h1 := h b (List.mem_cons_self ..)
    have h2 := num_lt (l := l) (fun x hx => h x (List.mem_cons_of_mem _ hx))
    rw [List.length_cons, show 8 * (l.length + 1) = 8 * l.length + 8 by omega, Nat.pow_add, bnum]
    omega
theorem num_app : ∀ (l m : List Nat), bnum (l ++ m) = bnum l + 2 ^ (8 * l.length) * bnum m
  | [], m => by simp [bnum]
  | b :: l, m => by
    rw [List.cons_append, bnum, num_app l m, bnum, List.length_cons, show 8 * (l.length + 1) = 8 * l.length + 8 by omega, Nat.pow_add, Nat.mul_add]
    have : 256 * (2 ^ (8 * l.length) * bnum m) = 2 ^ (8 * l.length) * 2 ^ 8 * bnum m := by
      rw [show (2:Nat) ^ 8 = 256 by rfl, Nat.mul_comm (2 ^ (8 * l.length)) 256, Nat.mul_assoc]
    omega
theorem run_num : ∀ (l : List Nat) (r : Nat), Byt l → regs r l = sts (8 * l.length) (r ^^^ bnum l)
  | [], r, _ => by simp [regs, bnum, sts]
  | b :: l, r, h => by
    have h1 := h b (List.mem_cons_self ..)
    have h2 : Byt l := fun x hx => h x (List.mem_cons_of_mem _ hx)
    have ih := run_num l (stepB r b) h2
    rw [show regs r (b :: l) = regs (stepB r b) l from rfl, ih, List.length_cons, show 8 * (l.length + 1) = 8 + 8 * l.length by omega, sts_add, bnum,
      show b + 256 * bnum l = b ^^^ (2 ^ 8 * bnum l) from low_high 8 (bnum l) h1, ← Nat.xor_assoc, sts_xor 8, sts_even, stepB]
theorem run_lt : ∀ (l : List Nat) {r : Nat}, Byt l → r < 4294967296 → regs r l < 4294967296
  | [], r, _, h => h
  | b :: l, r, hb, h => by
    have h1 := hb b (List.mem_cons_self ..)
    exact run_lt l (fun x hx => hb x (List.mem_cons_of_mem _ hx)) (sts_lt 8 (Nat.xor_lt_two_pow (n := 32) h (by omega)))

/-- The sum of bytes, from another one on. -/
def crc (s : Nat) (l : List Nat) : Nat := 4294967295 ^^^ regs (4294967295 ^^^ s) l
def row4 (s : Nat) : List Nat := [s % 256, s / 256 % 256, s / 65536 % 256, s / 16777216 % 256]
theorem row_num {s : Nat} (h : s < 4294967296) : bnum (row4 s) = s := by simp [row4, bnum]; omega
theorem row_byt (s : Nat) : Byt (row4 s) := by intro b hb; simp [row4] at hb; omega
theorem crc_lt {s : Nat} (l : List Nat) (hl : Byt l) (h : s < 4294967296) : crc s l < 4294967296 :=
  Nat.xor_lt_two_pow (n := 32) (by omega) (run_lt l hl (Nat.xor_lt_two_pow (n := 32) (by omega) h))
theorem all_xor (x : Nat) : 4294967295 ^^^ (4294967295 ^^^ x) = x := by rw [← Nat.xor_assoc, Nat.xor_self, Nat.zero_xor]
theorem crc_app (s : Nat) (l m : List Nat) : crc s (l ++ m) = crc (crc s l) m := by
  unfold crc regs
  rw [List.foldl_append, all_xor]
theorem crc_nil (s : Nat) : crc s [] = s := by simp [crc, regs, all_xor]

/-- Sealed: the last four bytes are the row4 of the sum of the others. -/
def sealed (x : List Nat) : Bool := decide (4 ≤ x.length ∧ x.drop (x.length - 4) = row4 (crc 0 (x.take (x.length - 4))))

theorem four {l : List Nat} (h : l.length = 4) (hb : Byt l) {s : Nat} (hs : s < 4294967296) : l = row4 s ↔ bnum l = s := by
  match l, h with
  | [a, b, c, d], _ =>
    have h1 := hb a (by simp)
    have h2 := hb b (by simp)
    have h3 := hb c (by simp)
    have h4 := hb d (by simp)
    simp only [row4, bnum, List.cons.injEq, and_true]
    omega

theorem sealed_iff {x : List Nat} (hx : Byt x) (h4 : 4 ≤ x.length) : sealed x = true ↔ sts (8 * x.length) (4294967295 ^^^ bnum x) = sts 32 4294967295 := by
  have hlen : (x.take (x.length - 4)).length = x.length - 4 := by simp
  have hdl : (x.drop (x.length - 4)).length = 4 := by simp; omega
  have hd : Byt (x.drop (x.length - 4)) := fun b hb => hx b (List.mem_of_mem_drop hb)
  have ht : Byt (x.take (x.length - 4)) := fun b hb => hx b (List.mem_of_mem_take hb)
  have hN : bnum x = bnum (x.take (x.length - 4)) + 2 ^ (8 * (x.length - 4)) * bnum (x.drop (x.length - 4)) := by
    have := num_app (x.take (x.length - 4)) (x.drop (x.length - 4))
    rwa [List.take_append_drop, hlen] at this
  have hR := run_num (x.take (x.length - 4)) 4294967295 ht
  rw [hlen] at hR
  have hB := num_lt ht
  rw [hlen] at hB
  have hc : crc 0 (x.take (x.length - 4)) = 4294967295 ^^^ regs 4294967295 (x.take (x.length - 4)) := rfl
  have hlt := run_lt (x.take (x.length - 4)) ht (r := 4294967295) (by omega)
  have hD := num_lt hd
  rw [hdl] at hD
  unfold sealed
  rw [decide_eq_true_iff, four hdl hd (crc_lt _ ht (by omega)), hc, show 8 * x.length = 8 * (x.length - 4) + 32 by omega, sts_add, hN, low_high _ _ hB, ← Nat.xor_assoc, sts_xor (8 * (x.length - 4)), sts_even, ← hR]
  generalize regs 4294967295 (x.take (x.length - 4)) = r at *
  generalize bnum (x.drop (x.length - 4)) = d at *
  constructor
  · rintro ⟨_, rfl⟩
    rw [← Nat.xor_assoc, Nat.xor_comm r, Nat.xor_assoc, Nat.xor_self, Nat.xor_zero]
  · intro h
    refine ⟨h4, ?_⟩
    have := sts_inj 32 (Nat.xor_lt_two_pow (n := 32) hlt (by omega)) (by omega) h
    rw [← this, Nat.xor_comm r d, Nat.xor_assoc, Nat.xor_self, Nat.xor_zero]

/-- Some bits turned, all within 32: sealed no more. -/
theorem turned_not {x y : List Nat} {k p : Nat} (hx : Byt x) (hy : Byt y) (h4 : 4 ≤ x.length) (hl : y.length = x.length) (hs : sealed x = true) (hk : k ≤ 8 * x.length) (hp : p < 4294967296)
    (he : bnum y = bnum x ^^^ 2 ^ k * p) : sealed y = decide (p = 0) := by
  have h1 := (sealed_iff hx h4).1 hs
  have h2 := sealed_iff hy (by omega)
  rw [hl, he, ← Nat.xor_assoc, sts_xor, h1] at h2
  have h3 : sts (8 * x.length) (2 ^ k * p) = sts (8 * x.length - k) p := by
    conv => lhs; rw [show 8 * x.length = k + (8 * x.length - k) by omega, sts_add, sts_even]
  rw [h3] at h2
  by_cases h0 : p = 0
  · subst h0
    rw [sts_nil, Nat.xor_zero] at h2
    simpa using h2
  · have : sealed y = false := by
      rcases hy' : sealed y with _ | _
      · rfl
      · exfalso
        have h5 := h2.1 hy'
        have h6 : sts (8 * x.length - k) p = 0 := by
          have := congrArg (sts 32 4294967295 ^^^ ·) h5
          simpa [← Nat.xor_assoc] using this
        exact h0 (sts_zero _ hp h6)
    rw [this]; simp [h0]

theorem put_sealed {b : List Nat} (_hb : Byt b) : sealed (b ++ row4 (crc 0 b)) = true := by
  unfold sealed
  rw [decide_eq_true_iff]
  have : (b ++ row4 (crc 0 b)).length - 4 = b.length := by simp [row4]
  rw [this]
  refine ⟨by simp [row4], ?_⟩
  simp
/-- Two sums are the same just if the difference is none. -/
theorem crc_apart {x y : List Nat} {k p : Nat} (hx : Byt x) (hy : Byt y) (hl : y.length = x.length) (hk : k ≤ 8 * x.length) (hp : p < 4294967296)
    (he : bnum y = bnum x ^^^ 2 ^ k * p) : (crc 0 y = crc 0 x) ↔ p = 0 := by
  unfold crc
  rw [run_num _ _ hx, run_num _ _ hy, hl, he, ← Nat.xor_assoc (4294967295 ^^^ 0), sts_xor]
  have h3 : sts (8 * x.length) (2 ^ k * p) = sts (8 * x.length - k) p := by
    conv => lhs; rw [show 8 * x.length = k + (8 * x.length - k) by omega, sts_add, sts_even]
  rw [h3]
  constructor
  · intro h
    have h6 : sts (8 * x.length - k) p = 0 := by
      generalize sts (8 * x.length) (4294967295 ^^^ 0 ^^^ bnum x) = z at *
      have h7 := congrArg (4294967295 ^^^ ·) h
      simp only [all_xor] at h7
      have := congrArg (z ^^^ ·) h7
      simpa [← Nat.xor_assoc] using this
    exact sts_zero _ hp h6
  · rintro rfl
    rw [sts_nil, Nat.xor_zero]



theorem mul_pow_xor (n a b : Nat) : 2 ^ n * (a ^^^ b) = 2 ^ n * a ^^^ 2 ^ n * b := by
  have := Nat.shiftLeft_xor_distrib (a := a) (b := b) (i := n)
  simp only [Nat.shiftLeft_eq] at this
  rw [Nat.mul_comm, this, Nat.mul_comm a, Nat.mul_comm b]

theorem bnum_set : ∀ {l : List Nat} {j v b : Nat}, Byt l → v < 256 → l[j]? = some b → bnum (l.set j (b ^^^ v)) = bnum l ^^^ 2 ^ (8 * j) * v
  | [], j, v, b, _, _, h => by simp at h
  | a :: l, 0, v, b, hl, hv, h => by
    have h1 := hl a (List.mem_cons_self ..)
    simp only [List.getElem?_cons_zero, Option.some.injEq] at h
    subst h
    have h2 : a ^^^ v < 2 ^ 8 := Nat.xor_lt_two_pow (n := 8) h1 hv
    rw [List.set_cons_zero, bnum, bnum, show 256 * bnum l = 2 ^ 8 * bnum l from rfl, low_high 8 _ h2, low_high 8 _ h1]
    simp only [Nat.mul_zero, Nat.pow_zero, Nat.one_mul]
    rw [Nat.xor_assoc, Nat.xor_comm v, Nat.xor_assoc]
  | a :: l, j + 1, v, b, hl, hv, h => by
    have h1 := hl a (List.mem_cons_self ..)
    rw [List.getElem?_cons_succ] at h
    have ih := bnum_set (l := l) (fun x hx => hl x (List.mem_cons_of_mem _ hx)) hv h
    rw [List.set_cons_succ, bnum, ih, bnum, show ∀ z, 256 * z = 2 ^ 8 * z from fun _ => rfl, low_high 8 _ h1, show ∀ z, 256 * z = 2 ^ 8 * z from fun _ => rfl, low_high 8 _ h1, mul_pow_xor, ← Nat.mul_assoc, ← Nat.pow_add, show 8 + 8 * j = 8 * (j + 1) by omega, Nat.xor_assoc]
theorem byt_set {l : List Nat} {j v : Nat} (h : Byt l) (hv : v < 256) : Byt (l.set j v) := fun b hb => by
  rcases List.mem_or_eq_of_mem_set hb with h1 | rfl
  · exact h b h1
  · exact hv

/-- One bit more of the pattern. -/
theorem bit_next (p i : Nat) : p % 2 ^ (i + 1) = p % 2 ^ i ^^^ 2 ^ i * (p / 2 ^ i % 2) := by
  rw [Nat.mod_pow_succ, low_high i _ (Nat.mod_lt _ (Nat.two_pow_pos i))]
/-- A bit turned: where it stands among all. -/
theorem turn_bit {l : List Nat} {k i p b n0 : Nat} (hl : Byt l) (h : l[(k + i) / 8]? = some b) (hn : bnum l = n0 ^^^ 2 ^ k * (p % 2 ^ i)) (h1 : p / 2 ^ i % 2 = 1) :
    bnum (l.set ((k + i) / 8) (b ^^^ 2 ^ ((k + i) % 8))) = n0 ^^^ 2 ^ k * (p % 2 ^ (i + 1)) := by
  have h8 : 2 ^ ((k + i) % 8) < 256 := by
    have : 2 ^ ((k + i) % 8) < 2 ^ 8 := Nat.pow_lt_pow_right (by omega) (by omega)
    omega
  rw [bnum_set hl h8 h, hn, bit_next, h1, mul_pow_xor, Nat.mul_one, ← Nat.pow_add, ← Nat.pow_add, show 8 * ((k + i) / 8) + (k + i) % 8 = k + i by omega, Nat.xor_assoc]
theorem keep_bit {k i p n n0 : Nat} (hn : n = n0 ^^^ 2 ^ k * (p % 2 ^ i)) (h0 : p / 2 ^ i % 2 = 0) : n = n0 ^^^ 2 ^ k * (p % 2 ^ (i + 1)) := by
  rw [hn, bit_next, h0, Nat.mul_zero, Nat.xor_zero]
theorem any_next {p i : Nat} (h1 : p / 2 ^ i % 2 = 1) : p % 2 ^ (i + 1) ≠ 0 := by
  rw [Nat.mod_pow_succ, h1, Nat.mul_one]
  have := Nat.two_pow_pos i
  omega
theorem any_keep {p i : Nat} (h0 : p / 2 ^ i % 2 = 0) : p % 2 ^ (i + 1) = p % 2 ^ i := by
  rw [Nat.mod_pow_succ, h0, Nat.mul_zero, Nat.add_zero]

/-- Two neighbours change places. -/
theorem swap_num {l : List Nat} {k a b : Nat} (hl : Byt l) (ha : l[k]? = some a) (hb : l[k + 1]? = some b) :
    bnum ((l.set k b).set (k + 1) a) = bnum l ^^^ 2 ^ (8 * k) * ((a ^^^ b) ^^^ 2 ^ 8 * (a ^^^ b)) := by
  have h1 := hl a (List.mem_of_getElem? ha)
  have h2 := hl b (List.mem_of_getElem? hb)
  have hx : a ^^^ b < 256 := Nat.xor_lt_two_pow (n := 8) h1 h2
  have e1 : a ^^^ (a ^^^ b) = b := by rw [← Nat.xor_assoc, Nat.xor_self, Nat.zero_xor]
  have e2 : b ^^^ (a ^^^ b) = a := by rw [Nat.xor_comm a b, ← Nat.xor_assoc, Nat.xor_self, Nat.zero_xor]
  have s1 := bnum_set hl hx ha
  rw [e1] at s1
  have hb' : (l.set k b)[k + 1]? = some b := by rw [List.getElem?_set_ne (by omega)]; exact hb
  have s2 := bnum_set (byt_set (j := k) hl h2) hx hb'
  rw [e2, s1] at s2
  rw [s2, mul_pow_xor (8 * k) (a ^^^ b) (2 ^ 8 * (a ^^^ b)), ← Nat.mul_assoc (2 ^ (8 * k)), ← Nat.pow_add, show 8 * k + 8 = 8 * (k + 1) by omega, Nat.xor_assoc]
theorem swap_pat {a b : Nat} (ha : a < 256) (hb : b < 256) : (a ^^^ b) ^^^ 2 ^ 8 * (a ^^^ b) < 4294967296 ∧ ((a ^^^ b) ^^^ 2 ^ 8 * (a ^^^ b) = 0 ↔ a = b) := by
  have hx : a ^^^ b < 2 ^ 8 := Nat.xor_lt_two_pow (n := 8) ha hb
  rw [← low_high 8 _ hx]
  refine ⟨by omega, ?_⟩
  constructor
  · intro h
    have h0 : a ^^^ b = 0 := by omega
    have h3 := congrArg (· ^^^ b) h0
    simpa [Nat.xor_assoc] using h3
  · rintro rfl
    simp
theorem swap_crc {l : List Nat} {k a b : Nat} (hl : Byt l) (ha : l[k]? = some a) (hb : l[k + 1]? = some b) : (crc 0 ((l.set k b).set (k + 1) a) = crc 0 l) ↔ a = b := by
  have h1 := hl a (List.mem_of_getElem? ha)
  have h2 := hl b (List.mem_of_getElem? hb)
  have hk : k < l.length := (List.getElem?_eq_some_iff.1 ha).1
  have h := crc_apart (x := l) (y := (l.set k b).set (k + 1) a) (k := 8 * k) hl (byt_set (byt_set hl h2) h1) (by simp) (by omega) (swap_pat h1 h2).1 (swap_num hl ha hb)
  rw [h]
  exact (swap_pat h1 h2).2

end Go.Proofs.Ytoodchnjikkkkaa
