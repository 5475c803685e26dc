/- nat.bitLen; Small, word. (Over the shelf's contract of math/bits.Len32, laid in <Name>Shelf: lay-shelf, lay-plain.) -/
import Derived.Test.YtlpfcilgndbopaaDoorNShift
import Derived.Test.YtlpfcilgndbopaaDoorShelf
namespace Go.Proofs.YtlpfcilgndbopaaDoor
open Go.RowKit

theorem getLast_val {a : List Int} {n : Nat} (ha : Lim a) (hn : a.length = n + 1) : val a / 4294967296 ^ n = (a.getD n 0).toNat := by
  have h := low_succ a n
  rw [low_all (by omega)] at h
  have h2 := low_lt ha n
  rw [h, Nat.add_mul_div_left _ _ (Nat.pow_pos (by decide)), Nat.div_eq_of_lt h2, Nat.zero_add]
theorem pow32 (n : Nat) : (4294967296 : Nat) ^ n = 2 ^ (32 * n) := by rw [Nat.pow_mul]
/-- How many bits a number has. -/
def blen (n : Nat) : Nat := if h : n = 0 then 0 else blen (n / 2) + 1
termination_by n
decreasing_by omega
theorem blen_zero : blen 0 = 0 := by rw [blen]; simp
theorem blen_pos {n : Nat} (h : n ≠ 0) : blen n = blen (n / 2) + 1 := by rw [blen]; simp [h]
theorem blen_lib (x : Nat) (h : x < 2 ^ 64) : Lib.bitLen x = blen x := by
  induction x using Nat.strongRecOn with
  | ind x ih =>
    by_cases h0 : x = 0
    · subst h0; rw [blen_zero]; decide
    · rw [Lib.bitLen_half x h0 h, blen_pos h0, ih (x / 2) (by omega) (by omega)]; omega
theorem blen_shift : ∀ (k x : Nat), x / 2 ^ k ≠ 0 → blen x = k + blen (x / 2 ^ k) := by
  intro k
  induction k with
  | zero => intro x _; simp
  | succ k ih =>
    intro x h
    have e : x / 2 ^ (k + 1) = x / 2 / 2 ^ k := by rw [Nat.pow_succ, Nat.mul_comm, Nat.div_div_eq_div_mul]
    have h0 : x ≠ 0 := by rintro rfl; simp at h
    rw [e] at h ⊢
    rw [blen_pos h0, ih _ h]
    omega
/-- Below which power of two a number lies. -/
theorem blen_lt (n : Nat) : n < 2 ^ blen n := by
  induction n using Nat.strongRecOn with
  | ind n ih =>
    by_cases h0 : n = 0
    · subst h0; rw [blen_zero]; decide
    · have := ih (n / 2) (by omega)
      rw [blen_pos h0, Nat.pow_succ]; omega
theorem blen_le {n : Nat} (h : n ≠ 0) : 2 ^ (blen n - 1) ≤ n := by
  induction n using Nat.strongRecOn with
  | ind n ih =>
    rw [blen_pos h, Nat.add_sub_cancel]
    by_cases h2 : n / 2 = 0
    · rw [h2, blen_zero]; omega
    · have := ih (n / 2) (by omega) h2
      have e : blen (n / 2) = (blen (n / 2) - 1) + 1 := by rw [blen_pos h2]; omega
      rw [e, Nat.pow_succ]; omega
/-- How many bits the value has, by the highest limb. -/
theorem bits_val {a : List Int} {n : Nat} (ha : Lim a) (hn : a.length = n + 1) (ht : Top a) : 32 * n + Lib.bitLen (a.getD n 0).toNat = blen (val a) := by
  have h := getLast_val ha hn
  rw [pow32] at h
  have hne : (a.getD n 0).toNat ≠ 0 := by
    intro h0
    apply ht
    rw [getLast_at (n := n + 1) hn (by omega), Nat.add_sub_cancel]
    have := ha.at n
    congr 1
    omega
  have hx := ha.at n
  rw [blen_shift (32 * n) (val a) (by rw [h]; exact hne), h, blen_lib _ (by omega)]
theorem bitLen_any (A : Option Addr) (n c B : Nat) (a : List Int) (w : World) (hr : Row w B A n (ints .u32 a)) (ha : Lim a) (ht : Top a) (hn : n ≤ 1000000) :
    Calls Tryd.prog 76 #[.slice A n c] w fun e w' => e = .returned (.int .i64 (blen (val a))) ∧ w = w' := by
  have hl := hr.1
  rw [ints_len] at hl
  by_cases h0 : n = 0
  · subst h0
    obtain rfl : a = [] := List.eq_nil_of_length_eq_zero hl
    clear hr
    go_enter Tryd.func76, Tryd.ntmps76
    go_wp2
    go_ret
    exact ⟨ret_int (by rw [show val ([] : List Int) = 0 from rfl, blen_zero]; rfl), rfl⟩
  · obtain ⟨m, rfl⟩ : ∃ m, n = m + 1 := ⟨n - 1, by omega⟩
    obtain ⟨b, off, rfl, -, -⟩ := hr.2 (by omega)
    have hcell : w.cell? ⟨b, off + m, none⟩ = some (.int .u32 (a.getD m 0)) := hr.int (by omega)
    have HB := Lib.hid (bits_val ha hl ht)
    have hx := ha.at m
    obtain ⟨x, hxx⟩ : ∃ x, a.getD m 0 = x := ⟨_, rfl⟩
    rw [hxx] at hcell hx HB
    have hm0 : (0 : Int) ≤ (m : Int) := by omega
    clear hr ha ht hl hxx h0
    go_enter Tryd.func76, Tryd.ntmps76
    have HL := Lib.hid (show Lib.bitLen x.toNat ≤ 32 by
      rw [blen_lib _ (by omega)]
      rcases Nat.lt_or_ge 32 (blen x.toNat) with h | h
      · have := blen_le (n := x.toNat) (by intro h0; rw [h0, blen_zero] at h; omega)
        have h2 : (2 : Nat) ^ 32 ≤ 2 ^ (blen x.toNat - 1) := Nat.pow_le_pow_right (by decide) (by omega)
        omega
      · exact h)
    obtain ⟨r, hr⟩ : ∃ r, Lib.bitLen x.toNat = r := ⟨_, rfl⟩
    have cL := Tryd.bits_Len32 x w hx.1 hx.2
    rw [hr] at cL HB HL
    have hr32 := HL.out
    replace cL := Lib.hid cL
    clear hr HL
    go_wp2_with fail
    refine cL.out.mono ?_
    rintro e w' ⟨rfl, rfl⟩
    go_wp2
    go_ret
    exact ⟨ret_int (by rw [← HB.out]; omega), rfl⟩
end Go.Proofs.YtlpfcilgndbopaaDoor
