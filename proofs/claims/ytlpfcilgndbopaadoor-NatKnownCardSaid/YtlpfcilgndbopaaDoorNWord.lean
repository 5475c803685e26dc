/- nat.word, Small. -/
import Derived.Test.YtlpfcilgndbopaaDoorNLen
namespace Go.Proofs.YtlpfcilgndbopaaDoor
open Go.RowKit

theorem or_high (x y : Int) (hx : 0 ≤ x ∧ x ≤ 4294967295) (hy : 0 ≤ y ∧ y ≤ 4294967295) : bits .or .u64 x (y * 4294967296) = x + y * 4294967296 := by
  obtain ⟨a, rfl⟩ := Int.eq_ofNat_of_zero_le hx.1
  obtain ⟨b, rfl⟩ := Int.eq_ofNat_of_zero_le hy.1
  rw [show (b : Int) * 4294967296 = ((b * 4294967296 : Nat) : Int) by simp, bits_or_u64_nat _ _ (by omega) (by omega)]
  have := Nat.shiftLeft_add_eq_or_of_lt (show a < 2 ^ 32 by omega) b
  rw [Nat.shiftLeft_eq] at this
  rw [Nat.or_comm, show b * 4294967296 = b * 2 ^ 32 by rfl, ← this]
  omega
theorem low_two (a : List Int) : low a 2 = (a.getD 0 0).toNat + 4294967296 * (a.getD 1 0).toNat := by
  rw [low_succ, low_succ, low_zero]; simp
theorem word_any (A : Option Addr) (n c B : Nat) (a : List Int) (w : World) (hr : Row w B A n (ints .u32 a)) (ha : Lim a) :
    Calls Tryd.prog 41 #[.slice A n c] w fun e w' => e = .returned (.int .u64 (low a 2 : Nat)) ∧ w = w' := by
  have HR := Lib.hid hr
  have HW := Lib.hid (low_two a)
  obtain ⟨x, hx⟩ : ∃ x, a.getD 0 0 = x := ⟨_, rfl⟩
  obtain ⟨y, hy⟩ : ∃ y, a.getD 1 0 = y := ⟨_, rfl⟩
  have hxl := ha.at 0
  have hyl := ha.at 1
  rw [hx] at hxl HW
  rw [hy] at hyl HW
  have HX := Lib.hid hx
  have HY := Lib.hid hy
  have HO := Lib.hid (or_high x y hxl hyl)
  obtain ⟨hx0, hx1⟩ := hxl
  obtain ⟨hy0, hy1⟩ := hyl
  clear hr ha hx hy
  go_enter Tryd.func41, Tryd.ntmps41
  go_wp2_with fail
  refine (limb_at A n c B a 0 x w HR.out (by decide) HX).mono ?_
  rintro e w' ⟨rfl, rfl⟩
  go_wp2_with fail
  refine (limb_at A n c B a 1 y w HR.out (by decide) HY).mono ?_
  rintro e w' ⟨rfl, rfl⟩
  go_wp2
  go_ret
  refine ⟨ret_int ?_, rfl⟩
  rw [HO.out, HW.out]
  omega

/-- What Small answers. -/
def smallOk (a : List Int) : Bool := decide (chk a = 0) && decide (a.length ≤ 2)
set_option maxRecDepth 100000 in
theorem Small_any (A : Option Addr) (n c B : Nat) (a : List Int) (w : World) (hr : Row w B A n (ints .u32 a)) (ha : Lim a) :
    Calls Tryd.prog 13 #[.slice A n c] w fun e w' => e = .returned (.tuple #[.int .u64 (if smallOk a = true then val a else 0 : Nat), .bool (smallOk a)]) ∧ w = w' := by
  have hl := hr.1
  rw [ints_len] at hl
  have HC := Lib.hid (Check_any A n c B a w hr)
  by_cases hx : chk a = 0
  · rw [hx] at HC
    by_cases h2 : n ≤ 2
    · have hS : smallOk a = true := by unfold smallOk; simp [hx]; omega
      have HW := word_any A n c B a w hr ha
      rw [low_all (by omega)] at HW
      replace HW := Lib.hid HW
      have h2z : (n : Int) ≤ 2 := by omega
      rw [hS, if_pos rfl]
      clear hr ha hl hx h2 hS
      generalize val a = v at *
      go_enter Tryd.func13, Tryd.ntmps13
      go_wp2_with fail
      refine HC.out.mono ?_
      rintro e w' ⟨rfl, rfl⟩
      go_wp2_with fail
      refine HW.out.mono ?_
      rintro e w' ⟨rfl, rfl⟩
      go_wp2
      go_ret2
      exact ⟨rfl, rfl⟩
    · have hS : smallOk a = false := by unfold smallOk; simp [hx]; omega
      have h2z : (2 : Int) < n := by omega
      rw [hS, if_neg (by decide)]
      clear hr ha hl hx h2 hS
      go_enter Tryd.func13, Tryd.ntmps13
      go_wp2_with fail
      refine HC.out.mono ?_
      rintro e w' ⟨rfl, rfl⟩
      go_wp2
      go_ret2
      exact ⟨rfl, rfl⟩
  · have hS : smallOk a = false := by unfold smallOk; simp [hx]
    have hd : (chk a == 0) = false := by simpa using hx
    rw [hS, if_neg (by decide)]
    clear hr ha hl hS
    generalize chk a = x at *
    go_enter Tryd.func13, Tryd.ntmps13
    go_wp2_with fail
    refine HC.out.mono ?_
    rintro e w' ⟨rfl, rfl⟩
    go_wp2
    go_ret2
    exact ⟨rfl, rfl⟩
end Go.Proofs.YtlpfcilgndbopaaDoor
