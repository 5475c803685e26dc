/- math/bits.Div32 by a thousand millions. -/
import Derived.Test.YtlpfcilgndbopaaDoorNRead
import Derived.Deep.RegionHeld3
namespace Go.Proofs.YtlpfcilgndbopaaDoor
open Go.RowKit

theorem or_top (x y : Int) (hx : 0 ≤ x ∧ x ≤ 4294967295) (hy : 0 ≤ y ∧ y ≤ 4294967295) : bits .or .u64 (y * 4294967296) x = y * 4294967296 + x := by
  obtain ⟨a, rfl⟩ := Int.eq_ofNat_of_zero_le hx.1
  obtain ⟨b, rfl⟩ := Int.eq_ofNat_of_zero_le hy.1
  rw [show (b : Int) * 4294967296 = ((b * 4294967296 : Nat) : Int) by simp, bits_or_u64_nat _ _ (by omega) (by omega)]
  have := Nat.shiftLeft_add_eq_or_of_lt (show a < 2 ^ 32 by omega) b
  rw [Nat.shiftLeft_eq] at this
  rw [show b * 4294967296 = b * 2 ^ 32 by rfl, ← this]
  omega

set_option maxRecDepth 100000 in
theorem Div32_any (hi lo Q R : Int) (w : World) (hh : 0 ≤ hi ∧ hi < 1000000000) (hl : 0 ≤ lo ∧ lo ≤ 4294967295) (hQ : (hi * 4294967296 + lo) / 1000000000 = Q) (hR : (hi * 4294967296 + lo) % 1000000000 = R) :
    Calls Tryd.prog 58 #[.int .u32 hi, .int .u32 lo, .int .u32 1000000000] w fun e w' => e = .returned (.tuple #[.int .u32 Q, .int .u32 R]) ∧ w' = w.drew := by
  have hor := or_top lo hi hl (by omega)
  obtain ⟨hh0, hh1⟩ := hh
  obtain ⟨hl0, hl1⟩ := hl
  have hq0 : 0 ≤ Q := by omega
  have hq1 : Q ≤ 4294967295 := by omega
  have hr0 : 0 ≤ R := by omega
  have hr1 : R ≤ 4294967295 := by omega
  have hng : ¬ (1000000000 : Int) ≤ hi := by omega
  go_enter Tryd.func58, Tryd.ntmps58
  go_wp2
  have hX0 : 0 ≤ hi * 4294967296 + lo := by omega
  have hQ2 : (hi * 4294967296 + lo).tdiv 1000000000 = Q := by rw [Int.tdiv_eq_ediv_of_nonneg hX0, hQ]
  have hR2 : (hi * 4294967296 + lo).tmod 1000000000 = R := by rw [Int.tmod_eq_emod_of_nonneg hX0, hR]
  have h9 : IntKind.u64.wrap 1000000000 = 1000000000 := by decide
  have h90 : ¬ IntKind.u64.wrap 1000000000 = 0 := by decide
  have hQw : IntKind.u32.wrap Q = Q := by unfold IntKind.wrap; simp [IntKind.bits, IntKind.signed]; omega
  have hRw : IntKind.u32.wrap R = R := by unfold IntKind.wrap; simp [IntKind.bits, IntKind.signed]; omega
  have hQu : IntKind.u64.wrap Q = Q := by unfold IntKind.wrap; simp [IntKind.bits, IntKind.signed]; omega
  have hRu : IntKind.u64.wrap R = R := by unfold IntKind.wrap; simp [IntKind.bits, IntKind.signed]; omega
  obtain ⟨X, hX⟩ : ∃ X, hi * 4294967296 + lo = X := ⟨_, rfl⟩
  rw [hX] at hQ hR hQ2 hR2 hX0 ⊢
  go_region_held3 (fun _ => True) (trivial) (fail)
  all_goals go_wp2
  go_ret2
  exact ⟨rfl, rfl⟩
end Go.Proofs.YtlpfcilgndbopaaDoor
