/- The chapter's examples, in numbers. -/
import Derived.Test.YtlpfcilgndbopaaDoorNText
import Derived.Test.YtlpfcilgndbopaaDoorNIs
namespace Go.Proofs.YtlpfcilgndbopaaDoor
open Go.RowKit

theorem limbs_small {n : Nat} (h0 : n ≠ 0) (h : n < 4294967296) : limbs n = [(n : Int)] := by
  rw [limbs_pos h0, Nat.mod_eq_of_lt h, Nat.div_eq_of_lt h, limbs_zero]
theorem limbs_big : limbs 4294967296 = [0, 1] := by
  rw [limbs_pos (by decide), show 4294967296 / 4294967296 = 1 by decide, limbs_small (by decide) (by decide)]
  rfl
theorem text_big : textL [0, 1] = [52, 50, 57, 52, 57, 54, 55, 50, 57, 54] := by
  have h : groupsF 4294967296 = [[50, 57, 52, 57, 54, 55, 50, 57, 54], [52]] := by
    rw [groups_pos (by decide), show 4294967296 / 1000000000 = 4 by decide, show 4294967296 % 1000000000 = 294967296 by decide, if_neg (by decide), groups_pos (by decide), if_pos (by decide), show 4 / 1000000000 = 0 by decide, groups_zero, show 4 % 1000000000 = 4 by decide]
    simp [Lib.decDigits, padL, Lib.repeatL]
  rw [textL, if_pos (by decide), show val [0, 1] = 4294967296 by decide, textOf, if_neg (by decide), h]
  rfl
theorem sub_big : subE [0, 1] [1] = 0 ∧ subL [0, 1] [1] = [4294967295] := by
  have h : subE [0, 1] [1] = 0 := by decide
  refine ⟨h, ?_⟩
  rw [subL, if_pos h, show val [0, 1] - val [1] = 4294967295 by decide, limbs_small (by decide) (by decide)]
  rfl
theorem sub_less : subE [1] [2] = 9 ∧ subL [1] [2] = [] := by
  have h : subE [1] [2] = 9 := by decide
  exact ⟨h, by rw [subL, h]; rfl⟩
theorem div_hundred : divE [100] [7] = 0 ∧ quoL [100] [7] = [14] ∧ restL [100] [7] = [2] := by
  have h : divE [100] [7] = 0 := by decide
  refine ⟨h, ?_, ?_⟩
  · rw [quoL, if_pos h, show val [100] / val [7] = 14 by decide, limbs_small (by decide) (by decide)]; rfl
  · rw [restL, if_pos h, show val [100] % val [7] = 2 by decide, limbs_small (by decide) (by decide)]; rfl
theorem div_nil : divE [1] [] = 21 ∧ quoL [1] [] = [] ∧ restL [1] [] = [] := by
  have h : divE [1] [] = 21 := by decide
  exact ⟨h, by rw [quoL, h]; rfl, by rw [restL, h]; rfl⟩
theorem gcd_twelve : chk2 [12] [18] = 0 ∧ gcdL [12] [18] = [6] := by
  have h : chk2 [12] [18] = 0 := by decide
  refine ⟨h, ?_⟩
  rw [gcdL, if_pos h, show Nat.gcd (val [12]) (val [18]) = 6 by decide, limbs_small (by decide) (by decide)]; rfl
theorem read_zeros : readE [48, 48, 55] = 4 ∧ readL [48, 48, 55] = [] := by
  have h : readE [48, 48, 55] = 4 := by decide
  exact ⟨h, by rw [readL, h]; rfl⟩
theorem read_empty : readE [] = 4 ∧ readL [] = [] := by
  have h : readE [] = 4 := by decide
  exact ⟨h, by rw [readL, h]; rfl⟩
end Go.Proofs.YtlpfcilgndbopaaDoor
