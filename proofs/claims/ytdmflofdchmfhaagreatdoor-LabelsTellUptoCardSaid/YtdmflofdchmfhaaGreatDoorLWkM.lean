/- The chapter's examples: what they come to. -/
import Derived.Test.YtdmflofdchmfhaaGreatDoorLClean
import Derived.Test.YtdmflofdchmfhaaGreatDoorLBy
namespace Go.Proofs.YtdmflofdchmfhaaGreatDoor
open Go.RowKit Go.Shelf Go.Lib

def bA : ByteArray := ⟨#[97]⟩
def bB : ByteArray := ⟨#[98]⟩
def bC : ByteArray := ⟨#[99]⟩
def b1 : ByteArray := ⟨#[49]⟩
def b2 : ByteArray := ⟨#[50]⟩
def b3 : ByteArray := ⟨#[51]⟩
theorem set1 : setLs ⟨#[98, 50, 97, 49, 99, 45]⟩ = [(bB, b2), (bA, b1), (bC, ByteArray.empty)] := by rfl
theorem set2 : setLs ⟨#[97, 49, 97, 50]⟩ = [(bA, b1), (bA, b2)] := by rfl
theorem set3 : setLs ⟨#[97, 49, 98, 50]⟩ = [(bA, b1), (bB, b2)] := by rfl
theorem set4 : setLs ⟨#[97, 49, 99, 51]⟩ = [(bA, b1), (bC, b3)] := by rfl
theorem set5 : setLs ⟨#[97, 49, 98, 50, 99, 51]⟩ = [(bA, b1), (bB, b2), (bC, b3)] := by rfl
theorem set6 : setLs ⟨#[97, 49]⟩ = [(bA, b1)] := by rfl
theorem set7 : setLs ⟨#[98, 50]⟩ = [(bB, b2)] := by rfl
theorem set8 : setLs ⟨#[97, 49, 98, 34]⟩ = [(bA, b1), (bB, ⟨#[34]⟩)] := by rfl
theorem ltAB : lt bA bB := (lt_data _ _).2 (by decide)
theorem ltBC : lt bB bC := (lt_data _ _).2 (by decide)
theorem ltAC : lt bA bC := (lt_data _ _).2 (by decide)
theorem nBA : ¬ lt bB bA := lt_asymm ltAB
theorem nCB : ¬ lt bC bB := lt_asymm ltBC
theorem nCA : ¬ lt bC bA := lt_asymm ltAC
theorem ne1 : b1 ≠ ByteArray.empty := by decide
theorem ne2 : b2 ≠ ByteArray.empty := by decide
theorem ne3 : b3 ≠ ByteArray.empty := by decide
theorem nmA : nmS bA = true := by decide
theorem nmB : nmS bB = true := by decide
theorem ordAB : Ord [(bA, b1), (bB, b2)] := ⟨fun x hx => by simp at hx; rcases hx with rfl | rfl <;> first | exact ne1 | exact ne2, by simp [ltAB]⟩
theorem ordAC : Ord [(bA, b1), (bC, b3)] := ⟨fun x hx => by simp at hx; rcases hx with rfl | rfl <;> first | exact ne1 | exact ne3, by simp [ltAC]⟩
theorem ordA : Ord [(bA, b1)] := ⟨fun x hx => by simp at hx; rcases hx with rfl; exact ne1, by simp⟩
theorem wOf1 : ofL nmS [(bB, b2), (bA, b1), (bC, ByteArray.empty)] = ([(bA, b1), (bB, b2)], 0) := by
  have hs : sortL [(bB, b2), (bA, b1), (bC, ByteArray.empty)] = [(bA, b1), (bB, b2)] := by
    refine (sortL_one (l := [(bB, b2), (bA, b1), (bC, ByteArray.empty)]) (by unfold noDup; decide) (r := [(bA, b1), (bB, b2)]) (ordAB.2) (fun x => ?_)).symm
    constructor
    · intro h
      simp at h
      rcases h with rfl | rfl
      · exact ⟨by simp, ne1⟩
      · exact ⟨by simp, ne2⟩
    · rintro ⟨h, k⟩
      simp at h
      rcases h with rfl | rfl | rfl
      · simp
      · simp
      · exact absurd rfl k
  unfold ofL
  rw [if_pos (by unfold noDup; decide), hs]
  have hc : chkL nmS [(bA, b1), (bB, b2)] = 0 := by
    unfold chkL
    rw [if_pos ⟨by decide, ordAB, fun x hx => by simp at hx; rcases hx with rfl | rfl <;> first | exact ⟨nmA, by decide⟩ | exact ⟨nmB, by decide⟩⟩]
  rw [if_pos hc]
theorem wOf2 : ofL nmS [(bA, b1), (bA, b2)] = ([], 50) := by
  unfold ofL
  rw [if_neg (by unfold noDup; decide)]
theorem wSet1 : setL [(bA, b1), (bC, b3)] bB b2 = [(bA, b1), (bB, b2), (bC, b3)] := by
  unfold setL
  rw [if_pos ordAC]
  simp [lo, hi, ltAB, ltBC, nBA, nCB, ne2]
theorem wSet2 : setL [(bA, b1)] bA ByteArray.empty = [] := by
  unfold setL
  rw [if_pos ordA]
  simp [lo, hi, lt_irrefl]
theorem wBy : pickL [(bA, b1), (bB, b2)] (chosen [bB, ⟨#[120]⟩] true) = [(bB, b2)] := by
  unfold pickL
  rw [if_pos ordAB]
  decide
theorem wWo : pickL [(bA, b1), (bB, b2)] (chosen [bB, ⟨#[120]⟩] false) = [(bA, b1)] := by
  unfold pickL
  rw [if_pos ordAB]
  decide
theorem wCl : ofl (cleanB (bl ⟨#[57, 45, 120]⟩)) = ⟨#[95, 57, 95, 120]⟩ := by rfl
theorem wTx : textS [(bA, b1), (bB, ⟨#[34]⟩)] = ⟨#[123, 97, 61, 34, 49, 34, 44, 32, 98, 61, 34, 92, 34, 34, 125]⟩ := by rfl
theorem dig12 : Lib.decDigits 1 = [49] ∧ Lib.decDigits 2 = [50] := by
  constructor <;> (rw [Lib.decDigits, dif_pos (by omega)]; rfl)
theorem wKy : ofl (keyL [(bA, ⟨#[98, 99]⟩)]) = ⟨#[49, 58, 97, 50, 58, 98, 99]⟩ := by
  have h1 : partK bA = [49, 58, 97] := by unfold partK; rw [show bA.size = 1 from rfl, dig12.1]; rfl
  have h2 : partK ⟨#[98, 99]⟩ = [50, 58, 98, 99] := by unfold partK; rw [show (ByteArray.mk #[98, 99]).size = 2 from rfl, dig12.2]; rfl
  unfold keyL
  simp only [List.flatMap_cons, List.flatMap_nil, h1, h2]
  rfl
end Go.Proofs.YtdmflofdchmfhaaGreatDoor
