/- What is unpacked is packed so: the mathematics. -/
import Derived.Test.YtpeepolmbcakbaaDoorBBackLaw
namespace Go.Proofs.YtpeepolmbcakbaaDoor
open Go.RowKit

theorem enc_of {l : List Int} (hu : Byt8 l) (h : goodB l = true) : encB (esOf l) = l ∧ chkB (esOf l) = 0 := by
  unfold goodB at h
  simp only [Bool.and_eq_true, decide_eq_true_eq] at h
  obtain ⟨⟨h1, h2⟩, h3⟩ := h
  have hn := (chkB_ok h3).1
  have hel : (esOf l).length = cnt l := by simp [esOf]
  rw [hel] at hn
  obtain ⟨n, hcn⟩ : ∃ n, cnt l = n := ⟨_, rfl⟩
  have hu1 : Byt8 (nU (l, 0)).1 := show Byt8 (uL l 0) from uL_u8 hu
  unfold endOf at h1 h2
  rw [hcn] at h1 h2 hel hn
  obtain ⟨a1, a2, _, _⟩ := rdLn_inv (rdAt_u8 hu1 (n - 1)) n h1
  rw [h2, List.append_nil] at a2
  obtain ⟨b1, b2, _, _⟩ := rdAt_inv hu1 (n - 1) a1
  rw [show n - 1 + 1 = n by omega, a2] at b2
  obtain ⟨_, m, _, hv, hl, _⟩ := nU_inv (p := (l, 0)) hu b1
  have hm : n = m := by
    rw [← hcn, cnt]
    show (uV (l, (0 : Int)).1 (l, (0 : Int)).2).toNat = m
    rw [hv, Int.toNat_natCast]
  refine ⟨?_, h3⟩
  have e1 : entT (esOf l) = tms (nU (l, 0)) n := by
    rw [entT, esOf, List.map_map, hcn]; rfl
  have e2 : entL (esOf l) = lns (rdAt (nU (l, 0)) (n - 1)).2 n := by
    rw [entL, esOf, List.map_map, hcn]; rfl
  rw [encB, e1, e2, hel, ← b2, hm]
  exact hl.symm
theorem again {b : List Int} (hu : U8 b) (h : okU b = true) : chkB (mm (esU b)) = 0 ∧ packL (esU b) = b ∧ xU b = 0 := by
  have h' := h
  rw [okU, Bool.and_eq_true] at h'
  obtain ⟨h1, h2⟩ := h'
  obtain ⟨e1, e2⟩ := enc_of (cutOf_u8 hu) h2
  have hm := mm_esS (cutOf_u8 hu)
  have hes : esU b = esS (cutOf b) := by rw [esU, if_pos h]
  have hk : chkB (mm (esU b)) = 0 := by rw [hes, hm]; exact e2
  refine ⟨hk, ?_, by rw [xU, h]; rfl⟩
  rw [packL, if_pos hk, hes, hm, e1, putB]
  have hc : cutOf b = b.take (b.length - 4) := by rw [cutOf, if_pos h1]
  unfold sealedI at h1
  rw [decide_eq_true_eq] at h1
  rw [hc, ← h1.2, List.take_append_drop]
theorem esU_small {b : List Int} : (esU b).length ≤ 32 := by
  unfold esU
  split
  · rename_i h
    rw [okU, Bool.and_eq_true] at h
    have h2 := h.2
    unfold goodB at h2
    simp only [Bool.and_eq_true, decide_eq_true_eq] at h2
    have := (chkB_ok h2.2).2.1
    simpa [esS, esOf] using this
  · simp
end Go.Proofs.YtpeepolmbcakbaaDoor
