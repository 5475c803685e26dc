/- What was packed is unpacked as it was: the mathematics. -/
import Derived.Test.YtpeepolmbcakbaaDoorBSame
namespace Go.Proofs.YtpeepolmbcakbaaDoor
open Go.RowKit

theorem esOf_enc {es : List (Int × List Int)} (h : chkB es = 0) : cnt (encB es) = es.length ∧ (∀ k, k < es.length → (rdAt (nU (encB es, 0)) k).1 = (entT es).getD k 0 ∧ lnAt (rdAt (nU (encB es, 0)) (cnt (encB es) - 1)).2 k = (entL es).getD k []) ∧ endOf (encB es) = ([], 0) := by
  obtain ⟨h1, h2, h3, h4⟩ := chkB_ok h
  obtain ⟨e1, e2⟩ := nU_leb (m := es.length) (by omega) (encT (entT es) ++ encL (entL es))
  have hc : cnt (encB es) = es.length := by rw [cnt, encB, e2, Int.toNat_natCast]
  have hp : nU (encB es, 0) = (encT (entT es) ++ encL (entL es), 0) := by rw [encB, e1]
  have ha : ∀ k, k < es.length → rdAt (nU (encB es, 0)) k = ((entT es).getD k 0, (encD ((entT es).getD k 0) ((entT es).drop (k + 1)) ++ encL (entL es), 0)) := fun k hk => by
    rw [hp]; exact rdAt_enc h3 _ k (by rw [entT_len]; exact hk)
  have hd : (rdAt (nU (encB es, 0)) (es.length - 1)).2 = (encL (entL es) ++ [], 0) := by
    rw [ha _ (by omega), List.drop_eq_nil_of_le (by rw [entT_len]; omega), encD, List.nil_append, List.append_nil]
  refine ⟨hc, fun k hk => ⟨by rw [ha k hk], ?_⟩, ?_⟩
  · rw [hc, hd]
    exact (rdLn_enc h4 [] k (by rw [entL_len]; omega)).2 (by rw [entL_len]; exact hk)
  · rw [endOf, hc, hd, (rdLn_enc h4 [] _ (by rw [entL_len]; exact Nat.le_refl _)).1, List.drop_eq_nil_of_le (by rw [entL_len]; exact Nat.le_refl _)]
    rfl
theorem es_enc {es : List (Int × List Int)} (h : chkB es = 0) : esOf (encB es) = es := by
  obtain ⟨h1, h2, _⟩ := esOf_enc h
  rw [esOf]
  apply List.ext_getElem?
  intro k
  by_cases hk : k < es.length
  · obtain ⟨a, b⟩ := h2 k hk
    rw [List.getElem?_map, List.getElem?_range (by rw [h1]; exact hk), Option.map_some, a, b]
    simp [entT, entL, List.getD_eq_getElem?_getD, hk]
  · rw [List.getElem?_eq_none (by simp [h1]; omega), List.getElem?_eq_none (by omega)]
theorem good_enc {es : List (Int × List Int)} (h : chkB es = 0) : goodB (encB es) = true := by
  rw [goodB, es_enc h, (esOf_enc h).2.2, h]
  simp
theorem esS_enc {es : List (Int × ByteArray)} (h : chkB (mm es) = 0) : esS (encB (mm es)) = es := by
  obtain ⟨h1, h2, _⟩ := esOf_enc h
  rw [esS]
  rw [mm_len] at h1
  apply List.ext_getElem?
  intro k
  by_cases hk : k < es.length
  · obtain ⟨a, b⟩ := h2 k (by rw [mm_len]; exact hk)
    rw [List.getElem?_map, List.getElem?_range (by rw [h1]; exact hk), Option.map_some, a, b]
    simp [entT, entL, mm, List.getD_eq_getElem?_getD, hk, ofNums_nums]
  · rw [List.getElem?_eq_none (by simp [h1]; omega), List.getElem?_eq_none (by omega)]
theorem encB_byt {es : List (Int × ByteArray)} (h : chkB (mm es) = 0) : U8 (encB (mm es)) := encB_u8 h (mm_u8 es)
theorem back {es : List (Int × ByteArray)} (h : chkB (mm es) = 0) : okU (putB (encB (mm es))) = true ∧ esU (putB (encB (mm es))) = es ∧ xU (putB (encB (mm es))) = 0 := by
  have h1 := put_sealedI (encB_byt h)
  have h2 := put_cut (encB_byt h)
  have ho : okU (putB (encB (mm es))) = true := by rw [okU, putB, h1, h2, good_enc h]; rfl
  refine ⟨ho, ?_, by rw [xU, ho]; rfl⟩
  rw [esU, if_pos ho, putB, h2, esS_enc h]
end Go.Proofs.YtpeepolmbcakbaaDoor
