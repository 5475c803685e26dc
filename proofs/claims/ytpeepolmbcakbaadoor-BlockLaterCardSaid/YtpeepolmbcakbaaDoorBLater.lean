/- Later times by the same all over: the mathematics. -/
import Derived.Test.YtpeepolmbcakbaaDoorBBackLaw
namespace Go.Proofs.YtpeepolmbcakbaaDoor
open Go.RowKit

/-- Entries, later by k. -/
def shE (k : Int) (es : List (Int × ByteArray)) : List (Int × ByteArray) := es.map fun e => (e.1 + k, e.2)
def shI (k : Int) (es : List (Int × List Int)) : List (Int × List Int) := es.map fun e => (e.1 + k, e.2)
theorem shE_len (k : Int) (es : List (Int × ByteArray)) : (shE k es).length = es.length := by simp [shE]
theorem mm_sh (k : Int) (es : List (Int × ByteArray)) : mm (shE k es) = shI k (mm es) := by simp [mm, shE, shI]
theorem chkL_sh {k : Int} (hk : 0 ≤ k) : ∀ (es : List (Int × List Int)) (p : Option Int), (∀ e ∈ es, e.1 + k ≤ 9007199254740991) → chkL p es = 0 → chkL (p.map (· + k)) (shI k es) = 0
  | [], _, _, _ => rfl
  | (t, s) :: r, p, hb, h => by
    have ht := hb (t, s) (List.mem_cons_self ..)
    rw [chkL] at h
    by_cases h1 : t < -9007199254740991 ∨ 9007199254740991 < t
    · rw [if_pos h1] at h; cases h
    · rw [if_neg h1] at h
      by_cases h2 : p.any (fun q => decide (t < q)) = true
      · rw [if_pos h2] at h; cases h
      · rw [if_neg h2] at h
        by_cases h3 : 4096 < s.length
        · rw [if_pos h3] at h; cases h
        · rw [if_neg h3] at h
          have ih := chkL_sh hk r (some t) (fun e he => hb e (List.mem_cons_of_mem _ he)) h
          show chkL (p.map (· + k)) ((t + k, s) :: shI k r) = 0
          rw [chkL, if_neg (by simp only at ht; omega), if_neg ?_, if_neg h3]
          · exact ih
          · cases p with
            | none => simp
            | some q => simp at h2 ⊢; omega
theorem chkB_sh {k : Int} (hk : 0 ≤ k) {es : List (Int × List Int)} (hb : ∀ e ∈ es, e.1 + k ≤ 9007199254740991) (h : chkB es = 0) : chkB (shI k es) = 0 := by
  unfold chkB at h ⊢
  rw [show (shI k es).length = es.length by simp [shI]]
  by_cases h1 : es.length < 1 ∨ 32 < es.length
  · rw [if_pos h1] at h; cases h
  · rw [if_neg h1] at h ⊢
    exact chkL_sh hk es none hb h
theorem chkB_one {e : Int × List Int} {r : List (Int × List Int)} (h : chkB (e :: r) = 0) : chkB [e] = 0 := by
  unfold chkB at h ⊢
  by_cases h1 : (e :: r).length < 1 ∨ 32 < (e :: r).length
  · rw [if_pos h1] at h; cases h
  · rw [if_neg h1] at h
    rw [if_neg (by simp)]
    obtain ⟨t, s⟩ := e
    rw [chkL] at h ⊢
    split at h
    · cases h
    · rename_i h1
      rw [if_neg h1]
      split at h
      · cases h
      · rename_i h2
        rw [if_neg h2]
        split at h
        · cases h
        · rename_i h3
          rw [if_neg h3]; rfl
theorem encD_sh (k : Int) : ∀ (ts : List Int) (p : Int), encD (p + k) (ts.map (· + k)) = encD p ts
  | [], _ => rfl
  | t :: r, p => by
    rw [List.map_cons, encD, encD, encD_sh k r t, show t + k - (p + k) = t - p by omega]
theorem pack_len {e : Int × ByteArray} {r : List (Int × ByteArray)} (h : chkB (mm (e :: r)) = 0) : (packL (e :: r)).length = (leb (r.length + 1)).length + (leb (zz e.1)).length + (encD e.1 (entT (mm r))).length + (encL (entL (mm (e :: r)))).length + 4 := by
  have hm : mm (e :: r) = (e.1, nums e.2) :: mm r := rfl
  rw [packL, if_pos h, putB, List.length_append, rowI_len, encB, List.length_append, List.length_append, mm_len, List.length_cons, hm]
  show _ + ((leb (zz e.1) ++ encD e.1 (entT (mm r))).length + _) + 4 = _
  rw [List.length_append]
  omega
theorem lens {k : Int} {es : List (Int × ByteArray)} (h0 : 0 < es.length) (h : chkB (mm es) = 0) (h2 : chkB (mm (shE k es)) = 0) :
    chkB (mm (es.take 1)) = 0 ∧ chkB (mm ((shE k es).take 1)) = 0 ∧ ((packL es).length : Int) - (packL (es.take 1)).length = ((packL (shE k es)).length : Int) - (packL ((shE k es).take 1)).length := by
  cases es with
  | nil => simp at h0
  | cons e r =>
    have a1 : chkB (mm [e]) = 0 := chkB_one (r := mm r) h
    have a2 : chkB (mm [(e.1 + k, e.2)]) = 0 := chkB_one (r := mm (shE k r)) h2
    refine ⟨a1, a2, ?_⟩
    have l1 := pack_len h
    have l2 := pack_len (e := e) (r := []) a1
    have l3 := pack_len (e := (e.1 + k, e.2)) (r := shE k r) h2
    have l4 := pack_len (e := (e.1 + k, e.2)) (r := []) a2
    have e1 : encD (e.1 + k) (entT (mm (shE k r))) = encD e.1 (entT (mm r)) := by
      rw [← encD_sh k (entT (mm r)) e.1]
      congr 1
      simp [entT, mm, shE]
    have e2 : entL (mm ((e.1 + k, e.2) :: shE k r)) = entL (mm (e :: r)) := by simp [entL, mm, shE]
    have e3 : entL (mm [(e.1 + k, e.2)]) = entL (mm [e]) := rfl
    have e4 : encD (e.1 + k) (entT (mm [])) = encD e.1 (entT (mm [])) := rfl
    rw [show (e :: r).take 1 = [e] from rfl, show shE k (e :: r) = (e.1 + k, e.2) :: shE k r from rfl, show ((e.1 + k, e.2) :: shE k r).take 1 = [(e.1 + k, e.2)] from rfl]
    rw [e1, e2, shE_len] at l3
    rw [e3, e4] at l4
    simp only at l1 l2 l3 l4
    omega
end Go.Proofs.YtpeepolmbcakbaaDoor
