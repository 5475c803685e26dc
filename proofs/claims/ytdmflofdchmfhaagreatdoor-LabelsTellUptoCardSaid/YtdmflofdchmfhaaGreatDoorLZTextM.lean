/- Both texts are one. -/
import Derived.Test.YtdmflofdchmfhaaGreatDoorLZText
namespace Go.Proofs.YtdmflofdchmfhaaGreatDoor
open Go.RowKit Go.Shelf Go.Lib

theorem join_snocZ (xs : List (List UInt8)) (y sep : List UInt8) : Lib.join (xs ++ [y]) sep = Lib.join xs sep ++ (if xs = [] then [] else sep) ++ y := by
  cases xs with
  | nil => simp [Lib.join_one, Lib.join_nil]
  | cons x r =>
    rw [List.cons_append, Lib.join_cons, Lib.join_cons, if_neg (by simp)]
    have h := Lib.joinTail_take_succ sep (r ++ [y]) r.length y (by simp)
    rw [List.take_of_length_le (by simp), List.take_append_of_le_length (Nat.le_refl _), List.take_length] at h
    rw [h]
    simp
theorem blJ (L : List UInt8) : bl (⟨L.toArray⟩ : ByteArray) = L.map UInt8.toNat := by simp [bl]
theorem blD (s : ByteArray) : s.data.toList.map UInt8.toNat = bl s := by simp [bl]
theorem partT_bl (x : Lb) : bl (partT x) = tpZ x := by
  unfold partT tpZ
  rw [bl_append, bl_append, bl_ofl (quote_byt x.2)]
  rfl
theorem tkZ_join (l : List Lb) : ∀ k, k ≤ l.length → tkZ l k = 123 :: (Lib.join (((l.take k).map partT).map (·.data.toList)) [44, 32]).map UInt8.toNat
  | 0, _ => by simp [tkZ, Lib.join_nil]
  | k + 1, h => by
    have ih := tkZ_join l k (by omega)
    rw [tkZ, ih, take_snocL (by omega), List.map_append, List.map_append]
    simp only [List.map_cons, List.map_nil]
    rw [join_snocZ, List.map_append, List.map_append, blD, partT_bl]
    have e : (((l.take k).map partT).map (·.data.toList) = []) ↔ k = 0 := by
      constructor
      · intro hh
        have := congrArg List.length hh
        simp only [List.length_map, List.length_take, List.length_nil] at this
        omega
      · rintro rfl; rfl
    by_cases k0 : k = 0
    · subst k0
      simp [Lib.join_nil]
    · rw [if_neg k0, if_neg (fun hh => k0 (e.1 hh))]
      simp
theorem text_eq (l : List Lb) : textS l = ofl (tkZ l l.length ++ [125]) := by
  refine bl_inj ?_
  rw [bl_ofl ((tkZ_byt l _).app (Byt.cons (by omega) Byt.nil)), tkZ_join l _ (Nat.le_refl _), List.take_length]
  unfold textS
  rw [bl_append, bl_append, blJ]
  rfl
end Go.Proofs.YtdmflofdchmfhaaGreatDoor
