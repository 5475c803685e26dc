/- The laws' near: the mathematics. -/
import Derived.Test.YtdeohgfnlcbncaaDoorLWkM
namespace Go.Proofs.YtdeohgfnlcbncaaDoor
open Go.RowKit Go.Shelf Go.Lib

/-- One number's mark among the eight. -/
def stepV (v : List Int) (x : Int) : List Int := v.set ((x % 40).toNat % 8) ((((x % 40).toNat / 8 : Nat)) : Int)
def vOf (l : List Int) : List Int := l.foldl stepV (List.replicate 8 0)
theorem vOf_snoc (l : List Int) (x : Int) : vOf (l ++ [x]) = stepV (vOf l) x := by simp [vOf]
theorem vOf_ok (l : List Int) : (vOf l).length = 8 ∧ ∀ y ∈ vOf l, 0 ≤ y ∧ y ≤ 4 := by
  suffices ∀ (l : List Int) (v : List Int), v.length = 8 → (∀ y ∈ v, 0 ≤ y ∧ y ≤ 4) → (l.foldl stepV v).length = 8 ∧ ∀ y ∈ l.foldl stepV v, 0 ≤ y ∧ y ≤ 4 from
    this l (List.replicate 8 0) (by simp) (fun y hy => by rw [List.eq_of_mem_replicate hy]; omega)
  intro l
  induction l with
  | nil => exact fun v h1 h2 => ⟨h1, h2⟩
  | cons x r ih =>
    intro v h1 h2
    refine ih (stepV v x) (by unfold stepV; rw [List.length_set]; exact h1) (fun y hy => ?_)
    unfold stepV at hy
    rcases List.mem_or_eq_of_mem_set hy with h | h
    · exact h2 y h
    · subst h
      have : (x % 40).toNat < 40 := by omega
      omega
/-- The name and the value of a mark. -/
def nmI (i : Nat) : ByteArray := ofl [97 + i]
def repV (z : Int) : ByteArray := ofl (List.replicate z.toNat 118)
def nearTo (v : List Int) (k : Nat) : List Lb := (List.range k).filterMap fun i => if 0 < v.getD i 0 then some (nmI i, repV (v.getD i 0)) else none
theorem nearTo_yes {v : List Int} {k : Nat} (h : 0 < v.getD k 0) : nearTo v (k + 1) = nearTo v k ++ [(nmI k, repV (v.getD k 0))] := by
  unfold nearTo
  rw [List.range_succ, List.filterMap_append]
  simp only [List.filterMap_cons, List.filterMap_nil, if_pos h]
theorem nearTo_no {v : List Int} {k : Nat} (h : ¬ 0 < v.getD k 0) : nearTo v (k + 1) = nearTo v k := by
  unfold nearTo
  rw [List.range_succ, List.filterMap_append]
  simp only [List.filterMap_cons, List.filterMap_nil, if_neg h, List.append_nil]
theorem mem_near {v : List Int} {k : Nat} {x : Lb} : x ∈ nearTo v k ↔ ∃ i, i < k ∧ 0 < v.getD i 0 ∧ x = (nmI i, repV (v.getD i 0)) := by
  unfold nearTo
  rw [List.mem_filterMap]
  constructor
  · rintro ⟨i, hi, h⟩
    split at h
    · next hp => exact ⟨i, List.mem_range.1 hi, hp, (Option.some.inj h).symm⟩
    · cases h
  · rintro ⟨i, hi, hp, rfl⟩
    exact ⟨i, List.mem_range.2 hi, by rw [if_pos hp]⟩
theorem nmI_lt {i j : Nat} (h : i < j) (hj : j < 9) : lt (nmI i) (nmI j) := by
  rw [lt_data]
  unfold nmI ofl
  simp only [List.map_cons, List.map_nil]
  refine List.cons_lt_cons_iff.2 (.inl ?_)
  rw [UInt8.lt_iff_toNat_lt, UInt8.toNat_ofNat', UInt8.toNat_ofNat', Nat.mod_eq_of_lt (by omega), Nat.mod_eq_of_lt (by omega)]
  omega
theorem repV_size {z : Int} (h : 0 ≤ z) : (repV z).size = z.toNat := by rw [repV, ofl_size, List.length_replicate]
theorem near_ord (v : List Int) : ∀ k, k ≤ 9 → Ord (nearTo v k)
  | 0, _ => Ord.nil
  | k + 1, hk => by
    have ih := near_ord v k (by omega)
    by_cases h : 0 < v.getD k 0
    · rw [nearTo_yes h]
      refine ⟨fun x hx => ?_, ?_⟩
      · rcases List.mem_append.1 hx with hx | hx
        · exact ih.1 x hx
        · rw [List.mem_singleton.1 hx]
          intro e
          have h1 := repV_size (z := v.getD k 0) (by omega)
          rw [show repV (v.getD k 0) = ByteArray.empty from e] at h1
          have h2 : ByteArray.empty.size = 0 := rfl
          omega
      · refine List.pairwise_append.2 ⟨ih.2, by simp, fun a ha b hb => ?_⟩
        obtain ⟨i, hi, _, rfl⟩ := mem_near.1 ha
        rw [List.mem_singleton.1 hb]
        exact nmI_lt hi (by omega)
    · rw [nearTo_no h]; exact ih
theorem near_len (v : List Int) (k : Nat) : (nearTo v k).length ≤ k := by
  unfold nearTo
  exact Nat.le_trans (List.length_filterMap_le _ _) (by simp)
theorem nmI_name {i : Nat} (h : i < 9) : nmS (nmI i) = true := by
  rcases (by omega : i = 0 ∨ i = 1 ∨ i = 2 ∨ i = 3 ∨ i = 4 ∨ i = 5 ∨ i = 6 ∨ i = 7 ∨ i = 8) with rfl | rfl | rfl | rfl | rfl | rfl | rfl | rfl | rfl <;> decide
theorem rep_eq (z : Int) : (⟨(Lib.repeatL [118] z.toNat).toArray⟩ : ByteArray) = repV z := by
  unfold repV ofl
  generalize z.toNat = n
  refine congrArg (fun l : List UInt8 => ByteArray.mk l.toArray) ?_
  induction n with
  | zero => rfl
  | succ n ih => rw [Lib.repeatL, ih, List.replicate_succ]; rfl
/-- What near answers may be a stream's labels. -/
theorem near_check (l : List Int) : chkL nmS (nearTo (vOf l) 8) = 0 := by
  unfold chkL
  refine if_pos ⟨Nat.le_trans (near_len _ _) (by omega), near_ord _ 8 (by omega), fun x hx => ?_⟩
  obtain ⟨i, hi, hp, rfl⟩ := mem_near.1 hx
  refine ⟨nmI_name (by omega), ?_⟩
  have hv := vOf_ok l
  have h4 := (hv.2 ((vOf l).getD i 0) (by rw [List.getD_eq_getElem?_getD, List.getElem?_eq_getElem (by omega)]; exact List.getElem_mem _)).2
  rw [repV_size (by omega)]
  omega
end Go.Proofs.YtdeohgfnlcbncaaDoor
