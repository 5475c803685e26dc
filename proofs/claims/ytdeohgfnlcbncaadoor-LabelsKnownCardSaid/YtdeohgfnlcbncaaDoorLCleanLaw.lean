/- LabelsClean, walked. -/
import Derived.Test.YtdeohgfnlcbncaaDoorLWorks
import Derived.Lib.LaidTab
namespace Go.Proofs.YtdeohgfnlcbncaaDoor
open Go.RowKit Go.Shelf Go.Lib

/-- The table of the powers of ten, where the row lists it. -/
def Tab (w : World) : Prop := Lib.TabIs Tryd.prog w "internal/strconv.uint64pow10" .u64 Lib.pow10Tab
theorem prt_fC (c : Nat) : prtC (fC c) = true := by
  unfold fC
  split
  · assumption
  · rfl
theorem cleanB_eq (L : List Nat) : cleanB L = (if L.map fC = [] ∨ digC ((L.map fC).headD 0) = true then 95 :: L.map fC else L.map fC).take 64 := rfl
theorem all_fC (L : List Nat) : ∀ x ∈ L.map fC, prtC x = true := by
  intro x hx
  obtain ⟨y, _, rfl⟩ := List.mem_map.1 hx
  exact prt_fC y
theorem name_of {M : List Nat} (h0 : M ≠ []) (hl : M.length ≤ 64) (hd : digC (M.headD 0) = false) (ha : ∀ x ∈ M, prtC x = true) : nameB M = true := by
  unfold nameB
  rw [decide_eq_true h0, decide_eq_true hl, hd, List.all_eq_true.2 ha]
  rfl
theorem clean_name (L : List Nat) : nameB (cleanB L) = true := by
  rw [cleanB_eq]
  have hall := all_fC L
  generalize L.map fC = M at *
  by_cases h : M = [] ∨ digC (M.headD 0) = true
  · rw [if_pos h]
    refine name_of (by simp) (by rw [List.length_take]; omega) (by rfl) (fun x hx => ?_)
    have hx := List.mem_of_mem_take hx
    rcases List.mem_cons.1 hx with rfl | hx
    · rfl
    · exact hall x hx
  · rw [if_neg h]
    cases M with
    | nil => exact absurd (.inl rfl) h
    | cons a r =>
      refine name_of (by simp) (by rw [List.length_take]; omega) ?_ (fun x hx => hall x (List.mem_of_mem_take hx))
      simpa using h
theorem clean_id {M : List Nat} (h : nameB M = true) : cleanB M = M := by
  unfold nameB at h
  simp only [Bool.and_eq_true, decide_eq_true_eq, Bool.not_eq_true', List.all_eq_true] at h
  obtain ⟨⟨⟨h0, hl⟩, hd⟩, ha⟩ := h
  have hm : M.map fC = M := by
    conv => rhs; rw [← List.map_id M]
    refine List.map_congr_left fun x hx => ?_
    unfold fC
    rw [if_pos (ha x hx)]; rfl
  rw [cleanB_eq, hm, if_neg (fun k => k.elim h0 (fun k => by rw [hd] at k; cases k)), List.take_of_length_le hl]
theorem clean_len (L : List Nat) : min L.length 64 ≤ (cleanB L).length ∧ (cleanB L).length ≤ L.length + 1 := by
  rw [cleanB_eq]
  split
  · rw [List.length_take, List.length_cons, List.length_map]; omega
  · rw [List.length_take, List.length_map]; omega
theorem clean_byt {L : List Nat} (h : Byt L) : Byt (cleanB L) := by
  rw [cleanB_eq]
  have hb : Byt (L.map fC) := by
    intro x hx
    obtain ⟨y, hy, rfl⟩ := List.mem_map.1 hx
    exact fC_lt (h y hy)
  split
  · exact (Byt.cons (by omega) hb).take 64
  · exact hb.take 64
set_option maxRecDepth 100000 in
set_option maxHeartbeats 4000000 in
theorem LabelsClean_walk (s : ByteArray) (w : World) (hs : s.size ≤ 140737488351232) (_hT : Tab w) :
    Calls Tryd.prog 7 #[.string s] w fun e w' => e = .returned (.bool true) ∧ Below w.heap.size w w' := by
  have HW := Lib.hid (works_any w)
  obtain ⟨k, hk⟩ : ∃ k : Nat, min (s.size : Int) 300 = (k : Int) := ⟨min s.size 300, by omega⟩
  have hk2 : (k : Int) ≤ (s.size : Int) := by omega
  have hk0 : (0 : Int) ≤ (k : Int) := by omega
  obtain ⟨t, ht⟩ : ∃ t, s.extract 0 k = t := ⟨_, rfl⟩
  have hts : t.size ≤ 300 := by rw [← ht, ByteArray.size_extract]; omega
  obtain ⟨c, hc⟩ : ∃ c, ofl (cleanB (bl t)) = c := ⟨_, rfl⟩
  have hbc : bl c = cleanB (bl t) := by rw [← hc, bl_ofl (clean_byt (bl_byt t))]
  have hnc : nmS c = true := by unfold nmS; rw [hbc]; exact clean_name _
  have hcc : ofl (cleanB (bl c)) = c := by rw [clean_id hnc]; exact ofl_bl c
  have hlen := clean_len (bl t)
  rw [← hbc, bl_len, bl_len] at hlen
  have HC1 := Lib.hid (fun v : World => (show Calls Tryd.prog 31 #[.string t] v fun e w' => e = .returned (.string c) ∧ Below v.heap.size v w' from by have h := Clean_any t v; rwa [hc] at h))
  have HC2 := Lib.hid (fun v : World => (show Calls Tryd.prog 31 #[.string c] v fun e w' => e = .returned (.string c) ∧ Below v.heap.size v w' from by have h := Clean_any c v; rwa [hcc] at h))
  have HN1 := Lib.hid (fun v : World => (show Calls Tryd.prog 32 #[.string c] v fun e w' => e = .returned (.bool true) ∧ Below v.heap.size v w' from by have h := IsName_any c v; rwa [hnc] at h))
  have w1 : IntKind.i64.wrap ((t.size : Int) + 1) = (t.size : Int) + 1 := by rw [IntKind.wrap_i64]; omega
  have l1 : min (t.size : Int) 64 ≤ (c.size : Int) := by omega
  have l2 : (c.size : Int) ≤ max ((t.size : Int) + 1) 1 := by omega
  have d1 : decide (min (t.size : Int) 64 ≤ (c.size : Int)) = true := decide_eq_true l1
  have d2 : decide ((c.size : Int) ≤ max ((t.size : Int) + 1) 1) = true := decide_eq_true l2
  obtain ⟨q, hq1, hq2⟩ : ∃ q : Bool, nmS t = q ∧ (c.toList == t.toList) = q := by
    cases hq : nmS t with
    | true =>
      have e : c = t := by rw [← hc, clean_id (show nameB (bl t) = true from hq)]; exact ofl_bl t
      exact ⟨true, rfl, by rw [e]; exact beq_self_eq_true _⟩
    | false =>
      have e : c ≠ t := fun e => by rw [e] at hnc; rw [hnc] at hq; cases hq
      exact ⟨false, rfl, by rw [eq_eq]; exact decide_eq_false e⟩
  have HN2 := Lib.hid (fun v : World => (show Calls Tryd.prog 32 #[.string t] v fun e w' => e = .returned (.bool q) ∧ Below v.heap.size v w' from by have h := IsName_any t v; rwa [hq1] at h))
  clear hlen hnc hcc hbc hc hts hq1 hs
  go_enter Tryd.func7, Tryd.ntmps7
  go_wp2_with fail
  with_reducible refine HW.out.mono ?_
  rintro e v1 ⟨rfl, b1⟩
  have HB1 := Lib.hid b1
  clear b1 HW
  go_wp2_with fail
  with_reducible refine (HC1.out _).mono ?_
  rintro e v2 ⟨rfl, b⟩
  have HB2 := Lib.hid (next HB1.out b)
  clear b HB1
  go_wp2_with fail
  with_reducible refine (HN1.out _).mono ?_
  rintro e v3 ⟨rfl, b⟩
  have HB3 := Lib.hid (next HB2.out b)
  clear b HB2
  go_wp2_with fail
  with_reducible refine (HC2.out _).mono ?_
  rintro e v4 ⟨rfl, b⟩
  have HB4 := Lib.hid (next HB3.out b)
  clear b HB3
  go_wp2_with fail
  with_reducible refine (HN2.out _).mono ?_
  rintro e v5 ⟨rfl, b⟩
  have HB5 := Lib.hid (next HB4.out b)
  clear b HB4
  go_wp2_with fail
  go_ret
  exact ⟨rfl, HB5.out⟩
end Go.Proofs.YtdeohgfnlcbncaaDoor
