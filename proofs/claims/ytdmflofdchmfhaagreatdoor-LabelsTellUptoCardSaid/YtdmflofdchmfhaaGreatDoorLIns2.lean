/- slices.Insert ahead of a row of bytes, whole. -/
import Derived.Test.YtdmflofdchmfhaaGreatDoorLBRow
namespace Go.Proofs.YtdmflofdchmfhaaGreatDoor
open Go.RowKit Go.Shelf Go.Lib

theorem below_setsN {B g : Nat} (hg : B ≤ g) : ∀ (vs : List Value) (o : Nat) (w : World), Below B w (w.setCells g o vs)
  | [], _, w => Below.refl B w
  | v :: r, o, w => ((Below.refl B w).setCell (p := ⟨g, o, none⟩) hg v).trans (below_setsN hg r (o + 1) _)
theorem cells_back (W : World) (b : Nat) (x : Value) (cs : List Value) (hs : ∀ j, j < cs.length + 1 → (W.cell? ⟨b, j, none⟩).isSome = true) (j : Nat) (hj : j < cs.length + 1) :
    ((W.setCells b 1 cs).setCells b 0 [x]).cell? ⟨b, j, none⟩ = (x :: cs)[j]? := by
  have h1 : ∀ k, k < cs.length → ((W.setCells b 1 cs).cell? ⟨b, 1 + k, none⟩) = cs[k]? := fun k hk => by
    rw [World.cell?_setCells_in b cs 1 W (fun j hj => hs _ (by omega)) k hk, List.getElem?_eq_getElem hk]
  rcases j with _ | k
  · have := World.cell?_setCells_in b [x] 0 (W.setCells b 1 cs) (fun j hj => isSome_setCells b cs 1 W (fun t ht => hs _ (by omega)) _ (hs _ (by simp at hj; omega))) 0 (by simp)
    simpa using this
  · rw [World.cell?_setCells_out b [x] 0 _ ⟨b, k + 1, none⟩ (fun _ _ => by show k + 1 < 0 ∨ 0 + [x].length ≤ k + 1; simp), show k + 1 = 1 + k by omega, h1 k (by omega)]
    rw [show 1 + k = k + 1 by omega]; rfl
theorem cells_fore (W : World) (b : Nat) (x : Value) (cs : List Value) (hs : ∀ j, j < cs.length + 1 → (W.cell? ⟨b, j, none⟩).isSome = true) (j : Nat) (hj : j < cs.length + 1) :
    (((W.setCells b 0 [x]).drew).setCells b 1 cs).cell? ⟨b, j, none⟩ = (x :: cs)[j]? := by
  have hs2 : ∀ j, j < cs.length + 1 → ((W.setCells b 0 [x]).drew.cell? ⟨b, j, none⟩).isSome = true := fun j hj =>
    isSome_setCells b [x] 0 W (fun t ht => hs _ (by simp at ht; omega)) _ (hs j hj)
  rcases j with _ | k
  · rw [World.cell?_setCells_out b cs 1 _ ⟨b, 0, none⟩ (fun _ _ => .inl (by show 0 < 1; omega))]
    have := World.cell?_setCells_in b [x] 0 W (fun j hj => hs _ (by simp at hj; omega)) 0 (by simp)
    simpa using this
  · rw [show k + 1 = 1 + k by omega, World.cell?_setCells_in b cs 1 _ (fun j hj => hs2 _ (by omega)) k (by omega), show 1 + k = k + 1 by omega, List.getElem?_cons_succ, List.getElem?_eq_getElem]
theorem cN_at (l : List Nat) (j : Nat) (h : j < l.length) : (cN l)[j]? = some (.int .u8 ((l.getD j 0 : Nat) : Int)) := by
  simp [cN, h, List.getD_eq_getElem?_getD]
theorem cN_one (l : List Nat) : ∀ v ∈ cN l, v.oneCell' = true := by
  intro v hv
  obtain ⟨x, _, rfl⟩ := List.mem_map.1 hv
  rfl
theorem Ins_any (B g cap : Nat) (M : List Nat) (v : World) (hrow : BRow B g cap M v) (hB : B ≤ v.heap.size) (h0 : 0 < M.length) (hn : M.length ≤ 1000) :
    Calls Tryz.prog 38 #[.slice (some ⟨g, 0, none⟩) M.length cap, .int .i64 0, .slice (some ⟨v.heap.size, 0, none⟩) 1 1] (v.alloc (.cells #[.int .u8 95] 5)) fun e w' =>
      ∃ b' c', e = .returned (.slice (some ⟨b', 0, none⟩) (M.length + 1) c') ∧ M.length + 1 ≤ c' ∧ c' ≤ 9223372036854775807 ∧ (∀ j, j < M.length + 1 → w'.cell? ⟨b', j, none⟩ = some (.int .u8 (((95 :: M).getD j 0 : Nat) : Int))) ∧ Below B v w' := by
  have hgl := hrow.lt
  have hr := hrow.on ((Below.refl _ v).alloc (Nat.le_refl _) (.cells #[.int .u8 95] 5))
  have hb := (Below.refl B v).alloc hB (.cells #[.int .u8 95] 5)
  have hnew := heap_alloc_new v (.cells #[.int .u8 95] 5)
  have hv : (v.alloc (.cells #[.int .u8 95] 5)).cell? ⟨v.heap.size, 0, none⟩ = some (.int .u8 95) := by rw [Lib.cell_of_heap hnew]; rfl
  have hget : ∀ j, j < M.length + 1 → (Value.int .u8 95 :: cN M)[j]? = some (.int .u8 (((95 :: M).getD j 0 : Nat) : Int)) := fun j hj => by
    have h := cN_at (95 :: M) j (by simpa using hj)
    exact h
  have hsz : (v.alloc (.cells #[.int .u8 95] 5)).heap.size = v.heap.size + 1 := World.size_alloc _ _
  generalize hv' : v.alloc (.cells #[.int .u8 95] 5) = v' at *
  by_cases hroom : M.length + 1 ≤ cap
  · refine (Ins_room g M.length cap v.heap.size (.int .u8 95) (cN M) v' h0 hroom hr.2.2.1 (by omega) (cN_len M) (fun j u hj => by
      have hjl : j < M.length := by have := (List.getElem?_eq_some_iff.1 hj).1; rwa [cN_len] at this
      rw [cN_at M j hjl] at hj
      rw [← hj]
      exact hr.cell j hjl) (fun j hj => hr.has j (by omega)) (fun j hj => hr.free j (by omega)) hv (cN_one M) rfl 5 5 1 cap (by simp [World.shape?, hnew]) hr.shape (by omega) (Lib.frozen_of_heap hnew 0) (Lib.frozen_of_heap hnew 1)).mono ?_
    rintro e w' ⟨rfl, rfl⟩
    refine ⟨g, cap, rfl, hroom, hr.2.2.1, fun j hj => ?_, ?_⟩
    · rw [← hget j hj]
      exact cells_back v'.drew g _ (cN M) (fun j hj => by rw [cN_len] at hj; exact hr.has j (by omega)) j (by rw [cN_len]; exact hj)
    · exact (hb.drew.trans (below_setsN hr.1 _ _ _)).trans (below_setsN hr.1 _ _ _)
  · have hc : cap = M.length := by have := hr.2.1; omega
    subst hc
    refine (Ins_grow g M.length v.heap.size (.int .u8 95) (cN M) v' h0 (by omega) (cN_len M) (fun j u hj => by
      have hjl : j < M.length := by have := (List.getElem?_eq_some_iff.1 hj).1; rwa [cN_len] at this
      rw [cN_at M j hjl] at hj
      rw [← hj]
      exact hr.cell j hjl) hv (cN_one M) rfl).mono ?_
    rintro e w' ⟨G, ROW, hG1, hG2, hRs, rfl, rfl⟩
    refine ⟨v'.heap.size, G, rfl, hG1, hG2, fun j hj => ?_, ?_⟩
    · rw [← hget j hj]
      refine cells_fore ((v'.alloc (.cells ROW 5)).drew) v'.heap.size _ (cN M) (fun j hj => ?_) j (by rw [cN_len]; exact hj)
      rw [cN_len] at hj
      show ((v'.alloc (.cells ROW 5)).cell? _).isSome = true
      rw [Lib.cell_of_heap (heap_alloc_new v' _), Array.getElem?_eq_getElem (by omega)]; rfl
    · have hB2 : B ≤ v'.heap.size := by omega
      exact ((((hb.alloc hB2 _).drew.trans (below_setsN hB2 _ _ _)).drew).trans (below_setsN hB2 _ _ _))
end Go.Proofs.YtdmflofdchmfhaaGreatDoor
