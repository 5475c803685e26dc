/- The law's awake: the chapter's examples. -/
import Derived.Test.YtoodchnjikkkkaaSSeal
import Derived.Lib.SlBytesConst
namespace Go.Proofs.Ytoodchnjikkkkaa
open Go.RowKit

theorem Cut_at (A : Option Addr) (c B n k : Nat) (r : Bool) (l o : List Int) (w : World) (hr : Row w B A n (ints .u8 l)) (hB : B ≤ w.heap.size) (hu : U8 l) (hl : n ≤ 150000000000000) (hc : n ≤ c) (hc2 : c ≤ 9223372036854775807)
    (h : Hid (sealedI l = r ∧ cutOf l = o ∧ o.length = k)) :
    Calls Try.prog 19 #[.slice A n c] w fun e w' => ∃ A c, e = .returned (.tuple #[.slice A k c, .bool r]) ∧ w'.ownsRow w.heap.size 5 1 (.slice A k c) k (ints .u8 o) ∧ Below w.heap.size w w' := by
  have hn := hr.len
  subst hn
  have := Cut_any A c B l w hr hB hu hl hc hc2
  unfold CutOut at this
  rw [h.out.1, h.out.2.1, h.out.2.2] at this
  exact this
theorem Of_none (w : World) : Calls Try.prog 11 #[.slice none 0 0] w fun e w' => e = .returned (.int .u32 0) ∧ Below w.heap.size w w' := by
  have := Of_any none 0 0 0 [] [] w (Row.zero _ _ _) (Lists.nil _ _) (by intro x hx; cases hx) (by omega) (by omega) (by simp) (by intro x hx; cases hx)
  rwa [show ((sumsOf [] : Nat) : Int) = 0 by simp [sumsOf, sumOf_nil]] at this
theorem ex_cut3 : sealedI [0, 0, 0] = false ∧ cutOf [0, 0, 0] = [] ∧ ([] : List Int).length = 0 := by decide +kernel
theorem ex_cut4 : sealedI [0, 0, 0, 0] = true ∧ cutOf [0, 0, 0, 0] = [] ∧ ([] : List Int).length = 0 := by decide +kernel
theorem ex_cut5 : sealedI [0, 0, 0, 1] = false ∧ cutOf [0, 0, 0, 1] = [] ∧ ([] : List Int).length = 0 := by decide +kernel
theorem ex_sum : sumOf 0 [49, 50, 51, 52, 53, 54, 55, 56, 57] = 3421780262 := by decide +kernel
theorem ex_row : rowI 258 = [2, 1, 0, 0] := by decide +kernel
theorem ex_put : ([] : List Int) ++ rowI (sumOf 0 []) = [0, 0, 0, 0] := by decide +kernel

/-- A constant text's bytes, just laid. -/
theorem Row.mark (w : World) (k : IntKind) (zs : List Int) (e : TypeId) (fr : Nat × Nat) : Row (w.alloc (.cells (ints k zs).toArray e fr)) (w.heap.size + 1) (some ⟨w.heap.size, 0, none⟩) zs.length (ints k zs) := by
  refine ⟨ints_len _ _, fun _ => ⟨w.heap.size, 0, rfl, by omega, fun j hj => ?_⟩⟩
  rw [World.cell?_alloc_mark]
  simp
theorem Of_is (A : Option Addr) (c n B' s g : Nat) (l : List Int) (w : World) (hg : g = w.heap.size) (hr : Row w B' A n (ints .u8 l)) (hB' : B' ≤ w.heap.size) (hu : U8 l) (hm : l.length ≤ 9223372036854775807) (hs : sumOf 0 l = s) :
    Calls Try.prog 11 #[.slice (some ⟨g, 0, none⟩) 1 1] (w.alloc (.cells #[.slice A n c] 24)) fun e w' => e = .returned (.int .u32 (s : Int)) ∧ Below w.heap.size w w' := by
  subst hg
  have := Of_one A c n B' l w hr hB' hu hm
  rwa [hs] at this
theorem Row_is (s : Nat) (l : List Int) (w : World) (hs : s < 4294967296) (h : rowI s = l) : Calls Try.prog 16 #[.int .u32 s] w (FreshN w 4 l) := by
  subst h
  exact Row4_any s w hs
theorem Put_nil (w : World) : Calls Try.prog 21 #[.slice none 0 0] w (FreshN w 4 [0, 0, 0, 0]) := by
  have := Put_at none 0 0 0 [] w (Row.zero _ _ _) (by omega) (by intro x hx; cases hx) (by omega)
  rwa [ex_put] at this
set_option maxRecDepth 100000 in
set_option maxHeartbeats 1000000 in
theorem awake_any (w : World) : Calls Try.prog 18 #[] w fun e w' => e = .returned (.bool true) ∧ Below w.heap.size w w' := by
  have kc := fun (w : World) (C : Array Value) (n c : Nat) => Lib.run_convert_bytes_const (P := Try.prog) w 24 5 C n c Try.underlying24 Try.underlying5
  go_enter Try.func18, Try.ntmps18
  go_wp2_with fail
  refine (Cut_at _ 3 _ 3 0 false [0, 0, 0] [] _ (Row.lit _ .u8 [0, 0, 0] _) (by simp) (by intro x hx; simp at hx; omega) (by omega) (by omega) (by omega) (Lib.hid ex_cut3)).mono ?_
  rintro e w1 ⟨A1, c1, rfl, o1, h1⟩
  have b1 := nextA (Below.refl _ _) h1
  clear o1 h1
  go_wp2_with fail
  refine (Cut_at _ 4 _ 4 0 true [0, 0, 0, 0] [] _ (Row.lit _ .u8 [0, 0, 0, 0] _) (by simp) (by intro x hx; simp at hx; omega) (by omega) (by omega) (by omega) (Lib.hid ex_cut4)).mono ?_
  rintro e w2 ⟨A2, c2, rfl, o2, h2⟩
  have b2 := nextA b1 h2
  clear o2 h2 b1
  go_wp2_with fail
  refine (Cut_at _ 4 _ 4 0 false [0, 0, 0, 1] [] _ (Row.lit _ .u8 [0, 0, 0, 1] _) (by simp) (by intro x hx; simp at hx; omega) (by omega) (by omega) (by omega) (Lib.hid ex_cut5)).mono ?_
  rintro e w3 ⟨A3, c3, rfl, o3, h3⟩
  have b3 := nextA b2 h3
  clear o3 h3 b2
  go_wp2_with fail
  refine (Of_none _).mono ?_
  rintro e w4 ⟨rfl, h4⟩
  have b4 := next b3 h4
  clear h4 b3
  go_wp2_with fail
  refine (Of_is _ 9 9 _ 3421780262 _ [49, 50, 51, 52, 53, 54, 55, 56, 57] _ (by simp) (Row.mark w4 .u8 [49, 50, 51, 52, 53, 54, 55, 56, 57] _ _) (by simp) (by intro x hx; simp at hx; omega) (by simp) ex_sum).mono ?_
  rintro e w5 ⟨rfl, h5⟩
  have b5 := nextA b4 h5
  clear h5 b4
  go_wp2_with fail
  refine (Row_is 258 [2, 1, 0, 0] _ (by omega) ex_row).mono ?_
  rintro e w6 ⟨A6, c6, rfl, o6, h6⟩
  have r6 := Row.own o6
  have b6 := next b5 h6
  clear o6 h6 b5
  go_wp2_with fail
  refine (eq_yes A6 _ 4 4 c6 4 _ _ [2, 1, 0, 0] _ (r6.alloc (Nat.le_refl _) _) (Row.lit _ .u8 [2, 1, 0, 0] _) (by omega)).mono ?_
  rintro e w7 ⟨rfl, h7⟩
  have b7 := nextA b6 h7
  clear r6 h7 b6
  go_wp2_with fail
  refine (Put_nil _).mono ?_
  rintro e w8 ⟨A8, c8, rfl, o8, h8⟩
  have r8 := Row.own o8
  have b8 := next b7 h8
  clear o8 h8 b7
  go_wp2_with fail
  refine (eq_yes A8 _ 4 4 c8 4 _ _ [0, 0, 0, 0] _ (r8.alloc (Nat.le_refl _) _) (Row.lit _ .u8 [0, 0, 0, 0] _) (by omega)).mono ?_
  rintro e w9 ⟨rfl, h9⟩
  have b9 := nextA b8 h9
  clear r8 h9 b8
  go_wp2
  go_ret
  exact ⟨rfl, b9⟩
end Go.Proofs.Ytoodchnjikkkkaa
