/- The law's own awake: the chapter's examples hold. -/
import Derived.Test.YtieknhlpgoedgaaReads
namespace Go.Proofs.Ytieknhlpgoedgaa
open Go.RowKit

theorem writes_yes (n : Int) (l : List Int) (A : Option Addr) (c B : Nat) (w : World) (h : uErr n = 0 ∧ uOut n = l) (hr : Row w B A l.length (ints .u8 l)) (hB : B ≤ w.heap.size) :
    Calls Try.prog 34 #[.int .i64 n, .slice A l.length c] w fun e w' => e = .returned (.bool true) ∧ Below w.heap.size w w' := by
  have := writes_any n A c B l w hr hB
  rwa [show decide (uErr n = 0 ∧ uOut n = l) = true by simpa using h] at this
theorem reads_yes (x : Int) (l : List Int) (A : Option Addr) (c B : Nat) (w : World) (h : rdU l = (0, [], x)) (hr : Row w B A l.length (ints .u8 l)) (hB : B ≤ w.heap.size) (hl : l.length ≤ 150000000000000) (hu : ∀ x ∈ l, 0 ≤ x ∧ x ≤ 255) :
    Calls Try.prog 35 #[.slice A l.length c] w fun e w' => e = .returned (.tuple #[.int .i64 0, .int .i64 x]) ∧ Below w.heap.size w w' := by
  have := reads_any A c B l w hr hB hl hu
  rwa [h] at this
theorem S_yes (n : Int) (l : List Int) (w : World) (h : sErr n = 0 ∧ sOut n = l) : Calls Try.prog 11 #[.int .i64 n] w (Out w l 0) := by
  have := S_any n w
  rwa [h.1, h.2] at this
theorem Put_yes (l o : List Int) (A : Option Addr) (c B : Nat) (w : World) (h : putErr l = 0 ∧ putOut l = o) (hr : Row w B A l.length (ints .i64 l)) (hB : B ≤ w.heap.size) (hl : l.length * 8 ≤ 140737488351232) :
    Calls Try.prog 16 #[.slice A l.length c] w (Out w o 0) := by
  have := Put_any A c B l w hr hB hl
  rwa [h.1, h.2] at this
theorem eq_yes (A A' : Option Addr) (cap cap' B B' : Nat) (xs : List Int) (w : World) (hx : Row w B A xs.length (ints .u8 xs)) (hy : Row w B' A' xs.length (ints .u8 xs)) (hn : xs.length ≤ 9223372036854775807) :
    Calls Try.prog 18 #[.slice A xs.length cap, .slice A' xs.length cap'] w fun e w' => e = .returned (.bool true) ∧ Below w.heap.size w w' := by
  have := eq_any A A' xs.length xs.length cap cap' B B' xs xs w hx hy hn
  rwa [show decide (xs = xs) = true by simp] at this

theorem leb0 : leb 0 = [0] := leb_small (by omega)
theorem leb1 : leb 1 = [1] := leb_small (by omega)
theorem leb2 : leb 2 = [2] := leb_small (by omega)
theorem leb127 : leb 127 = [127] := leb_small (by omega)
theorem leb128 : leb 128 = [128, 1] := by rw [leb_big (by omega), show 128 / 128 = 1 from rfl, leb1]; rfl
theorem leb300 : leb 300 = [172, 2] := by rw [leb_big (by omega), show 300 / 128 = 2 from rfl, leb2]; rfl
theorem s_m1 : sErr (-1) = 0 ∧ sOut (-1) = [1] := ⟨rfl, by rw [sOut, if_pos (by decide)]; exact leb1⟩
theorem s_p1 : sErr 1 = 0 ∧ sOut 1 = [2] := ⟨rfl, by rw [sOut, if_pos (by decide)]; exact leb2⟩
theorem puts_ex : putErr [-1, 64] = 0 ∧ putOut [-1, 64] = [1, 128, 1] := by
  have h : putOk [-1, 64] = true := by decide
  have h1 : sOut (-1) = [1] := by rw [sOut, if_pos (by decide)]; exact leb1
  have h2 : sOut 64 = [128, 1] := by rw [sOut, if_pos (by decide)]; exact leb128
  refine ⟨by simp [putErr, h], ?_⟩
  rw [putOut, if_pos h, List.flatMap_cons, List.flatMap_cons, h1, h2]
  rfl

set_option maxRecDepth 100000 in
set_option maxHeartbeats 1000000 in
theorem awake_any (w : World) : Calls Try.prog 20 #[] w fun e w' => e = .returned (.bool true) ∧ Below w.heap.size w w' := by
  go_enter Try.func20, Try.ntmps20
  go_wp2_with fail
  refine (writes_yes 0 [0] _ _ _ _ ⟨rfl, leb0⟩ (Row.lit _ .u8 [0] _) (by simp)).mono ?_
  rintro e w1 ⟨rfl, h1⟩
  have b1 := nextA (Below.refl _ _) h1
  go_wp2_with fail
  refine (writes_yes 127 [127] _ _ _ _ ⟨rfl, leb127⟩ (Row.lit _ .u8 [127] _) (by simp)).mono ?_
  rintro e w2 ⟨rfl, h2⟩
  have b2 := nextA b1 h2
  go_wp2_with fail
  refine (writes_yes 128 [128, 1] _ _ _ _ ⟨rfl, leb128⟩ (Row.lit _ .u8 [128, 1] _) (by simp)).mono ?_
  rintro e w3 ⟨rfl, h3⟩
  have b3 := nextA b2 h3
  go_wp2_with fail
  refine (writes_yes 300 [172, 2] _ _ _ _ ⟨rfl, leb300⟩ (Row.lit _ .u8 [172, 2] _) (by simp)).mono ?_
  rintro e w4 ⟨rfl, h4⟩
  have b4 := nextA b3 h4
  clear h1 h2 h3 h4 b1 b2 b3
  go_wp2_with fail
  refine (S_yes (-1) [1] _ s_m1).mono ?_
  rintro e w5 ⟨A5, c5, rfl, o5, h5⟩
  have r5 := Row.own o5
  have b5 := next b4 h5
  go_wp2_with fail
  refine (S_yes 1 [2] _ s_p1).mono ?_
  rintro e w6 ⟨A6, c6, rfl, o6, h6⟩
  have r6 := Row.own o6
  have s5 := r5.on h6
  have b6 := next b5 h6
  clear o5 o6 r5 h5 h6 b4 b5
  go_wp2_with fail
  refine (Put_yes [-1, 64] [1, 128, 1] _ _ _ _ puts_ex (Row.lit _ .i64 [-1, 64] _) (by simp) (by simp)).mono ?_
  rintro e w7 ⟨A7, c7, rfl, o7, h7⟩
  have r7 := Row.own o7
  have s5' := s5.nextA h7
  have s6 := r6.nextA h7
  have b7 := nextA b6 h7
  clear o7 h7 r6 s5 b6
  go_wp2_with fail
  refine (reads_yes 3 [128] _ _ _ _ (by decide) (Row.lit _ .u8 [128] _) (by simp) (by simp) (by simp)).mono ?_
  rintro e w8 ⟨rfl, h8⟩
  have t5 := s5'.nextA h8
  have t6 := s6.nextA h8
  have t7 := r7.nextA h8
  have b8 := nextA b7 h8
  clear s5' s6 r7 h8 b7
  go_wp2_with fail
  refine (reads_yes 4 [128, 0] _ _ _ _ (by decide) (Row.lit _ .u8 [128, 0] _) (by simp) (by simp) (by simp)).mono ?_
  rintro e w9 ⟨rfl, h9⟩
  have p5 := t5.nextA h9
  have p6 := t6.nextA h9
  have p7 := t7.nextA h9
  have b9 := nextA b8 h9
  clear t5 t6 t7 h9 b8
  go_wp2_with fail
  refine (reads_yes 4 [255, 255, 255, 255, 255, 255, 255, 255, 1] _ _ _ _ (by decide) (Row.lit _ .u8 [255, 255, 255, 255, 255, 255, 255, 255, 1] _) (by simp) (by simp) (by simp)).mono ?_
  rintro e w10 ⟨rfl, h10⟩
  have q5 := p5.nextA h10
  have q6 := p6.nextA h10
  have q7 := p7.nextA h10
  have b10 := nextA b9 h10
  clear p5 p6 p7 h10 b9
  go_wp2_with fail
  refine (eq_yes _ _ _ _ _ _ [1] _ (q5.alloc (Nat.le_refl _) _) (Row.lit _ .u8 [1] _) (by simp)).mono ?_
  rintro e w11 ⟨rfl, h11⟩
  have u6 := q6.nextA h11
  have u7 := q7.nextA h11
  have b11 := nextA b10 h11
  clear q5 q6 q7 h11 b10
  go_wp2_with fail
  refine (eq_yes _ _ _ _ _ _ [2] _ (u6.alloc (Nat.le_refl _) _) (Row.lit _ .u8 [2] _) (by simp)).mono ?_
  rintro e w12 ⟨rfl, h12⟩
  have v7 := u7.nextA h12
  have b12 := nextA b11 h12
  clear u6 u7 h12 b11
  go_wp2_with fail
  refine (eq_yes _ _ _ _ _ _ [1, 128, 1] _ (v7.alloc (Nat.le_refl _) _) (Row.lit _ .u8 [1, 128, 1] _) (by simp)).mono ?_
  rintro e w13 ⟨rfl, h13⟩
  have b13 := nextA b12 h13
  go_wp2
  go_ret
  exact ⟨rfl, b13⟩
end Go.Proofs.Ytieknhlpgoedgaa
