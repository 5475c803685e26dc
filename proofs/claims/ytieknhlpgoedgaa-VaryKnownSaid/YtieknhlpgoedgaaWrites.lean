/- The law VaryWrites, walked. -/
import Derived.Test.YtieknhlpgoedgaaRefU
import Derived.Test.YtieknhlpgoedgaaEqI
namespace Go.Proofs.Ytieknhlpgoedgaa
open Go.RowKit

theorem eqi_yes (A A' : Option Addr) (cap cap' B B' : Nat) (xs : List Int) (w : World) (hx : Row w B A xs.length (ints .i64 xs)) (hy : Row w B' A' xs.length (ints .i64 xs)) (hn : xs.length ≤ 9223372036854775807) :
    Calls Try.prog 19 #[.slice A xs.length cap, .slice A' xs.length cap'] w fun e w' => e = .returned (.bool true) ∧ Below w.heap.size w w' := by
  have := eqi_any A A' xs.length xs.length cap cap' B B' xs xs w hx hy hn
  rwa [show decide (xs = xs) = true by simp] at this

theorem uOut_len (n : Int) : (uOut n).length ≤ 8 := by
  unfold uOut
  split
  · simp
  · exact leb_len8 (by omega)
theorem tOut_len (s : ByteArray) : (tOut s).length ≤ 65543 := by
  unfold tOut
  split
  · simp
  · rw [List.length_append, nums_len]
    have := leb_len8 (n := s.size) (by omega)
    omega
theorem putOut_len (l : List Int) : (putOut l).length ≤ 8 * l.length := by
  unfold putOut
  split
  · exact flat_len l
  · simp

set_option maxRecDepth 100000 in
set_option maxHeartbeats 1000000 in
theorem Writes_walk (n : Int) (s : ByteArray) (A : Option Addr) (l : List Int) (c : Nat) (w : World) (_w0 : (Lit.int .i64 n).wf = true) (hs : s.size ≤ 140737488351232)
    (hr : Row w w.heap.size A l.length (ints .i64 l)) (hc : l.length ≤ c) (hsz : c * 8 ≤ 140737488351232) (_hu : ∀ x ∈ l, (Lit.int .i64 x).wf = true) :
    Calls Try.prog 3 #[.int .i64 n, .string s, .slice A l.length c] w fun e w' => e = .returned (.bool true) ∧ Below w.heap.size w w' := by
  have hl : l.length * 8 ≤ 140737488351232 := by omega
  have c1 := Lib.hid (U_any n w)
  have c2 := Lib.hid (fun w => rU_any n w)
  have c3 := Lib.hid (fun w => S_any n w)
  have c4 := Lib.hid (fun w => rS_any n w)
  have c5 := Lib.hid (fun w => Text_any s w (by omega))
  have c6 := Lib.hid (fun w => rText_any s w (by omega))
  have c8 := Lib.hid (fun (A : Option Addr) (c B : Nat) (w : World) (hr : Row w B A l.length (ints .i64 l)) (hB : B ≤ w.heap.size) => Put_any A c B l w hr hB hl)
  have c9 := Lib.hid (fun (A : Option Addr) (c B : Nat) (w : World) (hr : Row w B A l.length (ints .i64 l)) (hB : B ≤ w.heap.size) => rPut_any A c B l w hr hB hl)
  have n1 := uOut_len n
  have n3 := sOut_len n
  have n5 := tOut_len s
  have n8 := putOut_len l
  generalize uOut n = x1 at *
  generalize uErr n = e1 at *
  generalize sOut n = x3 at *
  generalize sErr n = e3 at *
  generalize tOut s = x5 at *
  generalize tErr s = e5 at *
  generalize putOut l = x8 at *
  generalize putErr l = e8 at *
  go_enter Try.func3, Try.ntmps3
  go_wp2_with fail
  refine c1.out.mono ?_
  rintro e w1 ⟨A1, d1, rfl, o1, h1⟩
  have r1 := Row.own o1
  have l_1 := hr.on h1
  have b1 := next (Below.refl _ _) h1
  clear h1 
  clear o1
  go_wp2_with fail
  refine (c2.out w1).mono ?_
  rintro e w2 ⟨A2, d2, rfl, o2, h2⟩
  have r2 := Row.own o2
  have l_2 := l_1.on h2
  have r1_2 := r1.on h2
  have b2 := next b1 h2
  clear h2 l_1 r1 b1
  clear o2
  go_wp2_with fail
  refine (c3.out w2).mono ?_
  rintro e w3 ⟨A3, d3, rfl, o3, h3⟩
  have r3 := Row.own o3
  have l_3 := l_2.on h3
  have r1_3 := r1_2.on h3
  have r2_3 := r2.on h3
  have b3 := next b2 h3
  clear h3 l_2 r1_2 r2 b2
  clear o3
  go_wp2_with fail
  refine (c4.out w3).mono ?_
  rintro e w4 ⟨A4, d4, rfl, o4, h4⟩
  have r4 := Row.own o4
  have l_4 := l_3.on h4
  have r1_4 := r1_3.on h4
  have r2_4 := r2_3.on h4
  have r3_4 := r3.on h4
  have b4 := next b3 h4
  clear h4 l_3 r1_3 r2_3 r3 b3
  clear o4
  go_wp2_with fail
  refine (c5.out w4).mono ?_
  rintro e w5 ⟨A5, d5, rfl, o5, h5⟩
  have r5 := Row.own o5
  have l_5 := l_4.on h5
  have r1_5 := r1_4.on h5
  have r2_5 := r2_4.on h5
  have r3_5 := r3_4.on h5
  have r4_5 := r4.on h5
  have b5 := next b4 h5
  clear h5 l_4 r1_4 r2_4 r3_4 r4 b4
  clear o5
  go_wp2_with fail
  refine (c6.out w5).mono ?_
  rintro e w6 ⟨A6, d6, rfl, o6, h6⟩
  have r6 := Row.own o6
  have l_6 := l_5.on h6
  have r1_6 := r1_5.on h6
  have r2_6 := r2_5.on h6
  have r3_6 := r3_5.on h6
  have r4_6 := r4_5.on h6
  have r5_6 := r5.on h6
  have b6 := next b5 h6
  clear h6 l_5 r1_5 r2_5 r3_5 r4_5 r5 b5
  clear o6
  go_wp2_with fail
  refine (CopyInts_any A c _ l _ l_6 (Nat.le_refl _) hl).mono ?_
  rintro e w7 ⟨A7, d7, rfl, o7, h7⟩
  have ri := Row.own o7
  have l_7 := l_6.on h7
  have r1_7 := r1_6.on h7
  have r2_7 := r2_6.on h7
  have r3_7 := r3_6.on h7
  have r4_7 := r4_6.on h7
  have r5_7 := r5_6.on h7
  have r6_7 := r6.on h7
  have b7 := next b6 h7
  clear h7 l_6 r1_6 r2_6 r3_6 r4_6 r5_6 r6 b6
  clear o7
  go_wp2_with fail
  refine (c8.out _ _ _ _ ri (Nat.le_refl _)).mono ?_
  rintro e w8 ⟨A8, d8, rfl, o8, h8⟩
  have r8 := Row.own o8
  have l_8 := l_7.on h8
  have r1_8 := r1_7.on h8
  have r2_8 := r2_7.on h8
  have r3_8 := r3_7.on h8
  have r4_8 := r4_7.on h8
  have r5_8 := r5_7.on h8
  have r6_8 := r6_7.on h8
  have ri_8 := ri.on h8
  have b8 := next b7 h8
  clear h8 l_7 r1_7 r2_7 r3_7 r4_7 r5_7 r6_7 ri b7
  clear o8
  go_wp2_with fail
  refine (c9.out _ _ _ _ l_8 (Nat.le_refl _)).mono ?_
  rintro e w9 ⟨A9, d9, rfl, o9, h9⟩
  have r9 := Row.own o9
  have l_9 := l_8.on h9
  have r1_9 := r1_8.on h9
  have r2_9 := r2_8.on h9
  have r3_9 := r3_8.on h9
  have r4_9 := r4_8.on h9
  have r5_9 := r5_8.on h9
  have r6_9 := r6_8.on h9
  have ri_9 := ri_8.on h9
  have r8_9 := r8.on h9
  have b9 := next b8 h9
  clear h9 l_8 r1_8 r2_8 r3_8 r4_8 r5_8 r6_8 ri_8 r8 b8
  clear o9
  go_wp2_with fail
  refine (eq_yes _ _ _ _ _ _ x1 _ r1_9 r2_9 (by omega)).mono ?_
  rintro e w10 ⟨rfl, h10⟩
  clear r1_9 r2_9
  have l_10 := l_9.on h10
  have r3_10 := r3_9.on h10
  have r4_10 := r4_9.on h10
  have r5_10 := r5_9.on h10
  have r6_10 := r6_9.on h10
  have ri_10 := ri_9.on h10
  have r8_10 := r8_9.on h10
  have r9_10 := r9.on h10
  have b10 := next b9 h10
  clear h10 l_9 r3_9 r4_9 r5_9 r6_9 ri_9 r8_9 r9 b9
  go_wp2_with fail
  refine (eq_yes _ _ _ _ _ _ x3 _ r3_10 r4_10 (by omega)).mono ?_
  rintro e w11 ⟨rfl, h11⟩
  clear r3_10 r4_10
  have l_11 := l_10.on h11
  have r5_11 := r5_10.on h11
  have r6_11 := r6_10.on h11
  have ri_11 := ri_10.on h11
  have r8_11 := r8_10.on h11
  have r9_11 := r9_10.on h11
  have b11 := next b10 h11
  clear h11 l_10 r5_10 r6_10 ri_10 r8_10 r9_10 b10
  go_wp2_with fail
  refine (eq_yes _ _ _ _ _ _ x5 _ r5_11 r6_11 (by omega)).mono ?_
  rintro e w12 ⟨rfl, h12⟩
  clear r5_11 r6_11
  have l_12 := l_11.on h12
  have ri_12 := ri_11.on h12
  have r8_12 := r8_11.on h12
  have r9_12 := r9_11.on h12
  have b12 := next b11 h12
  clear h12 l_11 ri_11 r8_11 r9_11 b11
  go_wp2_with fail
  refine (eq_yes _ _ _ _ _ _ x8 _ r8_12 r9_12 (by omega)).mono ?_
  rintro e w13 ⟨rfl, h13⟩
  clear r8_12 r9_12
  have l_13 := l_12.on h13
  have ri_13 := ri_12.on h13
  have b13 := next b12 h13
  clear h13 l_12 ri_12 b12
  go_wp2_with fail
  refine (eqi_yes _ _ _ _ _ _ l _ ri_13 l_13 (by omega)).mono ?_
  rintro e w14 ⟨rfl, h14⟩
  clear ri_13 l_13
  have b14 := next b13 h14
  clear h14  b13
  go_wp2_with fail
  refine (awake_any _).mono ?_
  rintro e w15 ⟨rfl, h15⟩
  go_wp2
  go_ret
  exact ⟨rfl, next b14 h15⟩
end Go.Proofs.Ytieknhlpgoedgaa
