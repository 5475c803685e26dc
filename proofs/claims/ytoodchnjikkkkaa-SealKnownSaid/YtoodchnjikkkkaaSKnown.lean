/- SealKnown, walked. -/
import Derived.Test.YtoodchnjikkkkaaSSums
import Derived.Test.YtoodchnjikkkkaaSCuts
namespace Go.Proofs.Ytoodchnjikkkkaa
open Go.RowKit

theorem ex_a : sumOf 0 [97] = 3904355907 := by decide +kernel
theorem ex_abc : sumOf 0 [97, 98, 99] = 891568578 := by decide +kernel
theorem ex_0 : sumOf 0 [0, 0, 0, 0] = 558161692 := by decide +kernel

theorem u8_a : U8 [97] := by intro x hx; simp at hx; omega
theorem u8_abc : U8 [97, 98, 99] := by intro x hx; simp at hx; omega
theorem u8_0 : U8 [0, 0, 0, 0] := by intro x hx; simp at hx; omega
theorem u8_123 : U8 [1, 2, 3] := by intro x hx; simp at hx; omega
theorem wf_of_u8 {l : List Int} (h : U8 l) : ∀ x ∈ l, (Lit.int .u8 x).wf = true := by
  intro x hx
  have := h x hx
  simp [Lit.wf, IntKind.min, IntKind.max, IntKind.bits, IntKind.signed]
  omega
theorem u8_setI {y : List Int} {q : Nat} {v : Int} (h : U8 y) (h0 : 0 ≤ v) (h1 : v ≤ 255) : U8 (y.set q v) := fun x hx => by
  rcases List.mem_or_eq_of_mem_set hx with h2 | rfl
  · exact h x h2
  · exact ⟨h0, h1⟩
theorem wf64 {x : Int} (h : -9223372036854775808 ≤ x ∧ x ≤ 9223372036854775807) : (Lit.int .i64 x).wf = true := by
  simp [Lit.wf, IntKind.min, IntKind.max, IntKind.bits, IntKind.signed]
  omega
theorem wf32 {x : Int} (h : 0 ≤ x ∧ x ≤ 4294967295) : (Lit.int .u32 x).wf = true := by
  simp [Lit.wf, IntKind.min, IntKind.max, IntKind.bits, IntKind.signed]
  omega
theorem Cuts_n (A : Option Addr) (n c B : Nat) (l : List Int) (w : World) (hr : Row w B A n (ints .u8 l)) (hB : B ≤ w.heap.size) (hc : n ≤ c) (hs : c ≤ 140737488351232) (hu : U8 l) :
    Calls Try.prog 4 #[.slice A n c] w fun e w' => e = .returned (.bool true) ∧ Below w.heap.size w w' := by
  have hn := hr.len
  subst hn
  exact Cuts_walk A l c w (hr.wide hB) hc (by omega) (wf_of_u8 hu)
theorem Turned_n (A : Option Addr) (n c B : Nat) (l : List Int) (a p : Int) (w : World) (hr : Row w B A n (ints .u8 l)) (hB : B ≤ w.heap.size) (hc : n ≤ c) (hs : c ≤ 140737488351232) (hu : U8 l) (ha : -9223372036854775808 ≤ a ∧ a ≤ 9223372036854775807) (hp : 0 ≤ p ∧ p ≤ 4294967295) :
    Calls Try.prog 5 #[.slice A n c, .int .i64 a, .int .u32 p] w fun e w' => e = .returned (.bool true) ∧ Below w.heap.size w w' := by
  have hn := hr.len
  subst hn
  exact Turned_walk A l c a p w (hr.wide hB) hc (by omega) (wf_of_u8 hu) (wf64 ha) (wf32 hp)
/-- SealSums of three lists: one, none, a part of the one. -/
theorem Sums_three (g : Nat) (k h G : Nat) (y : List Int) (s : Int) (w : World) (hG : G = w.heap.size) (hr : Row w w.heap.size (some ⟨g, 0, none⟩) k (ints .u8 y)) (hk : k ≤ 1000) (hh : h ≤ k) (hu : U8 y) (hs : 0 ≤ s ∧ s ≤ 4294967295) :
    Calls Try.prog 3 #[.slice (some ⟨G, 0, none⟩) 3 3, .int .u32 s, .slice (some ⟨g, 0, none⟩) k k] (w.alloc (.cells #[.slice (some ⟨g, 0, none⟩) k k, .slice none 0 0, .slice (some ⟨g, 0, none⟩) h k] 24)) fun e w' => e = .returned (.bool true) ∧ Below w.heap.size w w' := by
  subst hG
  have ht := hr.take hh
  rw [ints_take] at ht
  have hl := hr.len
  have hL := (Lists.cons (c := k) hr (Lists.cons (c := 0) (l := []) (Row.zero w w.heap.size none) (Lists.cons (c := k) ht (Lists.nil _ _)))).alloc (Nat.le_refl _) (.cells #[.slice (some ⟨g, 0, none⟩) k k, .slice none 0 0, .slice (some ⟨g, 0, none⟩) h k] 24)
  have hrow : Row (w.alloc (.cells #[.slice (some ⟨g, 0, none⟩) k k, .slice none 0 0, .slice (some ⟨g, 0, none⟩) h k] 24)) (w.heap.size + 1) (some ⟨w.heap.size, 0, none⟩) 3 [.slice (some ⟨g, 0, none⟩) k k, .slice none 0 0, .slice (some ⟨g, 0, none⟩) h k] := Row.lits w [.slice (some ⟨g, 0, none⟩) k k, .slice none 0 0, .slice (some ⟨g, 0, none⟩) h k] 24
  refine (Sums_walk _ [.slice (some ⟨g, 0, none⟩) k k, .slice none 0 0, .slice (some ⟨g, 0, none⟩) h k] [y, [], y.take h] 3 3 s (some ⟨g, 0, none⟩) k y k _ (hrow.wide (by simp)) ⟨hL.1, fun j l hj => by
      obtain ⟨A, c, h1, h2⟩ := hL.2 j l hj
      exact ⟨A, c, h1, h2.wide (by simp)⟩⟩ ?_ (by omega) ?_ (wf32 hs) ((hr.alloc (Nat.le_refl _) _).wide (by simp)) (by omega) hu).mono ?_
  · intro x hx
    simp at hx
    rcases hx with rfl | rfl | rfl
    · exact hu
    · exact U8.nil
    · exact hu.take _
  · intro x hx
    simp at hx
    rcases hx with rfl | rfl | rfl
    · omega
    · simp
    · rw [List.length_take]; omega
  · rintro e w' ⟨rfl, hb⟩
    exact ⟨rfl, nextA (Below.refl _ _) hb⟩
set_option maxRecDepth 100000 in
set_option maxHeartbeats 2000000 in
theorem Known_walk (w : World) : Calls Try.prog 9 #[] w fun e w' => e = .returned (.bool true) ∧ Below w.heap.size w w' := by
  obtain ⟨i0, hi, hz0, hz1, hz2⟩ := info_parts u8_info
  have kc := fun (w : World) (C : Array Value) (n c : Nat) => Lib.run_convert_bytes_const (P := Try.prog) w 24 5 C n c Try.underlying24 Try.underlying5
  go_enter Try.func9, Try.ntmps9
  go_wp2_with fail
  with_reducible refine (Of_is _ 1 1 _ 3904355907 _ [97] _ (by simp) (Row.mark w .u8 [97] _ _) (by simp) u8_a (by simp) ex_a).mono ?_
  rintro e w1 ⟨rfl, h1⟩
  have b1 := nextA (Below.refl _ _) h1
  clear h1
  go_wp2_with fail
  with_reducible refine (Of_is _ 3 3 _ 891568578 _ [97, 98, 99] _ (by simp) (Row.mark w1 .u8 [97, 98, 99] _ _) (by simp) u8_abc (by simp) ex_abc).mono ?_
  rintro e w2 ⟨rfl, h2⟩
  have b2 := nextA b1 h2
  clear h2 b1
  obtain ⟨w3, hrun, hown, hg3⟩ := run_make_full (P := Try.prog) w2 w2.heap.size 24 5 i0 (.int .u8 0) 1 Try.underlying24 hi hz0 hz1 .i64 .i64 4 (by rw [hz2]; omega) (by unfold maxLen; omega) (Nat.le_refl _)
  rw [show (4 : Nat) * 1 = 4 from rfl, show (Value.int .u8 0).cells = #[.int .u8 0] from rfl] at hown
  rw [made8] at hown
  have r3 := Row.own hown
  have b3 : Below w.heap.size w w3 := b2.trans (((Below.refl _ _).grown hg3 (Nat.le_refl _) (by simp)).mono b2.size)
  clear hown hg3 b2
  have hrun' : Sem.run Try.prog (Instr.makeSlice 24 (.int .i64 4) (.int .i64 4)) w2 = .ok (.slice (some ⟨w2.heap.size, 0, none⟩) 4 4) w3 := hrun
  clear hrun
  go_wp2_with fail
  have r3' : Row w3 w3.heap.size (some ⟨w2.heap.size, 0, none⟩) 4 (ints .u8 [0, 0, 0, 0]) := r3
  with_reducible refine (Of_is (some ⟨w2.heap.size, 0, none⟩) 4 4 _ 558161692 _ [0, 0, 0, 0] w3 (by simp) r3' (Nat.le_refl _) u8_0 (by simp) ex_0).mono ?_
  rintro e w4 ⟨rfl, h4⟩
  have b4 := next b3 h4
  clear h4 b3 r3 r3' hrun'
  go_wp2_with fail
  go_loopw [2] (fun i wr => ∃ k : Nat, k ≤ 40 ∧ i = .int .i64 k ∧ Below w.heap.size w wr) (fun i _ => 40 - (intOf i).toNat)
  case atStart => exact ⟨0, by omega, rfl, b4⟩
  case round =>
    obtain ⟨k, hk, rfl, hb⟩ := hrel
    rename World => ws
    by_cases hlt : k < 40
    · have hk0 : (0 : Int) ≤ (k : Int) := by omega
      have hk1 : (k : Int) < 40 := by omega
      go_wp2_with (refine wpList_make_full _ rfl (.tmp 27) (.tmp 27) 24 rfl w.heap.size 5 i0 (.int .u8 0) 1 Try.underlying24 hi hz0 hz1 .i64 .i64 _ _ k rfl rfl rfl rfl (by rw [hz2]; omega) (by unfold maxLen; omega) hb.size ?_)
      intro w6 hown hg6
      rw [made8] at hown
      have hb6 : Below w.heap.size w w6 := hb.grown hg6 hb.size (by simp)
      obtain ⟨g, hg⟩ : ∃ g, g = ws.heap.size := ⟨_, rfl⟩
      have HG := Lib.hid (And.intro hg hb.size)
      rw [← hg] at hown ⊢
      clear hg hg6 hb
      have HL0 : Hid (([] ++ List.replicate k (0 : Int)).length = k ∧ U8 ([] ++ List.replicate k (0 : Int))) := Lib.hid ⟨by simp, by intro x hx; simp at hx; omega⟩
      generalize [] ++ List.replicate k (0 : Int) = y0 at *
      go_wp2_with fail
      go_loopw [4] (fun i wr => ∃ (j : Nat) (y : List Int), j ≤ k ∧ i = .int .i64 j ∧ Hid (y.length = k ∧ U8 y) ∧ wr.ownsRow w.heap.size 5 1 (.slice (some ⟨g, 0, none⟩) k k) k (ints .u8 y) ∧ Below w.heap.size w wr) (fun i _ => k - (intOf i).toNat)
      case atStart => exact ⟨0, y0, by omega, rfl, HL0, hown, hb6⟩
      case round =>
        obtain ⟨j, y, hj, rfl, HY, hown, hb⟩ := hrel
        rename World => ws2
        by_cases hlt2 : j < k
        · have hj0 : (0 : Int) ≤ (j : Int) := by omega
          have hj1 : (j : Int) < (k : Int) := by omega
          have hcell := (hown.cellAt j (by omega)).trans (ints_get .u8 y j (by have := HY.out.1; omega))
          obtain ⟨z, hz⟩ : ∃ z, y.getD j 0 = z := ⟨_, rfl⟩
          rw [hz] at hcell
          have hfz := hown.frozenAt j
          have HOwn := Lib.hid hown
          have hjk : (j : Int) * (k : Int) ≤ 1600 := by
            have h1 := Nat.mul_le_mul (show j ≤ 40 by omega) (show k ≤ 40 by omega)
            exact_mod_cast h1
          have hjk0 : 0 ≤ (j : Int) * (k : Int) := by exact_mod_cast Nat.zero_le (j * k)
          clear hown hz
          go_wp2_with fail
          exact ⟨⟨j + 1, y.set j ((j : Int) * (k : Int) % 256), by omega, by go_num, Lib.hid ⟨by rw [List.length_set]; exact HY.out.1, u8_setI HY.out.2 (by omega) (by omega)⟩, by rw [← ints_set]; exact (HOwn.out.stored j _).1, hb.grown (row := some g) (HOwn.out.stored j _).2 hb.size (by simp; have := HG.out; omega)⟩, by simp [intOf]; omega⟩
        · have r2 := Row.own hown
          have HB := Lib.hid hb
          have HK : Hid ((k : Int) ≤ 39) := Lib.hid (by omega)
          clear hown hb
          go_wp2_with fail
          with_reducible refine (Cuts_n (some ⟨g, 0, none⟩) k k _ y ws2 r2 (Nat.le_refl _) (Nat.le_refl _) (by omega) HY.out.2).mono ?_
          rintro e w7 ⟨rfl, h7⟩
          have r7 := r2.on h7
          have b7 := next HB.out h7
          clear r2 h7
          go_wp2_with fail
          with_reducible refine (Sums_three g k (k / 2) _ y _ w7 (Eq.refl _) r7 (by omega) (by omega) HY.out.2 (by have := HK.out; omega)).mono ?_
          rintro e w8 ⟨rfl, h8⟩
          have r8 := r7.on h8
          have b8 := next b7 h8
          clear r7 h8 b7
          go_wp2_with fail
          with_reducible refine (Turned_n (some ⟨g, 0, none⟩) k k _ y _ 4294967295 w8 r8 (Nat.le_refl _) (Nat.le_refl _) (by omega) HY.out.2 (by have := HK.out; omega) (by omega)).mono ?_
          rintro e w9 ⟨rfl, h9⟩
          have b9 := next b8 h9
          clear r8 h9 b8
          go_wp2_with fail
          exact ⟨⟨k + 1, by omega, by go_num, b9⟩, by simp [intOf]; omega⟩
    · go_wp2_with fail
      with_reducible refine (awake_any ws).mono ?_
      rintro e w7 ⟨rfl, h7⟩
      have b7 := next hb h7
      clear h7
      go_wp2_with fail
      with_reducible refine (Turned_n (some ⟨w7.heap.size, 0, none⟩) 3 3 _ [1, 2, 3] 23 3681617473 _ (Row.lit _ .u8 [1, 2, 3] _) (by simp) (by omega) (by omega) u8_123 (by omega) (by omega)).mono ?_
      rintro e w8 ⟨rfl, h8⟩
      have b8 := nextA b7 h8
      clear h8 b7
      go_wp2_with fail
      with_reducible refine (Turned_n (some ⟨w8.heap.size, 0, none⟩) 3 3 _ [1, 2, 3] 23 65 _ (Row.lit _ .u8 [1, 2, 3] _) (by simp) (by omega) (by omega) u8_123 (by omega) (by omega)).mono ?_
      rintro e w9 ⟨rfl, h9⟩
      have b9 := nextA b8 h9
      clear h9 b8
      go_wp2
      go_ret
      exact ⟨rfl, b9⟩
end Go.Proofs.Ytoodchnjikkkkaa
