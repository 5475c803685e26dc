/- New's region that appends a capture. -/
import Derived.Test.YtomjdicedjdpnaaCNewS
import Derived.Shelf.RegionOpen
namespace Go.Proofs.Ytomjdicedjdpnaa
open Go.RowKit Go.Shelf

attribute [local go_sem] Oper.semAt_some

def regOf (k : Nat) : Code → Option Code
  | .region id ops d => if id = k then some (.region id ops d) else none
  | .seq a b => (regOf k a).orElse fun _ => regOf k b
  | .cond _ a b => (regOf k a).orElse fun _ => regOf k b
  | .block _ c => regOf k c
  | .loop c => regOf k c
  | .rangeFunc _ _ a b => (regOf k a).orElse fun _ => regOf k b
  | .scope c => regOf k c
  | _ => none
set_option maxRecDepth 100000 in
set_option maxHeartbeats 8000000 in
theorem cap_region (l n k : Nat) (nm V2 : ByteArray) (W Wa w1 : World) (C : Code) (hC : Try.f8.body.bind (regOf 18) = some C) (Q : Exit → Act → World → Prop)
    (a a' : Option Addr) (nn n' c c' : Nat) (hWa : W.drew.alloc (.cells #[.string nm, .string V2] 62) = Wa)
    (hrun : (Builtin.append_ #[54, 54] 54 #[.slice a nn c, .slice (some ⟨W.heap.size, 0, none⟩) 1 1]).run Try.prog Wa = .ok (.slice a' n' c') w1)
    (b1 : W.drew.cell? ⟨k + 3, 0, none⟩ = some (.pointer (some ⟨k + 2, 0, none⟩))) (b2 : Wa.cell? ⟨k + 3, 0, none⟩ = some (.pointer (some ⟨k + 2, 0, none⟩))) (b3 : w1.cell? ⟨k + 3, 0, none⟩ = some (.pointer (some ⟨k + 2, 0, none⟩)))
    (d1 : W.drew.cell? ⟨k + 2, 1, none⟩ = some (.slice a nn c)) (d2 : Wa.cell? ⟨k + 2, 1, none⟩ = some (.slice a nn c)) (d3 : w1.cell? ⟨k + 2, 1, none⟩ = some (.slice a nn c)) (d4 : w1.frozen? ⟨k + 2, 1, none⟩ = false)
    (hQ : ∀ u, Q .normal u (w1.setCell ⟨k + 2, 1, none⟩ (.slice a' n' c'))) (z0 z1 z2 z3 z5 z8 z9 z10 z11 z12 z13 z14 z15 z16 z17 z18 z19 z20 z21 z22 z23 z24 z25 z26 z27 z28 z29 z30 z31 z32 z33 z34 z35 z36 z37 z38 z39 z40 z41 z42 z43 z44 z45 z46 z47 z48 z49 z50 z51 z52 z53 z54 z55 z56 z57 z58 z59 z60 z61 z62 z63 z64 z65 z66 z67 z68 z69 z70 z71 z72 z73 : Value) :
    C.wpIn (Fence.wide.inRound l) n Try.prog Q { tmps := #[z0, z1, z2, z3, .pointer (some ⟨k + 3, 0, none⟩), z5, .string nm, .string V2, z8, z9, z10, z11, z12, z13, z14, z15, z16, z17, z18, z19, z20, z21, z22, z23, z24, z25, z26, z27, z28, z29, z30, z31, z32, z33, z34, z35, z36, z37, z38, z39, z40, z41, z42, z43, z44, z45, z46, z47, z48, z49, z50, z51, z52, z53, z54, z55, z56, z57, z58, z59, z60, z61, z62, z63, z64, z65, z66, z67, z68, z69, z70, z71, z72, z73], defers := [] } W := by
  have hmx : Try.prog.follows .mixedOrders = true := by kernel_rfl
  cases hC
  dsimp only
  refine wpIn_region_any (by assumption) ?_
  change wpAnyIn _ _ _ _ _ _ _ _ _ (World.drew _)
  generalize hR : wpAnyIn (Fence.wide.inRound l) n Try.prog Region.Mode.any (List.toArray _) Q = R
  have s_0_1_2_3_4_5_6_7_8_9_10_11 : R 1 #[true, true, true, true, true, true, true, true, true, true, true, true, false] { tmps := #[z0, z1, z2, z3, .pointer (some ⟨k + 3, 0, none⟩), z5, .string nm, .string V2, z8, z9, z10, z11, z12, z13, z14, z15, z16, z17, z18, z19, z20, z21, z22, z23, z24, z25, z26, z27, z28, z29, z30, z31, z32, z33, z34, z35, z36, z37, z38, z39, z40, z41, z42, z43, z44, z45, z46, z47, z48, z49, z50, z51, z52, z53, z54, z55, z56, z57, .pointer (some ⟨k + 2, 0, none⟩), .pointer (some ⟨k + 2, 0, none⟩), .pointer (some ⟨k + 2, 0, none⟩), .pointer (some ⟨k + 2, 1, none⟩), .slice a nn c, .string nm, .string V2, .agg #[.string nm, .string V2], .slice (some ⟨W.heap.size, 0, none⟩) 1 1, .slice a' n' c', .pointer (some ⟨k + 2, 0, none⟩), .pointer (some ⟨k + 2, 1, none⟩), z70, z71, z72, z73], defers := [] } w1 := by
    rw [← hR]
    refine wpAnyIn_ready (rs := [12]) (by kernel_rfl) (by simp) ?_
    refine AllReadyIn.cons rfl (fun K hK => ?_) ?_
    · go_simp
      refine hK _ _ ?_
      exact wpAnyIn_done (by kernel_rfl) (hQ _) _
    exact AllReadyIn.nil
  have s_0_1_2_3_4_5_6_7_8_9_10 : R 2 #[true, true, true, true, true, true, true, true, true, true, true, false, false] { tmps := #[z0, z1, z2, z3, .pointer (some ⟨k + 3, 0, none⟩), z5, .string nm, .string V2, z8, z9, z10, z11, z12, z13, z14, z15, z16, z17, z18, z19, z20, z21, z22, z23, z24, z25, z26, z27, z28, z29, z30, z31, z32, z33, z34, z35, z36, z37, z38, z39, z40, z41, z42, z43, z44, z45, z46, z47, z48, z49, z50, z51, z52, z53, z54, z55, z56, z57, .pointer (some ⟨k + 2, 0, none⟩), .pointer (some ⟨k + 2, 0, none⟩), .pointer (some ⟨k + 2, 0, none⟩), .pointer (some ⟨k + 2, 1, none⟩), .slice a nn c, .string nm, .string V2, .agg #[.string nm, .string V2], .slice (some ⟨W.heap.size, 0, none⟩) 1 1, .slice a' n' c', .pointer (some ⟨k + 2, 0, none⟩), z69, z70, z71, z72, z73], defers := [] } w1 := by
    rw [← hR]
    refine wpAnyIn_ready (rs := [11]) (by kernel_rfl) (by simp) ?_
    refine AllReadyIn.cons rfl (fun K hK => ?_) ?_
    · go_simp
      refine hK _ _ ?_
      rw [hR]; exact s_0_1_2_3_4_5_6_7_8_9_10_11
    exact AllReadyIn.nil
  have s_0_1_2_3_4_5_6_7_8_9 : R 3 #[true, true, true, true, true, true, true, true, true, true, false, false, false] { tmps := #[z0, z1, z2, z3, .pointer (some ⟨k + 3, 0, none⟩), z5, .string nm, .string V2, z8, z9, z10, z11, z12, z13, z14, z15, z16, z17, z18, z19, z20, z21, z22, z23, z24, z25, z26, z27, z28, z29, z30, z31, z32, z33, z34, z35, z36, z37, z38, z39, z40, z41, z42, z43, z44, z45, z46, z47, z48, z49, z50, z51, z52, z53, z54, z55, z56, z57, .pointer (some ⟨k + 2, 0, none⟩), .pointer (some ⟨k + 2, 0, none⟩), .pointer (some ⟨k + 2, 0, none⟩), .pointer (some ⟨k + 2, 1, none⟩), .slice a nn c, .string nm, .string V2, .agg #[.string nm, .string V2], .slice (some ⟨W.heap.size, 0, none⟩) 1 1, .slice a' n' c', z68, z69, z70, z71, z72, z73], defers := [] } w1 := by
    rw [← hR]
    refine wpAnyIn_ready (rs := [10]) (by kernel_rfl) (by simp) ?_
    refine AllReadyIn.cons rfl (fun K hK => ?_) ?_
    · go_simp
      refine hK _ _ ?_
      rw [hR]; exact s_0_1_2_3_4_5_6_7_8_9_10
    exact AllReadyIn.nil
  have s_0_1_2_3_4_5_6_7_8 : R 4 #[true, true, true, true, true, true, true, true, true, false, false, false, false] { tmps := #[z0, z1, z2, z3, .pointer (some ⟨k + 3, 0, none⟩), z5, .string nm, .string V2, z8, z9, z10, z11, z12, z13, z14, z15, z16, z17, z18, z19, z20, z21, z22, z23, z24, z25, z26, z27, z28, z29, z30, z31, z32, z33, z34, z35, z36, z37, z38, z39, z40, z41, z42, z43, z44, z45, z46, z47, z48, z49, z50, z51, z52, z53, z54, z55, z56, z57, .pointer (some ⟨k + 2, 0, none⟩), .pointer (some ⟨k + 2, 0, none⟩), .pointer (some ⟨k + 2, 0, none⟩), .pointer (some ⟨k + 2, 1, none⟩), .slice a nn c, .string nm, .string V2, .agg #[.string nm, .string V2], .slice (some ⟨W.heap.size, 0, none⟩) 1 1, z67, z68, z69, z70, z71, z72, z73], defers := [] } Wa := by
    rw [← hR]
    refine wpAnyIn_ready (rs := [9]) (by kernel_rfl) (by simp) ?_
    refine AllReadyIn.cons rfl (fun K hK => ?_) ?_
    · rw [if_pos (by kernel_rfl)]
      refine ⟨by simp [Oper.about, resolve, Target.leads, Sem.run_pure], ?_⟩
      rw [Oper.semAt_plain _ _ _ (by intro c hc'; cases hc')]
      have hs : Act.eval { tmps := #[z0, z1, z2, z3, .pointer (some ⟨k + 3, 0, none⟩), z5, .string nm, .string V2, z8, z9, z10, z11, z12, z13, z14, z15, z16, z17, z18, z19, z20, z21, z22, z23, z24, z25, z26, z27, z28, z29, z30, z31, z32, z33, z34, z35, z36, z37, z38, z39, z40, z41, z42, z43, z44, z45, z46, z47, z48, z49, z50, z51, z52, z53, z54, z55, z56, z57, .pointer (some ⟨k + 2, 0, none⟩), .pointer (some ⟨k + 2, 0, none⟩), .pointer (some ⟨k + 2, 0, none⟩), .pointer (some ⟨k + 2, 1, none⟩), .slice a nn c, .string nm, .string V2, .agg #[.string nm, .string V2], .slice (some ⟨W.heap.size, 0, none⟩) 1 1, z67, z68, z69, z70, z71, z72, z73], defers := [] } (.tmp 62) = .slice a nn c := rfl
      have hx : Act.eval { tmps := #[z0, z1, z2, z3, .pointer (some ⟨k + 3, 0, none⟩), z5, .string nm, .string V2, z8, z9, z10, z11, z12, z13, z14, z15, z16, z17, z18, z19, z20, z21, z22, z23, z24, z25, z26, z27, z28, z29, z30, z31, z32, z33, z34, z35, z36, z37, z38, z39, z40, z41, z42, z43, z44, z45, z46, z47, z48, z49, z50, z51, z52, z53, z54, z55, z56, z57, .pointer (some ⟨k + 2, 0, none⟩), .pointer (some ⟨k + 2, 0, none⟩), .pointer (some ⟨k + 2, 0, none⟩), .pointer (some ⟨k + 2, 1, none⟩), .slice a nn c, .string nm, .string V2, .agg #[.string nm, .string V2], .slice (some ⟨W.heap.size, 0, none⟩) 1 1, z67, z68, z69, z70, z71, z72, z73], defers := [] } (.tmp 66) = .slice (some ⟨W.heap.size, 0, none⟩) 1 1 := rfl
      simp [execOp, resolve, invoke, builtin, hs, hx, hrun, Result.andThen]
      refine hK _ _ ?_
      rw [hR]; exact s_0_1_2_3_4_5_6_7_8_9
    exact AllReadyIn.nil
  have s_1_2_3_4_5_6_7_8_9 : R 4 #[false, true, true, true, true, true, true, true, true, true, false, false, false] { tmps := #[z0, z1, z2, z3, .pointer (some ⟨k + 3, 0, none⟩), z5, .string nm, .string V2, z8, z9, z10, z11, z12, z13, z14, z15, z16, z17, z18, z19, z20, z21, z22, z23, z24, z25, z26, z27, z28, z29, z30, z31, z32, z33, z34, z35, z36, z37, z38, z39, z40, z41, z42, z43, z44, z45, z46, z47, z48, z49, z50, z51, z52, z53, z54, z55, z56, z57, z58, .pointer (some ⟨k + 2, 0, none⟩), .pointer (some ⟨k + 2, 0, none⟩), .pointer (some ⟨k + 2, 1, none⟩), .slice a nn c, .string nm, .string V2, .agg #[.string nm, .string V2], .slice (some ⟨W.heap.size, 0, none⟩) 1 1, .slice a' n' c', z68, z69, z70, z71, z72, z73], defers := [] } w1 := by
    rw [← hR]
    refine wpAnyIn_ready (rs := [0]) (by kernel_rfl) (by simp) ?_
    refine AllReadyIn.cons rfl (fun K hK => ?_) ?_
    · go_simp
      refine hK _ _ ?_
      rw [hR]; exact s_0_1_2_3_4_5_6_7_8_9
    exact AllReadyIn.nil
  have s_0_1_2_3_4_5_6_7 : R 5 #[true, true, true, true, true, true, true, true, false, false, false, false, false] { tmps := #[z0, z1, z2, z3, .pointer (some ⟨k + 3, 0, none⟩), z5, .string nm, .string V2, z8, z9, z10, z11, z12, z13, z14, z15, z16, z17, z18, z19, z20, z21, z22, z23, z24, z25, z26, z27, z28, z29, z30, z31, z32, z33, z34, z35, z36, z37, z38, z39, z40, z41, z42, z43, z44, z45, z46, z47, z48, z49, z50, z51, z52, z53, z54, z55, z56, z57, .pointer (some ⟨k + 2, 0, none⟩), .pointer (some ⟨k + 2, 0, none⟩), .pointer (some ⟨k + 2, 0, none⟩), .pointer (some ⟨k + 2, 1, none⟩), .slice a nn c, .string nm, .string V2, .agg #[.string nm, .string V2], z66, z67, z68, z69, z70, z71, z72, z73], defers := [] } W.drew := by
    rw [← hR]
    refine wpAnyIn_ready (rs := [8]) (by kernel_rfl) (by simp) ?_
    refine AllReadyIn.cons rfl (fun K hK => ?_) ?_
    · go_simp
      refine hK _ _ ?_
      rw [hR]; exact s_0_1_2_3_4_5_6_7_8
    exact AllReadyIn.nil
  have s_0_1_2_3_5_6_7_8 : R 5 #[true, true, true, true, false, true, true, true, true, false, false, false, false] { tmps := #[z0, z1, z2, z3, .pointer (some ⟨k + 3, 0, none⟩), z5, .string nm, .string V2, z8, z9, z10, z11, z12, z13, z14, z15, z16, z17, z18, z19, z20, z21, z22, z23, z24, z25, z26, z27, z28, z29, z30, z31, z32, z33, z34, z35, z36, z37, z38, z39, z40, z41, z42, z43, z44, z45, z46, z47, z48, z49, z50, z51, z52, z53, z54, z55, z56, z57, .pointer (some ⟨k + 2, 0, none⟩), .pointer (some ⟨k + 2, 0, none⟩), .pointer (some ⟨k + 2, 0, none⟩), .pointer (some ⟨k + 2, 1, none⟩), z62, .string nm, .string V2, .agg #[.string nm, .string V2], .slice (some ⟨W.heap.size, 0, none⟩) 1 1, z67, z68, z69, z70, z71, z72, z73], defers := [] } Wa := by
    rw [← hR]
    refine wpAnyIn_ready (rs := [4]) (by kernel_rfl) (by simp) ?_
    refine AllReadyIn.cons rfl (fun K hK => ?_) ?_
    · go_simp
      refine hK _ _ ?_
      rw [hR]; exact s_0_1_2_3_4_5_6_7_8
    exact AllReadyIn.nil
  have s_1_2_3_4_5_6_7_8 : R 5 #[false, true, true, true, true, true, true, true, true, false, false, false, false] { tmps := #[z0, z1, z2, z3, .pointer (some ⟨k + 3, 0, none⟩), z5, .string nm, .string V2, z8, z9, z10, z11, z12, z13, z14, z15, z16, z17, z18, z19, z20, z21, z22, z23, z24, z25, z26, z27, z28, z29, z30, z31, z32, z33, z34, z35, z36, z37, z38, z39, z40, z41, z42, z43, z44, z45, z46, z47, z48, z49, z50, z51, z52, z53, z54, z55, z56, z57, z58, .pointer (some ⟨k + 2, 0, none⟩), .pointer (some ⟨k + 2, 0, none⟩), .pointer (some ⟨k + 2, 1, none⟩), .slice a nn c, .string nm, .string V2, .agg #[.string nm, .string V2], .slice (some ⟨W.heap.size, 0, none⟩) 1 1, z67, z68, z69, z70, z71, z72, z73], defers := [] } Wa := by
    rw [← hR]
    refine wpAnyIn_ready (rs := [0, 9]) (by kernel_rfl) (by simp) ?_
    refine AllReadyIn.cons rfl (fun K hK => ?_) ?_
    · go_simp
      refine hK _ _ ?_
      rw [hR]; exact s_0_1_2_3_4_5_6_7_8
    refine AllReadyIn.cons rfl (fun K hK => ?_) ?_
    · rw [if_pos (by kernel_rfl)]
      refine ⟨by simp [Oper.about, resolve, Target.leads, Sem.run_pure], ?_⟩
      rw [Oper.semAt_plain _ _ _ (by intro c hc'; cases hc')]
      have hs : Act.eval { tmps := #[z0, z1, z2, z3, .pointer (some ⟨k + 3, 0, none⟩), z5, .string nm, .string V2, z8, z9, z10, z11, z12, z13, z14, z15, z16, z17, z18, z19, z20, z21, z22, z23, z24, z25, z26, z27, z28, z29, z30, z31, z32, z33, z34, z35, z36, z37, z38, z39, z40, z41, z42, z43, z44, z45, z46, z47, z48, z49, z50, z51, z52, z53, z54, z55, z56, z57, z58, .pointer (some ⟨k + 2, 0, none⟩), .pointer (some ⟨k + 2, 0, none⟩), .pointer (some ⟨k + 2, 1, none⟩), .slice a nn c, .string nm, .string V2, .agg #[.string nm, .string V2], .slice (some ⟨W.heap.size, 0, none⟩) 1 1, z67, z68, z69, z70, z71, z72, z73], defers := [] } (.tmp 62) = .slice a nn c := rfl
      have hx : Act.eval { tmps := #[z0, z1, z2, z3, .pointer (some ⟨k + 3, 0, none⟩), z5, .string nm, .string V2, z8, z9, z10, z11, z12, z13, z14, z15, z16, z17, z18, z19, z20, z21, z22, z23, z24, z25, z26, z27, z28, z29, z30, z31, z32, z33, z34, z35, z36, z37, z38, z39, z40, z41, z42, z43, z44, z45, z46, z47, z48, z49, z50, z51, z52, z53, z54, z55, z56, z57, z58, .pointer (some ⟨k + 2, 0, none⟩), .pointer (some ⟨k + 2, 0, none⟩), .pointer (some ⟨k + 2, 1, none⟩), .slice a nn c, .string nm, .string V2, .agg #[.string nm, .string V2], .slice (some ⟨W.heap.size, 0, none⟩) 1 1, z67, z68, z69, z70, z71, z72, z73], defers := [] } (.tmp 66) = .slice (some ⟨W.heap.size, 0, none⟩) 1 1 := rfl
      simp [execOp, resolve, invoke, builtin, hs, hx, hrun, Result.andThen]
      refine hK _ _ ?_
      rw [hR]; exact s_1_2_3_4_5_6_7_8_9
    exact AllReadyIn.nil
  have s_0_1_2_3_4_5_6 : R 6 #[true, true, true, true, true, true, true, false, false, false, false, false, false] { tmps := #[z0, z1, z2, z3, .pointer (some ⟨k + 3, 0, none⟩), z5, .string nm, .string V2, z8, z9, z10, z11, z12, z13, z14, z15, z16, z17, z18, z19, z20, z21, z22, z23, z24, z25, z26, z27, z28, z29, z30, z31, z32, z33, z34, z35, z36, z37, z38, z39, z40, z41, z42, z43, z44, z45, z46, z47, z48, z49, z50, z51, z52, z53, z54, z55, z56, z57, .pointer (some ⟨k + 2, 0, none⟩), .pointer (some ⟨k + 2, 0, none⟩), .pointer (some ⟨k + 2, 0, none⟩), .pointer (some ⟨k + 2, 1, none⟩), .slice a nn c, .string nm, .string V2, z65, z66, z67, z68, z69, z70, z71, z72, z73], defers := [] } W.drew := by
    rw [← hR]
    refine wpAnyIn_ready (rs := [7]) (by kernel_rfl) (by simp) ?_
    refine AllReadyIn.cons rfl (fun K hK => ?_) ?_
    · go_simp
      refine hK _ _ ?_
      rw [hR]; exact s_0_1_2_3_4_5_6_7
    exact AllReadyIn.nil
  have s_0_1_2_3_5_6_7 : R 6 #[true, true, true, true, false, true, true, true, false, false, false, false, false] { tmps := #[z0, z1, z2, z3, .pointer (some ⟨k + 3, 0, none⟩), z5, .string nm, .string V2, z8, z9, z10, z11, z12, z13, z14, z15, z16, z17, z18, z19, z20, z21, z22, z23, z24, z25, z26, z27, z28, z29, z30, z31, z32, z33, z34, z35, z36, z37, z38, z39, z40, z41, z42, z43, z44, z45, z46, z47, z48, z49, z50, z51, z52, z53, z54, z55, z56, z57, .pointer (some ⟨k + 2, 0, none⟩), .pointer (some ⟨k + 2, 0, none⟩), .pointer (some ⟨k + 2, 0, none⟩), .pointer (some ⟨k + 2, 1, none⟩), z62, .string nm, .string V2, .agg #[.string nm, .string V2], z66, z67, z68, z69, z70, z71, z72, z73], defers := [] } W.drew := by
    rw [← hR]
    refine wpAnyIn_ready (rs := [4, 8]) (by kernel_rfl) (by simp) ?_
    refine AllReadyIn.cons rfl (fun K hK => ?_) ?_
    · go_simp
      refine hK _ _ ?_
      rw [hR]; exact s_0_1_2_3_4_5_6_7
    refine AllReadyIn.cons rfl (fun K hK => ?_) ?_
    · go_simp
      refine hK _ _ ?_
      rw [hR]; exact s_0_1_2_3_5_6_7_8
    exact AllReadyIn.nil
  have s_0_1_2_5_6_7_8 : R 6 #[true, true, true, false, false, true, true, true, true, false, false, false, false] { tmps := #[z0, z1, z2, z3, .pointer (some ⟨k + 3, 0, none⟩), z5, .string nm, .string V2, z8, z9, z10, z11, z12, z13, z14, z15, z16, z17, z18, z19, z20, z21, z22, z23, z24, z25, z26, z27, z28, z29, z30, z31, z32, z33, z34, z35, z36, z37, z38, z39, z40, z41, z42, z43, z44, z45, z46, z47, z48, z49, z50, z51, z52, z53, z54, z55, z56, z57, .pointer (some ⟨k + 2, 0, none⟩), .pointer (some ⟨k + 2, 0, none⟩), .pointer (some ⟨k + 2, 0, none⟩), z61, z62, .string nm, .string V2, .agg #[.string nm, .string V2], .slice (some ⟨W.heap.size, 0, none⟩) 1 1, z67, z68, z69, z70, z71, z72, z73], defers := [] } Wa := by
    rw [← hR]
    refine wpAnyIn_ready (rs := [3]) (by kernel_rfl) (by simp) ?_
    refine AllReadyIn.cons rfl (fun K hK => ?_) ?_
    · go_simp
      refine hK _ _ ?_
      rw [hR]; exact s_0_1_2_3_5_6_7_8
    exact AllReadyIn.nil
  have s_1_2_3_4_5_6_7 : R 6 #[false, true, true, true, true, true, true, true, false, false, false, false, false] { tmps := #[z0, z1, z2, z3, .pointer (some ⟨k + 3, 0, none⟩), z5, .string nm, .string V2, z8, z9, z10, z11, z12, z13, z14, z15, z16, z17, z18, z19, z20, z21, z22, z23, z24, z25, z26, z27, z28, z29, z30, z31, z32, z33, z34, z35, z36, z37, z38, z39, z40, z41, z42, z43, z44, z45, z46, z47, z48, z49, z50, z51, z52, z53, z54, z55, z56, z57, z58, .pointer (some ⟨k + 2, 0, none⟩), .pointer (some ⟨k + 2, 0, none⟩), .pointer (some ⟨k + 2, 1, none⟩), .slice a nn c, .string nm, .string V2, .agg #[.string nm, .string V2], z66, z67, z68, z69, z70, z71, z72, z73], defers := [] } W.drew := by
    rw [← hR]
    refine wpAnyIn_ready (rs := [0, 8]) (by kernel_rfl) (by simp) ?_
    refine AllReadyIn.cons rfl (fun K hK => ?_) ?_
    · go_simp
      refine hK _ _ ?_
      rw [hR]; exact s_0_1_2_3_4_5_6_7
    refine AllReadyIn.cons rfl (fun K hK => ?_) ?_
    · go_simp
      refine hK _ _ ?_
      rw [hR]; exact s_1_2_3_4_5_6_7_8
    exact AllReadyIn.nil
  have s_1_2_3_5_6_7_8 : R 6 #[false, true, true, true, false, true, true, true, true, false, false, false, false] { tmps := #[z0, z1, z2, z3, .pointer (some ⟨k + 3, 0, none⟩), z5, .string nm, .string V2, z8, z9, z10, z11, z12, z13, z14, z15, z16, z17, z18, z19, z20, z21, z22, z23, z24, z25, z26, z27, z28, z29, z30, z31, z32, z33, z34, z35, z36, z37, z38, z39, z40, z41, z42, z43, z44, z45, z46, z47, z48, z49, z50, z51, z52, z53, z54, z55, z56, z57, z58, .pointer (some ⟨k + 2, 0, none⟩), .pointer (some ⟨k + 2, 0, none⟩), .pointer (some ⟨k + 2, 1, none⟩), z62, .string nm, .string V2, .agg #[.string nm, .string V2], .slice (some ⟨W.heap.size, 0, none⟩) 1 1, z67, z68, z69, z70, z71, z72, z73], defers := [] } Wa := by
    rw [← hR]
    refine wpAnyIn_ready (rs := [0, 4]) (by kernel_rfl) (by simp) ?_
    refine AllReadyIn.cons rfl (fun K hK => ?_) ?_
    · go_simp
      refine hK _ _ ?_
      rw [hR]; exact s_0_1_2_3_5_6_7_8
    refine AllReadyIn.cons rfl (fun K hK => ?_) ?_
    · go_simp
      refine hK _ _ ?_
      rw [hR]; exact s_1_2_3_4_5_6_7_8
    exact AllReadyIn.nil
  have s_0_1_2_3_4_5 : R 7 #[true, true, true, true, true, true, false, false, false, false, false, false, false] { tmps := #[z0, z1, z2, z3, .pointer (some ⟨k + 3, 0, none⟩), z5, .string nm, .string V2, z8, z9, z10, z11, z12, z13, z14, z15, z16, z17, z18, z19, z20, z21, z22, z23, z24, z25, z26, z27, z28, z29, z30, z31, z32, z33, z34, z35, z36, z37, z38, z39, z40, z41, z42, z43, z44, z45, z46, z47, z48, z49, z50, z51, z52, z53, z54, z55, z56, z57, .pointer (some ⟨k + 2, 0, none⟩), .pointer (some ⟨k + 2, 0, none⟩), .pointer (some ⟨k + 2, 0, none⟩), .pointer (some ⟨k + 2, 1, none⟩), .slice a nn c, .string nm, z64, z65, z66, z67, z68, z69, z70, z71, z72, z73], defers := [] } W.drew := by
    rw [← hR]
    refine wpAnyIn_ready (rs := [6]) (by kernel_rfl) (by simp) ?_
    refine AllReadyIn.cons rfl (fun K hK => ?_) ?_
    · go_simp
      refine hK _ _ ?_
      rw [hR]; exact s_0_1_2_3_4_5_6
    exact AllReadyIn.nil
  have s_0_1_2_3_4_6 : R 7 #[true, true, true, true, true, false, true, false, false, false, false, false, false] { tmps := #[z0, z1, z2, z3, .pointer (some ⟨k + 3, 0, none⟩), z5, .string nm, .string V2, z8, z9, z10, z11, z12, z13, z14, z15, z16, z17, z18, z19, z20, z21, z22, z23, z24, z25, z26, z27, z28, z29, z30, z31, z32, z33, z34, z35, z36, z37, z38, z39, z40, z41, z42, z43, z44, z45, z46, z47, z48, z49, z50, z51, z52, z53, z54, z55, z56, z57, .pointer (some ⟨k + 2, 0, none⟩), .pointer (some ⟨k + 2, 0, none⟩), .pointer (some ⟨k + 2, 0, none⟩), .pointer (some ⟨k + 2, 1, none⟩), .slice a nn c, z63, .string V2, z65, z66, z67, z68, z69, z70, z71, z72, z73], defers := [] } W.drew := by
    rw [← hR]
    refine wpAnyIn_ready (rs := [5]) (by kernel_rfl) (by simp) ?_
    refine AllReadyIn.cons rfl (fun K hK => ?_) ?_
    · go_simp
      refine hK _ _ ?_
      rw [hR]; exact s_0_1_2_3_4_5_6
    exact AllReadyIn.nil
  have s_0_1_2_3_5_6 : R 7 #[true, true, true, true, false, true, true, false, false, false, false, false, false] { tmps := #[z0, z1, z2, z3, .pointer (some ⟨k + 3, 0, none⟩), z5, .string nm, .string V2, z8, z9, z10, z11, z12, z13, z14, z15, z16, z17, z18, z19, z20, z21, z22, z23, z24, z25, z26, z27, z28, z29, z30, z31, z32, z33, z34, z35, z36, z37, z38, z39, z40, z41, z42, z43, z44, z45, z46, z47, z48, z49, z50, z51, z52, z53, z54, z55, z56, z57, .pointer (some ⟨k + 2, 0, none⟩), .pointer (some ⟨k + 2, 0, none⟩), .pointer (some ⟨k + 2, 0, none⟩), .pointer (some ⟨k + 2, 1, none⟩), z62, .string nm, .string V2, z65, z66, z67, z68, z69, z70, z71, z72, z73], defers := [] } W.drew := by
    rw [← hR]
    refine wpAnyIn_ready (rs := [4, 7]) (by kernel_rfl) (by simp) ?_
    refine AllReadyIn.cons rfl (fun K hK => ?_) ?_
    · go_simp
      refine hK _ _ ?_
      rw [hR]; exact s_0_1_2_3_4_5_6
    refine AllReadyIn.cons rfl (fun K hK => ?_) ?_
    · go_simp
      refine hK _ _ ?_
      rw [hR]; exact s_0_1_2_3_5_6_7
    exact AllReadyIn.nil
  have s_0_1_2_5_6_7 : R 7 #[true, true, true, false, false, true, true, true, false, false, false, false, false] { tmps := #[z0, z1, z2, z3, .pointer (some ⟨k + 3, 0, none⟩), z5, .string nm, .string V2, z8, z9, z10, z11, z12, z13, z14, z15, z16, z17, z18, z19, z20, z21, z22, z23, z24, z25, z26, z27, z28, z29, z30, z31, z32, z33, z34, z35, z36, z37, z38, z39, z40, z41, z42, z43, z44, z45, z46, z47, z48, z49, z50, z51, z52, z53, z54, z55, z56, z57, .pointer (some ⟨k + 2, 0, none⟩), .pointer (some ⟨k + 2, 0, none⟩), .pointer (some ⟨k + 2, 0, none⟩), z61, z62, .string nm, .string V2, .agg #[.string nm, .string V2], z66, z67, z68, z69, z70, z71, z72, z73], defers := [] } W.drew := by
    rw [← hR]
    refine wpAnyIn_ready (rs := [3, 8]) (by kernel_rfl) (by simp) ?_
    refine AllReadyIn.cons rfl (fun K hK => ?_) ?_
    · go_simp
      refine hK _ _ ?_
      rw [hR]; exact s_0_1_2_3_5_6_7
    refine AllReadyIn.cons rfl (fun K hK => ?_) ?_
    · go_simp
      refine hK _ _ ?_
      rw [hR]; exact s_0_1_2_5_6_7_8
    exact AllReadyIn.nil
  have s_0_1_5_6_7_8 : R 7 #[true, true, false, false, false, true, true, true, true, false, false, false, false] { tmps := #[z0, z1, z2, z3, .pointer (some ⟨k + 3, 0, none⟩), z5, .string nm, .string V2, z8, z9, z10, z11, z12, z13, z14, z15, z16, z17, z18, z19, z20, z21, z22, z23, z24, z25, z26, z27, z28, z29, z30, z31, z32, z33, z34, z35, z36, z37, z38, z39, z40, z41, z42, z43, z44, z45, z46, z47, z48, z49, z50, z51, z52, z53, z54, z55, z56, z57, .pointer (some ⟨k + 2, 0, none⟩), .pointer (some ⟨k + 2, 0, none⟩), z60, z61, z62, .string nm, .string V2, .agg #[.string nm, .string V2], .slice (some ⟨W.heap.size, 0, none⟩) 1 1, z67, z68, z69, z70, z71, z72, z73], defers := [] } Wa := by
    rw [← hR]
    refine wpAnyIn_ready (rs := [2]) (by kernel_rfl) (by simp) ?_
    refine AllReadyIn.cons rfl (fun K hK => ?_) ?_
    · go_simp
      refine hK _ _ ?_
      rw [hR]; exact s_0_1_2_5_6_7_8
    exact AllReadyIn.nil
  have s_1_2_3_4_5_6 : R 7 #[false, true, true, true, true, true, true, false, false, false, false, false, false] { tmps := #[z0, z1, z2, z3, .pointer (some ⟨k + 3, 0, none⟩), z5, .string nm, .string V2, z8, z9, z10, z11, z12, z13, z14, z15, z16, z17, z18, z19, z20, z21, z22, z23, z24, z25, z26, z27, z28, z29, z30, z31, z32, z33, z34, z35, z36, z37, z38, z39, z40, z41, z42, z43, z44, z45, z46, z47, z48, z49, z50, z51, z52, z53, z54, z55, z56, z57, z58, .pointer (some ⟨k + 2, 0, none⟩), .pointer (some ⟨k + 2, 0, none⟩), .pointer (some ⟨k + 2, 1, none⟩), .slice a nn c, .string nm, .string V2, z65, z66, z67, z68, z69, z70, z71, z72, z73], defers := [] } W.drew := by
    rw [← hR]
    refine wpAnyIn_ready (rs := [0, 7]) (by kernel_rfl) (by simp) ?_
    refine AllReadyIn.cons rfl (fun K hK => ?_) ?_
    · go_simp
      refine hK _ _ ?_
      rw [hR]; exact s_0_1_2_3_4_5_6
    refine AllReadyIn.cons rfl (fun K hK => ?_) ?_
    · go_simp
      refine hK _ _ ?_
      rw [hR]; exact s_1_2_3_4_5_6_7
    exact AllReadyIn.nil
  have s_1_2_3_5_6_7 : R 7 #[false, true, true, true, false, true, true, true, false, false, false, false, false] { tmps := #[z0, z1, z2, z3, .pointer (some ⟨k + 3, 0, none⟩), z5, .string nm, .string V2, z8, z9, z10, z11, z12, z13, z14, z15, z16, z17, z18, z19, z20, z21, z22, z23, z24, z25, z26, z27, z28, z29, z30, z31, z32, z33, z34, z35, z36, z37, z38, z39, z40, z41, z42, z43, z44, z45, z46, z47, z48, z49, z50, z51, z52, z53, z54, z55, z56, z57, z58, .pointer (some ⟨k + 2, 0, none⟩), .pointer (some ⟨k + 2, 0, none⟩), .pointer (some ⟨k + 2, 1, none⟩), z62, .string nm, .string V2, .agg #[.string nm, .string V2], z66, z67, z68, z69, z70, z71, z72, z73], defers := [] } W.drew := by
    rw [← hR]
    refine wpAnyIn_ready (rs := [0, 4, 8]) (by kernel_rfl) (by simp) ?_
    refine AllReadyIn.cons rfl (fun K hK => ?_) ?_
    · go_simp
      refine hK _ _ ?_
      rw [hR]; exact s_0_1_2_3_5_6_7
    refine AllReadyIn.cons rfl (fun K hK => ?_) ?_
    · go_simp
      refine hK _ _ ?_
      rw [hR]; exact s_1_2_3_4_5_6_7
    refine AllReadyIn.cons rfl (fun K hK => ?_) ?_
    · go_simp
      refine hK _ _ ?_
      rw [hR]; exact s_1_2_3_5_6_7_8
    exact AllReadyIn.nil
  have s_1_2_5_6_7_8 : R 7 #[false, true, true, false, false, true, true, true, true, false, false, false, false] { tmps := #[z0, z1, z2, z3, .pointer (some ⟨k + 3, 0, none⟩), z5, .string nm, .string V2, z8, z9, z10, z11, z12, z13, z14, z15, z16, z17, z18, z19, z20, z21, z22, z23, z24, z25, z26, z27, z28, z29, z30, z31, z32, z33, z34, z35, z36, z37, z38, z39, z40, z41, z42, z43, z44, z45, z46, z47, z48, z49, z50, z51, z52, z53, z54, z55, z56, z57, z58, .pointer (some ⟨k + 2, 0, none⟩), .pointer (some ⟨k + 2, 0, none⟩), z61, z62, .string nm, .string V2, .agg #[.string nm, .string V2], .slice (some ⟨W.heap.size, 0, none⟩) 1 1, z67, z68, z69, z70, z71, z72, z73], defers := [] } Wa := by
    rw [← hR]
    refine wpAnyIn_ready (rs := [0, 3]) (by kernel_rfl) (by simp) ?_
    refine AllReadyIn.cons rfl (fun K hK => ?_) ?_
    · go_simp
      refine hK _ _ ?_
      rw [hR]; exact s_0_1_2_5_6_7_8
    refine AllReadyIn.cons rfl (fun K hK => ?_) ?_
    · go_simp
      refine hK _ _ ?_
      rw [hR]; exact s_1_2_3_5_6_7_8
    exact AllReadyIn.nil
  have s_0_1_2_3_4 : R 8 #[true, true, true, true, true, false, false, false, false, false, false, false, false] { tmps := #[z0, z1, z2, z3, .pointer (some ⟨k + 3, 0, none⟩), z5, .string nm, .string V2, z8, z9, z10, z11, z12, z13, z14, z15, z16, z17, z18, z19, z20, z21, z22, z23, z24, z25, z26, z27, z28, z29, z30, z31, z32, z33, z34, z35, z36, z37, z38, z39, z40, z41, z42, z43, z44, z45, z46, z47, z48, z49, z50, z51, z52, z53, z54, z55, z56, z57, .pointer (some ⟨k + 2, 0, none⟩), .pointer (some ⟨k + 2, 0, none⟩), .pointer (some ⟨k + 2, 0, none⟩), .pointer (some ⟨k + 2, 1, none⟩), .slice a nn c, z63, z64, z65, z66, z67, z68, z69, z70, z71, z72, z73], defers := [] } W.drew := by
    rw [← hR]
    refine wpAnyIn_ready (rs := [5, 6]) (by kernel_rfl) (by simp) ?_
    refine AllReadyIn.cons rfl (fun K hK => ?_) ?_
    · go_simp
      refine hK _ _ ?_
      rw [hR]; exact s_0_1_2_3_4_5
    refine AllReadyIn.cons rfl (fun K hK => ?_) ?_
    · go_simp
      refine hK _ _ ?_
      rw [hR]; exact s_0_1_2_3_4_6
    exact AllReadyIn.nil
  have s_0_1_2_3_5 : R 8 #[true, true, true, true, false, true, false, false, false, false, false, false, false] { tmps := #[z0, z1, z2, z3, .pointer (some ⟨k + 3, 0, none⟩), z5, .string nm, .string V2, z8, z9, z10, z11, z12, z13, z14, z15, z16, z17, z18, z19, z20, z21, z22, z23, z24, z25, z26, z27, z28, z29, z30, z31, z32, z33, z34, z35, z36, z37, z38, z39, z40, z41, z42, z43, z44, z45, z46, z47, z48, z49, z50, z51, z52, z53, z54, z55, z56, z57, .pointer (some ⟨k + 2, 0, none⟩), .pointer (some ⟨k + 2, 0, none⟩), .pointer (some ⟨k + 2, 0, none⟩), .pointer (some ⟨k + 2, 1, none⟩), z62, .string nm, z64, z65, z66, z67, z68, z69, z70, z71, z72, z73], defers := [] } W.drew := by
    rw [← hR]
    refine wpAnyIn_ready (rs := [4, 6]) (by kernel_rfl) (by simp) ?_
    refine AllReadyIn.cons rfl (fun K hK => ?_) ?_
    · go_simp
      refine hK _ _ ?_
      rw [hR]; exact s_0_1_2_3_4_5
    refine AllReadyIn.cons rfl (fun K hK => ?_) ?_
    · go_simp
      refine hK _ _ ?_
      rw [hR]; exact s_0_1_2_3_5_6
    exact AllReadyIn.nil
  have s_0_1_2_3_6 : R 8 #[true, true, true, true, false, false, true, false, false, false, false, false, false] { tmps := #[z0, z1, z2, z3, .pointer (some ⟨k + 3, 0, none⟩), z5, .string nm, .string V2, z8, z9, z10, z11, z12, z13, z14, z15, z16, z17, z18, z19, z20, z21, z22, z23, z24, z25, z26, z27, z28, z29, z30, z31, z32, z33, z34, z35, z36, z37, z38, z39, z40, z41, z42, z43, z44, z45, z46, z47, z48, z49, z50, z51, z52, z53, z54, z55, z56, z57, .pointer (some ⟨k + 2, 0, none⟩), .pointer (some ⟨k + 2, 0, none⟩), .pointer (some ⟨k + 2, 0, none⟩), .pointer (some ⟨k + 2, 1, none⟩), z62, z63, .string V2, z65, z66, z67, z68, z69, z70, z71, z72, z73], defers := [] } W.drew := by
    rw [← hR]
    refine wpAnyIn_ready (rs := [4, 5]) (by kernel_rfl) (by simp) ?_
    refine AllReadyIn.cons rfl (fun K hK => ?_) ?_
    · go_simp
      refine hK _ _ ?_
      rw [hR]; exact s_0_1_2_3_4_6
    refine AllReadyIn.cons rfl (fun K hK => ?_) ?_
    · go_simp
      refine hK _ _ ?_
      rw [hR]; exact s_0_1_2_3_5_6
    exact AllReadyIn.nil
  have s_0_1_2_5_6 : R 8 #[true, true, true, false, false, true, true, false, false, false, false, false, false] { tmps := #[z0, z1, z2, z3, .pointer (some ⟨k + 3, 0, none⟩), z5, .string nm, .string V2, z8, z9, z10, z11, z12, z13, z14, z15, z16, z17, z18, z19, z20, z21, z22, z23, z24, z25, z26, z27, z28, z29, z30, z31, z32, z33, z34, z35, z36, z37, z38, z39, z40, z41, z42, z43, z44, z45, z46, z47, z48, z49, z50, z51, z52, z53, z54, z55, z56, z57, .pointer (some ⟨k + 2, 0, none⟩), .pointer (some ⟨k + 2, 0, none⟩), .pointer (some ⟨k + 2, 0, none⟩), z61, z62, .string nm, .string V2, z65, z66, z67, z68, z69, z70, z71, z72, z73], defers := [] } W.drew := by
    rw [← hR]
    refine wpAnyIn_ready (rs := [3, 7]) (by kernel_rfl) (by simp) ?_
    refine AllReadyIn.cons rfl (fun K hK => ?_) ?_
    · go_simp
      refine hK _ _ ?_
      rw [hR]; exact s_0_1_2_3_5_6
    refine AllReadyIn.cons rfl (fun K hK => ?_) ?_
    · go_simp
      refine hK _ _ ?_
      rw [hR]; exact s_0_1_2_5_6_7
    exact AllReadyIn.nil
  have s_0_1_5_6_7 : R 8 #[true, true, false, false, false, true, true, true, false, false, false, false, false] { tmps := #[z0, z1, z2, z3, .pointer (some ⟨k + 3, 0, none⟩), z5, .string nm, .string V2, z8, z9, z10, z11, z12, z13, z14, z15, z16, z17, z18, z19, z20, z21, z22, z23, z24, z25, z26, z27, z28, z29, z30, z31, z32, z33, z34, z35, z36, z37, z38, z39, z40, z41, z42, z43, z44, z45, z46, z47, z48, z49, z50, z51, z52, z53, z54, z55, z56, z57, .pointer (some ⟨k + 2, 0, none⟩), .pointer (some ⟨k + 2, 0, none⟩), z60, z61, z62, .string nm, .string V2, .agg #[.string nm, .string V2], z66, z67, z68, z69, z70, z71, z72, z73], defers := [] } W.drew := by
    rw [← hR]
    refine wpAnyIn_ready (rs := [2, 8]) (by kernel_rfl) (by simp) ?_
    refine AllReadyIn.cons rfl (fun K hK => ?_) ?_
    · go_simp
      refine hK _ _ ?_
      rw [hR]; exact s_0_1_2_5_6_7
    refine AllReadyIn.cons rfl (fun K hK => ?_) ?_
    · go_simp
      refine hK _ _ ?_
      rw [hR]; exact s_0_1_5_6_7_8
    exact AllReadyIn.nil
  have s_0_5_6_7_8 : R 8 #[true, false, false, false, false, true, true, true, true, false, false, false, false] { tmps := #[z0, z1, z2, z3, .pointer (some ⟨k + 3, 0, none⟩), z5, .string nm, .string V2, z8, z9, z10, z11, z12, z13, z14, z15, z16, z17, z18, z19, z20, z21, z22, z23, z24, z25, z26, z27, z28, z29, z30, z31, z32, z33, z34, z35, z36, z37, z38, z39, z40, z41, z42, z43, z44, z45, z46, z47, z48, z49, z50, z51, z52, z53, z54, z55, z56, z57, .pointer (some ⟨k + 2, 0, none⟩), z59, z60, z61, z62, .string nm, .string V2, .agg #[.string nm, .string V2], .slice (some ⟨W.heap.size, 0, none⟩) 1 1, z67, z68, z69, z70, z71, z72, z73], defers := [] } Wa := by
    rw [← hR]
    refine wpAnyIn_ready (rs := [1]) (by kernel_rfl) (by simp) ?_
    refine AllReadyIn.cons rfl (fun K hK => ?_) ?_
    · go_simp
      refine hK _ _ ?_
      rw [hR]; exact s_0_1_5_6_7_8
    exact AllReadyIn.nil
  have s_1_2_3_4_5 : R 8 #[false, true, true, true, true, true, false, false, false, false, false, false, false] { tmps := #[z0, z1, z2, z3, .pointer (some ⟨k + 3, 0, none⟩), z5, .string nm, .string V2, z8, z9, z10, z11, z12, z13, z14, z15, z16, z17, z18, z19, z20, z21, z22, z23, z24, z25, z26, z27, z28, z29, z30, z31, z32, z33, z34, z35, z36, z37, z38, z39, z40, z41, z42, z43, z44, z45, z46, z47, z48, z49, z50, z51, z52, z53, z54, z55, z56, z57, z58, .pointer (some ⟨k + 2, 0, none⟩), .pointer (some ⟨k + 2, 0, none⟩), .pointer (some ⟨k + 2, 1, none⟩), .slice a nn c, .string nm, z64, z65, z66, z67, z68, z69, z70, z71, z72, z73], defers := [] } W.drew := by
    rw [← hR]
    refine wpAnyIn_ready (rs := [0, 6]) (by kernel_rfl) (by simp) ?_
    refine AllReadyIn.cons rfl (fun K hK => ?_) ?_
    · go_simp
      refine hK _ _ ?_
      rw [hR]; exact s_0_1_2_3_4_5
    refine AllReadyIn.cons rfl (fun K hK => ?_) ?_
    · go_simp
      refine hK _ _ ?_
      rw [hR]; exact s_1_2_3_4_5_6
    exact AllReadyIn.nil
  have s_1_2_3_4_6 : R 8 #[false, true, true, true, true, false, true, false, false, false, false, false, false] { tmps := #[z0, z1, z2, z3, .pointer (some ⟨k + 3, 0, none⟩), z5, .string nm, .string V2, z8, z9, z10, z11, z12, z13, z14, z15, z16, z17, z18, z19, z20, z21, z22, z23, z24, z25, z26, z27, z28, z29, z30, z31, z32, z33, z34, z35, z36, z37, z38, z39, z40, z41, z42, z43, z44, z45, z46, z47, z48, z49, z50, z51, z52, z53, z54, z55, z56, z57, z58, .pointer (some ⟨k + 2, 0, none⟩), .pointer (some ⟨k + 2, 0, none⟩), .pointer (some ⟨k + 2, 1, none⟩), .slice a nn c, z63, .string V2, z65, z66, z67, z68, z69, z70, z71, z72, z73], defers := [] } W.drew := by
    rw [← hR]
    refine wpAnyIn_ready (rs := [0, 5]) (by kernel_rfl) (by simp) ?_
    refine AllReadyIn.cons rfl (fun K hK => ?_) ?_
    · go_simp
      refine hK _ _ ?_
      rw [hR]; exact s_0_1_2_3_4_6
    refine AllReadyIn.cons rfl (fun K hK => ?_) ?_
    · go_simp
      refine hK _ _ ?_
      rw [hR]; exact s_1_2_3_4_5_6
    exact AllReadyIn.nil
  have s_1_2_3_5_6 : R 8 #[false, true, true, true, false, true, true, false, false, false, false, false, false] { tmps := #[z0, z1, z2, z3, .pointer (some ⟨k + 3, 0, none⟩), z5, .string nm, .string V2, z8, z9, z10, z11, z12, z13, z14, z15, z16, z17, z18, z19, z20, z21, z22, z23, z24, z25, z26, z27, z28, z29, z30, z31, z32, z33, z34, z35, z36, z37, z38, z39, z40, z41, z42, z43, z44, z45, z46, z47, z48, z49, z50, z51, z52, z53, z54, z55, z56, z57, z58, .pointer (some ⟨k + 2, 0, none⟩), .pointer (some ⟨k + 2, 0, none⟩), .pointer (some ⟨k + 2, 1, none⟩), z62, .string nm, .string V2, z65, z66, z67, z68, z69, z70, z71, z72, z73], defers := [] } W.drew := by
    rw [← hR]
    refine wpAnyIn_ready (rs := [0, 4, 7]) (by kernel_rfl) (by simp) ?_
    refine AllReadyIn.cons rfl (fun K hK => ?_) ?_
    · go_simp
      refine hK _ _ ?_
      rw [hR]; exact s_0_1_2_3_5_6
    refine AllReadyIn.cons rfl (fun K hK => ?_) ?_
    · go_simp
      refine hK _ _ ?_
      rw [hR]; exact s_1_2_3_4_5_6
    refine AllReadyIn.cons rfl (fun K hK => ?_) ?_
    · go_simp
      refine hK _ _ ?_
      rw [hR]; exact s_1_2_3_5_6_7
    exact AllReadyIn.nil
  have s_1_2_5_6_7 : R 8 #[false, true, true, false, false, true, true, true, false, false, false, false, false] { tmps := #[z0, z1, z2, z3, .pointer (some ⟨k + 3, 0, none⟩), z5, .string nm, .string V2, z8, z9, z10, z11, z12, z13, z14, z15, z16, z17, z18, z19, z20, z21, z22, z23, z24, z25, z26, z27, z28, z29, z30, z31, z32, z33, z34, z35, z36, z37, z38, z39, z40, z41, z42, z43, z44, z45, z46, z47, z48, z49, z50, z51, z52, z53, z54, z55, z56, z57, z58, .pointer (some ⟨k + 2, 0, none⟩), .pointer (some ⟨k + 2, 0, none⟩), z61, z62, .string nm, .string V2, .agg #[.string nm, .string V2], z66, z67, z68, z69, z70, z71, z72, z73], defers := [] } W.drew := by
    rw [← hR]
    refine wpAnyIn_ready (rs := [0, 3, 8]) (by kernel_rfl) (by simp) ?_
    refine AllReadyIn.cons rfl (fun K hK => ?_) ?_
    · go_simp
      refine hK _ _ ?_
      rw [hR]; exact s_0_1_2_5_6_7
    refine AllReadyIn.cons rfl (fun K hK => ?_) ?_
    · go_simp
      refine hK _ _ ?_
      rw [hR]; exact s_1_2_3_5_6_7
    refine AllReadyIn.cons rfl (fun K hK => ?_) ?_
    · go_simp
      refine hK _ _ ?_
      rw [hR]; exact s_1_2_5_6_7_8
    exact AllReadyIn.nil
  have s_1_5_6_7_8 : R 8 #[false, true, false, false, false, true, true, true, true, false, false, false, false] { tmps := #[z0, z1, z2, z3, .pointer (some ⟨k + 3, 0, none⟩), z5, .string nm, .string V2, z8, z9, z10, z11, z12, z13, z14, z15, z16, z17, z18, z19, z20, z21, z22, z23, z24, z25, z26, z27, z28, z29, z30, z31, z32, z33, z34, z35, z36, z37, z38, z39, z40, z41, z42, z43, z44, z45, z46, z47, z48, z49, z50, z51, z52, z53, z54, z55, z56, z57, z58, .pointer (some ⟨k + 2, 0, none⟩), z60, z61, z62, .string nm, .string V2, .agg #[.string nm, .string V2], .slice (some ⟨W.heap.size, 0, none⟩) 1 1, z67, z68, z69, z70, z71, z72, z73], defers := [] } Wa := by
    rw [← hR]
    refine wpAnyIn_ready (rs := [0, 2]) (by kernel_rfl) (by simp) ?_
    refine AllReadyIn.cons rfl (fun K hK => ?_) ?_
    · go_simp
      refine hK _ _ ?_
      rw [hR]; exact s_0_1_5_6_7_8
    refine AllReadyIn.cons rfl (fun K hK => ?_) ?_
    · go_simp
      refine hK _ _ ?_
      rw [hR]; exact s_1_2_5_6_7_8
    exact AllReadyIn.nil
  have s_0_1_2_3 : R 9 #[true, true, true, true, false, false, false, false, false, false, false, false, false] { tmps := #[z0, z1, z2, z3, .pointer (some ⟨k + 3, 0, none⟩), z5, .string nm, .string V2, z8, z9, z10, z11, z12, z13, z14, z15, z16, z17, z18, z19, z20, z21, z22, z23, z24, z25, z26, z27, z28, z29, z30, z31, z32, z33, z34, z35, z36, z37, z38, z39, z40, z41, z42, z43, z44, z45, z46, z47, z48, z49, z50, z51, z52, z53, z54, z55, z56, z57, .pointer (some ⟨k + 2, 0, none⟩), .pointer (some ⟨k + 2, 0, none⟩), .pointer (some ⟨k + 2, 0, none⟩), .pointer (some ⟨k + 2, 1, none⟩), z62, z63, z64, z65, z66, z67, z68, z69, z70, z71, z72, z73], defers := [] } W.drew := by
    rw [← hR]
    refine wpAnyIn_ready (rs := [4, 5, 6]) (by kernel_rfl) (by simp) ?_
    refine AllReadyIn.cons rfl (fun K hK => ?_) ?_
    · go_simp
      refine hK _ _ ?_
      rw [hR]; exact s_0_1_2_3_4
    refine AllReadyIn.cons rfl (fun K hK => ?_) ?_
    · go_simp
      refine hK _ _ ?_
      rw [hR]; exact s_0_1_2_3_5
    refine AllReadyIn.cons rfl (fun K hK => ?_) ?_
    · go_simp
      refine hK _ _ ?_
      rw [hR]; exact s_0_1_2_3_6
    exact AllReadyIn.nil
  have s_0_1_2_5 : R 9 #[true, true, true, false, false, true, false, false, false, false, false, false, false] { tmps := #[z0, z1, z2, z3, .pointer (some ⟨k + 3, 0, none⟩), z5, .string nm, .string V2, z8, z9, z10, z11, z12, z13, z14, z15, z16, z17, z18, z19, z20, z21, z22, z23, z24, z25, z26, z27, z28, z29, z30, z31, z32, z33, z34, z35, z36, z37, z38, z39, z40, z41, z42, z43, z44, z45, z46, z47, z48, z49, z50, z51, z52, z53, z54, z55, z56, z57, .pointer (some ⟨k + 2, 0, none⟩), .pointer (some ⟨k + 2, 0, none⟩), .pointer (some ⟨k + 2, 0, none⟩), z61, z62, .string nm, z64, z65, z66, z67, z68, z69, z70, z71, z72, z73], defers := [] } W.drew := by
    rw [← hR]
    refine wpAnyIn_ready (rs := [3, 6]) (by kernel_rfl) (by simp) ?_
    refine AllReadyIn.cons rfl (fun K hK => ?_) ?_
    · go_simp
      refine hK _ _ ?_
      rw [hR]; exact s_0_1_2_3_5
    refine AllReadyIn.cons rfl (fun K hK => ?_) ?_
    · go_simp
      refine hK _ _ ?_
      rw [hR]; exact s_0_1_2_5_6
    exact AllReadyIn.nil
  have s_0_1_2_6 : R 9 #[true, true, true, false, false, false, true, false, false, false, false, false, false] { tmps := #[z0, z1, z2, z3, .pointer (some ⟨k + 3, 0, none⟩), z5, .string nm, .string V2, z8, z9, z10, z11, z12, z13, z14, z15, z16, z17, z18, z19, z20, z21, z22, z23, z24, z25, z26, z27, z28, z29, z30, z31, z32, z33, z34, z35, z36, z37, z38, z39, z40, z41, z42, z43, z44, z45, z46, z47, z48, z49, z50, z51, z52, z53, z54, z55, z56, z57, .pointer (some ⟨k + 2, 0, none⟩), .pointer (some ⟨k + 2, 0, none⟩), .pointer (some ⟨k + 2, 0, none⟩), z61, z62, z63, .string V2, z65, z66, z67, z68, z69, z70, z71, z72, z73], defers := [] } W.drew := by
    rw [← hR]
    refine wpAnyIn_ready (rs := [3, 5]) (by kernel_rfl) (by simp) ?_
    refine AllReadyIn.cons rfl (fun K hK => ?_) ?_
    · go_simp
      refine hK _ _ ?_
      rw [hR]; exact s_0_1_2_3_6
    refine AllReadyIn.cons rfl (fun K hK => ?_) ?_
    · go_simp
      refine hK _ _ ?_
      rw [hR]; exact s_0_1_2_5_6
    exact AllReadyIn.nil
  have s_0_1_5_6 : R 9 #[true, true, false, false, false, true, true, false, false, false, false, false, false] { tmps := #[z0, z1, z2, z3, .pointer (some ⟨k + 3, 0, none⟩), z5, .string nm, .string V2, z8, z9, z10, z11, z12, z13, z14, z15, z16, z17, z18, z19, z20, z21, z22, z23, z24, z25, z26, z27, z28, z29, z30, z31, z32, z33, z34, z35, z36, z37, z38, z39, z40, z41, z42, z43, z44, z45, z46, z47, z48, z49, z50, z51, z52, z53, z54, z55, z56, z57, .pointer (some ⟨k + 2, 0, none⟩), .pointer (some ⟨k + 2, 0, none⟩), z60, z61, z62, .string nm, .string V2, z65, z66, z67, z68, z69, z70, z71, z72, z73], defers := [] } W.drew := by
    rw [← hR]
    refine wpAnyIn_ready (rs := [2, 7]) (by kernel_rfl) (by simp) ?_
    refine AllReadyIn.cons rfl (fun K hK => ?_) ?_
    · go_simp
      refine hK _ _ ?_
      rw [hR]; exact s_0_1_2_5_6
    refine AllReadyIn.cons rfl (fun K hK => ?_) ?_
    · go_simp
      refine hK _ _ ?_
      rw [hR]; exact s_0_1_5_6_7
    exact AllReadyIn.nil
  have s_0_5_6_7 : R 9 #[true, false, false, false, false, true, true, true, false, false, false, false, false] { tmps := #[z0, z1, z2, z3, .pointer (some ⟨k + 3, 0, none⟩), z5, .string nm, .string V2, z8, z9, z10, z11, z12, z13, z14, z15, z16, z17, z18, z19, z20, z21, z22, z23, z24, z25, z26, z27, z28, z29, z30, z31, z32, z33, z34, z35, z36, z37, z38, z39, z40, z41, z42, z43, z44, z45, z46, z47, z48, z49, z50, z51, z52, z53, z54, z55, z56, z57, .pointer (some ⟨k + 2, 0, none⟩), z59, z60, z61, z62, .string nm, .string V2, .agg #[.string nm, .string V2], z66, z67, z68, z69, z70, z71, z72, z73], defers := [] } W.drew := by
    rw [← hR]
    refine wpAnyIn_ready (rs := [1, 8]) (by kernel_rfl) (by simp) ?_
    refine AllReadyIn.cons rfl (fun K hK => ?_) ?_
    · go_simp
      refine hK _ _ ?_
      rw [hR]; exact s_0_1_5_6_7
    refine AllReadyIn.cons rfl (fun K hK => ?_) ?_
    · go_simp
      refine hK _ _ ?_
      rw [hR]; exact s_0_5_6_7_8
    exact AllReadyIn.nil
  have s_1_2_3_4 : R 9 #[false, true, true, true, true, false, false, false, false, false, false, false, false] { tmps := #[z0, z1, z2, z3, .pointer (some ⟨k + 3, 0, none⟩), z5, .string nm, .string V2, z8, z9, z10, z11, z12, z13, z14, z15, z16, z17, z18, z19, z20, z21, z22, z23, z24, z25, z26, z27, z28, z29, z30, z31, z32, z33, z34, z35, z36, z37, z38, z39, z40, z41, z42, z43, z44, z45, z46, z47, z48, z49, z50, z51, z52, z53, z54, z55, z56, z57, z58, .pointer (some ⟨k + 2, 0, none⟩), .pointer (some ⟨k + 2, 0, none⟩), .pointer (some ⟨k + 2, 1, none⟩), .slice a nn c, z63, z64, z65, z66, z67, z68, z69, z70, z71, z72, z73], defers := [] } W.drew := by
    rw [← hR]
    refine wpAnyIn_ready (rs := [0, 5, 6]) (by kernel_rfl) (by simp) ?_
    refine AllReadyIn.cons rfl (fun K hK => ?_) ?_
    · go_simp
      refine hK _ _ ?_
      rw [hR]; exact s_0_1_2_3_4
    refine AllReadyIn.cons rfl (fun K hK => ?_) ?_
    · go_simp
      refine hK _ _ ?_
      rw [hR]; exact s_1_2_3_4_5
    refine AllReadyIn.cons rfl (fun K hK => ?_) ?_
    · go_simp
      refine hK _ _ ?_
      rw [hR]; exact s_1_2_3_4_6
    exact AllReadyIn.nil
  have s_1_2_3_5 : R 9 #[false, true, true, true, false, true, false, false, false, false, false, false, false] { tmps := #[z0, z1, z2, z3, .pointer (some ⟨k + 3, 0, none⟩), z5, .string nm, .string V2, z8, z9, z10, z11, z12, z13, z14, z15, z16, z17, z18, z19, z20, z21, z22, z23, z24, z25, z26, z27, z28, z29, z30, z31, z32, z33, z34, z35, z36, z37, z38, z39, z40, z41, z42, z43, z44, z45, z46, z47, z48, z49, z50, z51, z52, z53, z54, z55, z56, z57, z58, .pointer (some ⟨k + 2, 0, none⟩), .pointer (some ⟨k + 2, 0, none⟩), .pointer (some ⟨k + 2, 1, none⟩), z62, .string nm, z64, z65, z66, z67, z68, z69, z70, z71, z72, z73], defers := [] } W.drew := by
    rw [← hR]
    refine wpAnyIn_ready (rs := [0, 4, 6]) (by kernel_rfl) (by simp) ?_
    refine AllReadyIn.cons rfl (fun K hK => ?_) ?_
    · go_simp
      refine hK _ _ ?_
      rw [hR]; exact s_0_1_2_3_5
    refine AllReadyIn.cons rfl (fun K hK => ?_) ?_
    · go_simp
      refine hK _ _ ?_
      rw [hR]; exact s_1_2_3_4_5
    refine AllReadyIn.cons rfl (fun K hK => ?_) ?_
    · go_simp
      refine hK _ _ ?_
      rw [hR]; exact s_1_2_3_5_6
    exact AllReadyIn.nil
  have s_1_2_3_6 : R 9 #[false, true, true, true, false, false, true, false, false, false, false, false, false] { tmps := #[z0, z1, z2, z3, .pointer (some ⟨k + 3, 0, none⟩), z5, .string nm, .string V2, z8, z9, z10, z11, z12, z13, z14, z15, z16, z17, z18, z19, z20, z21, z22, z23, z24, z25, z26, z27, z28, z29, z30, z31, z32, z33, z34, z35, z36, z37, z38, z39, z40, z41, z42, z43, z44, z45, z46, z47, z48, z49, z50, z51, z52, z53, z54, z55, z56, z57, z58, .pointer (some ⟨k + 2, 0, none⟩), .pointer (some ⟨k + 2, 0, none⟩), .pointer (some ⟨k + 2, 1, none⟩), z62, z63, .string V2, z65, z66, z67, z68, z69, z70, z71, z72, z73], defers := [] } W.drew := by
    rw [← hR]
    refine wpAnyIn_ready (rs := [0, 4, 5]) (by kernel_rfl) (by simp) ?_
    refine AllReadyIn.cons rfl (fun K hK => ?_) ?_
    · go_simp
      refine hK _ _ ?_
      rw [hR]; exact s_0_1_2_3_6
    refine AllReadyIn.cons rfl (fun K hK => ?_) ?_
    · go_simp
      refine hK _ _ ?_
      rw [hR]; exact s_1_2_3_4_6
    refine AllReadyIn.cons rfl (fun K hK => ?_) ?_
    · go_simp
      refine hK _ _ ?_
      rw [hR]; exact s_1_2_3_5_6
    exact AllReadyIn.nil
  have s_1_2_5_6 : R 9 #[false, true, true, false, false, true, true, false, false, false, false, false, false] { tmps := #[z0, z1, z2, z3, .pointer (some ⟨k + 3, 0, none⟩), z5, .string nm, .string V2, z8, z9, z10, z11, z12, z13, z14, z15, z16, z17, z18, z19, z20, z21, z22, z23, z24, z25, z26, z27, z28, z29, z30, z31, z32, z33, z34, z35, z36, z37, z38, z39, z40, z41, z42, z43, z44, z45, z46, z47, z48, z49, z50, z51, z52, z53, z54, z55, z56, z57, z58, .pointer (some ⟨k + 2, 0, none⟩), .pointer (some ⟨k + 2, 0, none⟩), z61, z62, .string nm, .string V2, z65, z66, z67, z68, z69, z70, z71, z72, z73], defers := [] } W.drew := by
    rw [← hR]
    refine wpAnyIn_ready (rs := [0, 3, 7]) (by kernel_rfl) (by simp) ?_
    refine AllReadyIn.cons rfl (fun K hK => ?_) ?_
    · go_simp
      refine hK _ _ ?_
      rw [hR]; exact s_0_1_2_5_6
    refine AllReadyIn.cons rfl (fun K hK => ?_) ?_
    · go_simp
      refine hK _ _ ?_
      rw [hR]; exact s_1_2_3_5_6
    refine AllReadyIn.cons rfl (fun K hK => ?_) ?_
    · go_simp
      refine hK _ _ ?_
      rw [hR]; exact s_1_2_5_6_7
    exact AllReadyIn.nil
  have s_1_5_6_7 : R 9 #[false, true, false, false, false, true, true, true, false, false, false, false, false] { tmps := #[z0, z1, z2, z3, .pointer (some ⟨k + 3, 0, none⟩), z5, .string nm, .string V2, z8, z9, z10, z11, z12, z13, z14, z15, z16, z17, z18, z19, z20, z21, z22, z23, z24, z25, z26, z27, z28, z29, z30, z31, z32, z33, z34, z35, z36, z37, z38, z39, z40, z41, z42, z43, z44, z45, z46, z47, z48, z49, z50, z51, z52, z53, z54, z55, z56, z57, z58, .pointer (some ⟨k + 2, 0, none⟩), z60, z61, z62, .string nm, .string V2, .agg #[.string nm, .string V2], z66, z67, z68, z69, z70, z71, z72, z73], defers := [] } W.drew := by
    rw [← hR]
    refine wpAnyIn_ready (rs := [0, 2, 8]) (by kernel_rfl) (by simp) ?_
    refine AllReadyIn.cons rfl (fun K hK => ?_) ?_
    · go_simp
      refine hK _ _ ?_
      rw [hR]; exact s_0_1_5_6_7
    refine AllReadyIn.cons rfl (fun K hK => ?_) ?_
    · go_simp
      refine hK _ _ ?_
      rw [hR]; exact s_1_2_5_6_7
    refine AllReadyIn.cons rfl (fun K hK => ?_) ?_
    · go_simp
      refine hK _ _ ?_
      rw [hR]; exact s_1_5_6_7_8
    exact AllReadyIn.nil
  have s_5_6_7_8 : R 9 #[false, false, false, false, false, true, true, true, true, false, false, false, false] { tmps := #[z0, z1, z2, z3, .pointer (some ⟨k + 3, 0, none⟩), z5, .string nm, .string V2, z8, z9, z10, z11, z12, z13, z14, z15, z16, z17, z18, z19, z20, z21, z22, z23, z24, z25, z26, z27, z28, z29, z30, z31, z32, z33, z34, z35, z36, z37, z38, z39, z40, z41, z42, z43, z44, z45, z46, z47, z48, z49, z50, z51, z52, z53, z54, z55, z56, z57, z58, z59, z60, z61, z62, .string nm, .string V2, .agg #[.string nm, .string V2], .slice (some ⟨W.heap.size, 0, none⟩) 1 1, z67, z68, z69, z70, z71, z72, z73], defers := [] } Wa := by
    rw [← hR]
    refine wpAnyIn_ready (rs := [0, 1]) (by kernel_rfl) (by simp) ?_
    refine AllReadyIn.cons rfl (fun K hK => ?_) ?_
    · go_simp
      refine hK _ _ ?_
      rw [hR]; exact s_0_5_6_7_8
    refine AllReadyIn.cons rfl (fun K hK => ?_) ?_
    · go_simp
      refine hK _ _ ?_
      rw [hR]; exact s_1_5_6_7_8
    exact AllReadyIn.nil
  have s_0_1_2 : R 10 #[true, true, true, false, false, false, false, false, false, false, false, false, false] { tmps := #[z0, z1, z2, z3, .pointer (some ⟨k + 3, 0, none⟩), z5, .string nm, .string V2, z8, z9, z10, z11, z12, z13, z14, z15, z16, z17, z18, z19, z20, z21, z22, z23, z24, z25, z26, z27, z28, z29, z30, z31, z32, z33, z34, z35, z36, z37, z38, z39, z40, z41, z42, z43, z44, z45, z46, z47, z48, z49, z50, z51, z52, z53, z54, z55, z56, z57, .pointer (some ⟨k + 2, 0, none⟩), .pointer (some ⟨k + 2, 0, none⟩), .pointer (some ⟨k + 2, 0, none⟩), z61, z62, z63, z64, z65, z66, z67, z68, z69, z70, z71, z72, z73], defers := [] } W.drew := by
    rw [← hR]
    refine wpAnyIn_ready (rs := [3, 5, 6]) (by kernel_rfl) (by simp) ?_
    refine AllReadyIn.cons rfl (fun K hK => ?_) ?_
    · go_simp
      refine hK _ _ ?_
      rw [hR]; exact s_0_1_2_3
    refine AllReadyIn.cons rfl (fun K hK => ?_) ?_
    · go_simp
      refine hK _ _ ?_
      rw [hR]; exact s_0_1_2_5
    refine AllReadyIn.cons rfl (fun K hK => ?_) ?_
    · go_simp
      refine hK _ _ ?_
      rw [hR]; exact s_0_1_2_6
    exact AllReadyIn.nil
  have s_0_1_5 : R 10 #[true, true, false, false, false, true, false, false, false, false, false, false, false] { tmps := #[z0, z1, z2, z3, .pointer (some ⟨k + 3, 0, none⟩), z5, .string nm, .string V2, z8, z9, z10, z11, z12, z13, z14, z15, z16, z17, z18, z19, z20, z21, z22, z23, z24, z25, z26, z27, z28, z29, z30, z31, z32, z33, z34, z35, z36, z37, z38, z39, z40, z41, z42, z43, z44, z45, z46, z47, z48, z49, z50, z51, z52, z53, z54, z55, z56, z57, .pointer (some ⟨k + 2, 0, none⟩), .pointer (some ⟨k + 2, 0, none⟩), z60, z61, z62, .string nm, z64, z65, z66, z67, z68, z69, z70, z71, z72, z73], defers := [] } W.drew := by
    rw [← hR]
    refine wpAnyIn_ready (rs := [2, 6]) (by kernel_rfl) (by simp) ?_
    refine AllReadyIn.cons rfl (fun K hK => ?_) ?_
    · go_simp
      refine hK _ _ ?_
      rw [hR]; exact s_0_1_2_5
    refine AllReadyIn.cons rfl (fun K hK => ?_) ?_
    · go_simp
      refine hK _ _ ?_
      rw [hR]; exact s_0_1_5_6
    exact AllReadyIn.nil
  have s_0_1_6 : R 10 #[true, true, false, false, false, false, true, false, false, false, false, false, false] { tmps := #[z0, z1, z2, z3, .pointer (some ⟨k + 3, 0, none⟩), z5, .string nm, .string V2, z8, z9, z10, z11, z12, z13, z14, z15, z16, z17, z18, z19, z20, z21, z22, z23, z24, z25, z26, z27, z28, z29, z30, z31, z32, z33, z34, z35, z36, z37, z38, z39, z40, z41, z42, z43, z44, z45, z46, z47, z48, z49, z50, z51, z52, z53, z54, z55, z56, z57, .pointer (some ⟨k + 2, 0, none⟩), .pointer (some ⟨k + 2, 0, none⟩), z60, z61, z62, z63, .string V2, z65, z66, z67, z68, z69, z70, z71, z72, z73], defers := [] } W.drew := by
    rw [← hR]
    refine wpAnyIn_ready (rs := [2, 5]) (by kernel_rfl) (by simp) ?_
    refine AllReadyIn.cons rfl (fun K hK => ?_) ?_
    · go_simp
      refine hK _ _ ?_
      rw [hR]; exact s_0_1_2_6
    refine AllReadyIn.cons rfl (fun K hK => ?_) ?_
    · go_simp
      refine hK _ _ ?_
      rw [hR]; exact s_0_1_5_6
    exact AllReadyIn.nil
  have s_0_5_6 : R 10 #[true, false, false, false, false, true, true, false, false, false, false, false, false] { tmps := #[z0, z1, z2, z3, .pointer (some ⟨k + 3, 0, none⟩), z5, .string nm, .string V2, z8, z9, z10, z11, z12, z13, z14, z15, z16, z17, z18, z19, z20, z21, z22, z23, z24, z25, z26, z27, z28, z29, z30, z31, z32, z33, z34, z35, z36, z37, z38, z39, z40, z41, z42, z43, z44, z45, z46, z47, z48, z49, z50, z51, z52, z53, z54, z55, z56, z57, .pointer (some ⟨k + 2, 0, none⟩), z59, z60, z61, z62, .string nm, .string V2, z65, z66, z67, z68, z69, z70, z71, z72, z73], defers := [] } W.drew := by
    rw [← hR]
    refine wpAnyIn_ready (rs := [1, 7]) (by kernel_rfl) (by simp) ?_
    refine AllReadyIn.cons rfl (fun K hK => ?_) ?_
    · go_simp
      refine hK _ _ ?_
      rw [hR]; exact s_0_1_5_6
    refine AllReadyIn.cons rfl (fun K hK => ?_) ?_
    · go_simp
      refine hK _ _ ?_
      rw [hR]; exact s_0_5_6_7
    exact AllReadyIn.nil
  have s_1_2_3 : R 10 #[false, true, true, true, false, false, false, false, false, false, false, false, false] { tmps := #[z0, z1, z2, z3, .pointer (some ⟨k + 3, 0, none⟩), z5, .string nm, .string V2, z8, z9, z10, z11, z12, z13, z14, z15, z16, z17, z18, z19, z20, z21, z22, z23, z24, z25, z26, z27, z28, z29, z30, z31, z32, z33, z34, z35, z36, z37, z38, z39, z40, z41, z42, z43, z44, z45, z46, z47, z48, z49, z50, z51, z52, z53, z54, z55, z56, z57, z58, .pointer (some ⟨k + 2, 0, none⟩), .pointer (some ⟨k + 2, 0, none⟩), .pointer (some ⟨k + 2, 1, none⟩), z62, z63, z64, z65, z66, z67, z68, z69, z70, z71, z72, z73], defers := [] } W.drew := by
    rw [← hR]
    refine wpAnyIn_ready (rs := [0, 4, 5, 6]) (by kernel_rfl) (by simp) ?_
    refine AllReadyIn.cons rfl (fun K hK => ?_) ?_
    · go_simp
      refine hK _ _ ?_
      rw [hR]; exact s_0_1_2_3
    refine AllReadyIn.cons rfl (fun K hK => ?_) ?_
    · go_simp
      refine hK _ _ ?_
      rw [hR]; exact s_1_2_3_4
    refine AllReadyIn.cons rfl (fun K hK => ?_) ?_
    · go_simp
      refine hK _ _ ?_
      rw [hR]; exact s_1_2_3_5
    refine AllReadyIn.cons rfl (fun K hK => ?_) ?_
    · go_simp
      refine hK _ _ ?_
      rw [hR]; exact s_1_2_3_6
    exact AllReadyIn.nil
  have s_1_2_5 : R 10 #[false, true, true, false, false, true, false, false, false, false, false, false, false] { tmps := #[z0, z1, z2, z3, .pointer (some ⟨k + 3, 0, none⟩), z5, .string nm, .string V2, z8, z9, z10, z11, z12, z13, z14, z15, z16, z17, z18, z19, z20, z21, z22, z23, z24, z25, z26, z27, z28, z29, z30, z31, z32, z33, z34, z35, z36, z37, z38, z39, z40, z41, z42, z43, z44, z45, z46, z47, z48, z49, z50, z51, z52, z53, z54, z55, z56, z57, z58, .pointer (some ⟨k + 2, 0, none⟩), .pointer (some ⟨k + 2, 0, none⟩), z61, z62, .string nm, z64, z65, z66, z67, z68, z69, z70, z71, z72, z73], defers := [] } W.drew := by
    rw [← hR]
    refine wpAnyIn_ready (rs := [0, 3, 6]) (by kernel_rfl) (by simp) ?_
    refine AllReadyIn.cons rfl (fun K hK => ?_) ?_
    · go_simp
      refine hK _ _ ?_
      rw [hR]; exact s_0_1_2_5
    refine AllReadyIn.cons rfl (fun K hK => ?_) ?_
    · go_simp
      refine hK _ _ ?_
      rw [hR]; exact s_1_2_3_5
    refine AllReadyIn.cons rfl (fun K hK => ?_) ?_
    · go_simp
      refine hK _ _ ?_
      rw [hR]; exact s_1_2_5_6
    exact AllReadyIn.nil
  have s_1_2_6 : R 10 #[false, true, true, false, false, false, true, false, false, false, false, false, false] { tmps := #[z0, z1, z2, z3, .pointer (some ⟨k + 3, 0, none⟩), z5, .string nm, .string V2, z8, z9, z10, z11, z12, z13, z14, z15, z16, z17, z18, z19, z20, z21, z22, z23, z24, z25, z26, z27, z28, z29, z30, z31, z32, z33, z34, z35, z36, z37, z38, z39, z40, z41, z42, z43, z44, z45, z46, z47, z48, z49, z50, z51, z52, z53, z54, z55, z56, z57, z58, .pointer (some ⟨k + 2, 0, none⟩), .pointer (some ⟨k + 2, 0, none⟩), z61, z62, z63, .string V2, z65, z66, z67, z68, z69, z70, z71, z72, z73], defers := [] } W.drew := by
    rw [← hR]
    refine wpAnyIn_ready (rs := [0, 3, 5]) (by kernel_rfl) (by simp) ?_
    refine AllReadyIn.cons rfl (fun K hK => ?_) ?_
    · go_simp
      refine hK _ _ ?_
      rw [hR]; exact s_0_1_2_6
    refine AllReadyIn.cons rfl (fun K hK => ?_) ?_
    · go_simp
      refine hK _ _ ?_
      rw [hR]; exact s_1_2_3_6
    refine AllReadyIn.cons rfl (fun K hK => ?_) ?_
    · go_simp
      refine hK _ _ ?_
      rw [hR]; exact s_1_2_5_6
    exact AllReadyIn.nil
  have s_1_5_6 : R 10 #[false, true, false, false, false, true, true, false, false, false, false, false, false] { tmps := #[z0, z1, z2, z3, .pointer (some ⟨k + 3, 0, none⟩), z5, .string nm, .string V2, z8, z9, z10, z11, z12, z13, z14, z15, z16, z17, z18, z19, z20, z21, z22, z23, z24, z25, z26, z27, z28, z29, z30, z31, z32, z33, z34, z35, z36, z37, z38, z39, z40, z41, z42, z43, z44, z45, z46, z47, z48, z49, z50, z51, z52, z53, z54, z55, z56, z57, z58, .pointer (some ⟨k + 2, 0, none⟩), z60, z61, z62, .string nm, .string V2, z65, z66, z67, z68, z69, z70, z71, z72, z73], defers := [] } W.drew := by
    rw [← hR]
    refine wpAnyIn_ready (rs := [0, 2, 7]) (by kernel_rfl) (by simp) ?_
    refine AllReadyIn.cons rfl (fun K hK => ?_) ?_
    · go_simp
      refine hK _ _ ?_
      rw [hR]; exact s_0_1_5_6
    refine AllReadyIn.cons rfl (fun K hK => ?_) ?_
    · go_simp
      refine hK _ _ ?_
      rw [hR]; exact s_1_2_5_6
    refine AllReadyIn.cons rfl (fun K hK => ?_) ?_
    · go_simp
      refine hK _ _ ?_
      rw [hR]; exact s_1_5_6_7
    exact AllReadyIn.nil
  have s_5_6_7 : R 10 #[false, false, false, false, false, true, true, true, false, false, false, false, false] { tmps := #[z0, z1, z2, z3, .pointer (some ⟨k + 3, 0, none⟩), z5, .string nm, .string V2, z8, z9, z10, z11, z12, z13, z14, z15, z16, z17, z18, z19, z20, z21, z22, z23, z24, z25, z26, z27, z28, z29, z30, z31, z32, z33, z34, z35, z36, z37, z38, z39, z40, z41, z42, z43, z44, z45, z46, z47, z48, z49, z50, z51, z52, z53, z54, z55, z56, z57, z58, z59, z60, z61, z62, .string nm, .string V2, .agg #[.string nm, .string V2], z66, z67, z68, z69, z70, z71, z72, z73], defers := [] } W.drew := by
    rw [← hR]
    refine wpAnyIn_ready (rs := [0, 1, 8]) (by kernel_rfl) (by simp) ?_
    refine AllReadyIn.cons rfl (fun K hK => ?_) ?_
    · go_simp
      refine hK _ _ ?_
      rw [hR]; exact s_0_5_6_7
    refine AllReadyIn.cons rfl (fun K hK => ?_) ?_
    · go_simp
      refine hK _ _ ?_
      rw [hR]; exact s_1_5_6_7
    refine AllReadyIn.cons rfl (fun K hK => ?_) ?_
    · go_simp
      refine hK _ _ ?_
      rw [hR]; exact s_5_6_7_8
    exact AllReadyIn.nil
  have s_0_1 : R 11 #[true, true, false, false, false, false, false, false, false, false, false, false, false] { tmps := #[z0, z1, z2, z3, .pointer (some ⟨k + 3, 0, none⟩), z5, .string nm, .string V2, z8, z9, z10, z11, z12, z13, z14, z15, z16, z17, z18, z19, z20, z21, z22, z23, z24, z25, z26, z27, z28, z29, z30, z31, z32, z33, z34, z35, z36, z37, z38, z39, z40, z41, z42, z43, z44, z45, z46, z47, z48, z49, z50, z51, z52, z53, z54, z55, z56, z57, .pointer (some ⟨k + 2, 0, none⟩), .pointer (some ⟨k + 2, 0, none⟩), z60, z61, z62, z63, z64, z65, z66, z67, z68, z69, z70, z71, z72, z73], defers := [] } W.drew := by
    rw [← hR]
    refine wpAnyIn_ready (rs := [2, 5, 6]) (by kernel_rfl) (by simp) ?_
    refine AllReadyIn.cons rfl (fun K hK => ?_) ?_
    · go_simp
      refine hK _ _ ?_
      rw [hR]; exact s_0_1_2
    refine AllReadyIn.cons rfl (fun K hK => ?_) ?_
    · go_simp
      refine hK _ _ ?_
      rw [hR]; exact s_0_1_5
    refine AllReadyIn.cons rfl (fun K hK => ?_) ?_
    · go_simp
      refine hK _ _ ?_
      rw [hR]; exact s_0_1_6
    exact AllReadyIn.nil
  have s_0_5 : R 11 #[true, false, false, false, false, true, false, false, false, false, false, false, false] { tmps := #[z0, z1, z2, z3, .pointer (some ⟨k + 3, 0, none⟩), z5, .string nm, .string V2, z8, z9, z10, z11, z12, z13, z14, z15, z16, z17, z18, z19, z20, z21, z22, z23, z24, z25, z26, z27, z28, z29, z30, z31, z32, z33, z34, z35, z36, z37, z38, z39, z40, z41, z42, z43, z44, z45, z46, z47, z48, z49, z50, z51, z52, z53, z54, z55, z56, z57, .pointer (some ⟨k + 2, 0, none⟩), z59, z60, z61, z62, .string nm, z64, z65, z66, z67, z68, z69, z70, z71, z72, z73], defers := [] } W.drew := by
    rw [← hR]
    refine wpAnyIn_ready (rs := [1, 6]) (by kernel_rfl) (by simp) ?_
    refine AllReadyIn.cons rfl (fun K hK => ?_) ?_
    · go_simp
      refine hK _ _ ?_
      rw [hR]; exact s_0_1_5
    refine AllReadyIn.cons rfl (fun K hK => ?_) ?_
    · go_simp
      refine hK _ _ ?_
      rw [hR]; exact s_0_5_6
    exact AllReadyIn.nil
  have s_0_6 : R 11 #[true, false, false, false, false, false, true, false, false, false, false, false, false] { tmps := #[z0, z1, z2, z3, .pointer (some ⟨k + 3, 0, none⟩), z5, .string nm, .string V2, z8, z9, z10, z11, z12, z13, z14, z15, z16, z17, z18, z19, z20, z21, z22, z23, z24, z25, z26, z27, z28, z29, z30, z31, z32, z33, z34, z35, z36, z37, z38, z39, z40, z41, z42, z43, z44, z45, z46, z47, z48, z49, z50, z51, z52, z53, z54, z55, z56, z57, .pointer (some ⟨k + 2, 0, none⟩), z59, z60, z61, z62, z63, .string V2, z65, z66, z67, z68, z69, z70, z71, z72, z73], defers := [] } W.drew := by
    rw [← hR]
    refine wpAnyIn_ready (rs := [1, 5]) (by kernel_rfl) (by simp) ?_
    refine AllReadyIn.cons rfl (fun K hK => ?_) ?_
    · go_simp
      refine hK _ _ ?_
      rw [hR]; exact s_0_1_6
    refine AllReadyIn.cons rfl (fun K hK => ?_) ?_
    · go_simp
      refine hK _ _ ?_
      rw [hR]; exact s_0_5_6
    exact AllReadyIn.nil
  have s_1_2 : R 11 #[false, true, true, false, false, false, false, false, false, false, false, false, false] { tmps := #[z0, z1, z2, z3, .pointer (some ⟨k + 3, 0, none⟩), z5, .string nm, .string V2, z8, z9, z10, z11, z12, z13, z14, z15, z16, z17, z18, z19, z20, z21, z22, z23, z24, z25, z26, z27, z28, z29, z30, z31, z32, z33, z34, z35, z36, z37, z38, z39, z40, z41, z42, z43, z44, z45, z46, z47, z48, z49, z50, z51, z52, z53, z54, z55, z56, z57, z58, .pointer (some ⟨k + 2, 0, none⟩), .pointer (some ⟨k + 2, 0, none⟩), z61, z62, z63, z64, z65, z66, z67, z68, z69, z70, z71, z72, z73], defers := [] } W.drew := by
    rw [← hR]
    refine wpAnyIn_ready (rs := [0, 3, 5, 6]) (by kernel_rfl) (by simp) ?_
    refine AllReadyIn.cons rfl (fun K hK => ?_) ?_
    · go_simp
      refine hK _ _ ?_
      rw [hR]; exact s_0_1_2
    refine AllReadyIn.cons rfl (fun K hK => ?_) ?_
    · go_simp
      refine hK _ _ ?_
      rw [hR]; exact s_1_2_3
    refine AllReadyIn.cons rfl (fun K hK => ?_) ?_
    · go_simp
      refine hK _ _ ?_
      rw [hR]; exact s_1_2_5
    refine AllReadyIn.cons rfl (fun K hK => ?_) ?_
    · go_simp
      refine hK _ _ ?_
      rw [hR]; exact s_1_2_6
    exact AllReadyIn.nil
  have s_1_5 : R 11 #[false, true, false, false, false, true, false, false, false, false, false, false, false] { tmps := #[z0, z1, z2, z3, .pointer (some ⟨k + 3, 0, none⟩), z5, .string nm, .string V2, z8, z9, z10, z11, z12, z13, z14, z15, z16, z17, z18, z19, z20, z21, z22, z23, z24, z25, z26, z27, z28, z29, z30, z31, z32, z33, z34, z35, z36, z37, z38, z39, z40, z41, z42, z43, z44, z45, z46, z47, z48, z49, z50, z51, z52, z53, z54, z55, z56, z57, z58, .pointer (some ⟨k + 2, 0, none⟩), z60, z61, z62, .string nm, z64, z65, z66, z67, z68, z69, z70, z71, z72, z73], defers := [] } W.drew := by
    rw [← hR]
    refine wpAnyIn_ready (rs := [0, 2, 6]) (by kernel_rfl) (by simp) ?_
    refine AllReadyIn.cons rfl (fun K hK => ?_) ?_
    · go_simp
      refine hK _ _ ?_
      rw [hR]; exact s_0_1_5
    refine AllReadyIn.cons rfl (fun K hK => ?_) ?_
    · go_simp
      refine hK _ _ ?_
      rw [hR]; exact s_1_2_5
    refine AllReadyIn.cons rfl (fun K hK => ?_) ?_
    · go_simp
      refine hK _ _ ?_
      rw [hR]; exact s_1_5_6
    exact AllReadyIn.nil
  have s_1_6 : R 11 #[false, true, false, false, false, false, true, false, false, false, false, false, false] { tmps := #[z0, z1, z2, z3, .pointer (some ⟨k + 3, 0, none⟩), z5, .string nm, .string V2, z8, z9, z10, z11, z12, z13, z14, z15, z16, z17, z18, z19, z20, z21, z22, z23, z24, z25, z26, z27, z28, z29, z30, z31, z32, z33, z34, z35, z36, z37, z38, z39, z40, z41, z42, z43, z44, z45, z46, z47, z48, z49, z50, z51, z52, z53, z54, z55, z56, z57, z58, .pointer (some ⟨k + 2, 0, none⟩), z60, z61, z62, z63, .string V2, z65, z66, z67, z68, z69, z70, z71, z72, z73], defers := [] } W.drew := by
    rw [← hR]
    refine wpAnyIn_ready (rs := [0, 2, 5]) (by kernel_rfl) (by simp) ?_
    refine AllReadyIn.cons rfl (fun K hK => ?_) ?_
    · go_simp
      refine hK _ _ ?_
      rw [hR]; exact s_0_1_6
    refine AllReadyIn.cons rfl (fun K hK => ?_) ?_
    · go_simp
      refine hK _ _ ?_
      rw [hR]; exact s_1_2_6
    refine AllReadyIn.cons rfl (fun K hK => ?_) ?_
    · go_simp
      refine hK _ _ ?_
      rw [hR]; exact s_1_5_6
    exact AllReadyIn.nil
  have s_5_6 : R 11 #[false, false, false, false, false, true, true, false, false, false, false, false, false] { tmps := #[z0, z1, z2, z3, .pointer (some ⟨k + 3, 0, none⟩), z5, .string nm, .string V2, z8, z9, z10, z11, z12, z13, z14, z15, z16, z17, z18, z19, z20, z21, z22, z23, z24, z25, z26, z27, z28, z29, z30, z31, z32, z33, z34, z35, z36, z37, z38, z39, z40, z41, z42, z43, z44, z45, z46, z47, z48, z49, z50, z51, z52, z53, z54, z55, z56, z57, z58, z59, z60, z61, z62, .string nm, .string V2, z65, z66, z67, z68, z69, z70, z71, z72, z73], defers := [] } W.drew := by
    rw [← hR]
    refine wpAnyIn_ready (rs := [0, 1, 7]) (by kernel_rfl) (by simp) ?_
    refine AllReadyIn.cons rfl (fun K hK => ?_) ?_
    · go_simp
      refine hK _ _ ?_
      rw [hR]; exact s_0_5_6
    refine AllReadyIn.cons rfl (fun K hK => ?_) ?_
    · go_simp
      refine hK _ _ ?_
      rw [hR]; exact s_1_5_6
    refine AllReadyIn.cons rfl (fun K hK => ?_) ?_
    · go_simp
      refine hK _ _ ?_
      rw [hR]; exact s_5_6_7
    exact AllReadyIn.nil
  have s_0 : R 12 #[true, false, false, false, false, false, false, false, false, false, false, false, false] { tmps := #[z0, z1, z2, z3, .pointer (some ⟨k + 3, 0, none⟩), z5, .string nm, .string V2, z8, z9, z10, z11, z12, z13, z14, z15, z16, z17, z18, z19, z20, z21, z22, z23, z24, z25, z26, z27, z28, z29, z30, z31, z32, z33, z34, z35, z36, z37, z38, z39, z40, z41, z42, z43, z44, z45, z46, z47, z48, z49, z50, z51, z52, z53, z54, z55, z56, z57, .pointer (some ⟨k + 2, 0, none⟩), z59, z60, z61, z62, z63, z64, z65, z66, z67, z68, z69, z70, z71, z72, z73], defers := [] } W.drew := by
    rw [← hR]
    refine wpAnyIn_ready (rs := [1, 5, 6]) (by kernel_rfl) (by simp) ?_
    refine AllReadyIn.cons rfl (fun K hK => ?_) ?_
    · go_simp
      refine hK _ _ ?_
      rw [hR]; exact s_0_1
    refine AllReadyIn.cons rfl (fun K hK => ?_) ?_
    · go_simp
      refine hK _ _ ?_
      rw [hR]; exact s_0_5
    refine AllReadyIn.cons rfl (fun K hK => ?_) ?_
    · go_simp
      refine hK _ _ ?_
      rw [hR]; exact s_0_6
    exact AllReadyIn.nil
  have s_1 : R 12 #[false, true, false, false, false, false, false, false, false, false, false, false, false] { tmps := #[z0, z1, z2, z3, .pointer (some ⟨k + 3, 0, none⟩), z5, .string nm, .string V2, z8, z9, z10, z11, z12, z13, z14, z15, z16, z17, z18, z19, z20, z21, z22, z23, z24, z25, z26, z27, z28, z29, z30, z31, z32, z33, z34, z35, z36, z37, z38, z39, z40, z41, z42, z43, z44, z45, z46, z47, z48, z49, z50, z51, z52, z53, z54, z55, z56, z57, z58, .pointer (some ⟨k + 2, 0, none⟩), z60, z61, z62, z63, z64, z65, z66, z67, z68, z69, z70, z71, z72, z73], defers := [] } W.drew := by
    rw [← hR]
    refine wpAnyIn_ready (rs := [0, 2, 5, 6]) (by kernel_rfl) (by simp) ?_
    refine AllReadyIn.cons rfl (fun K hK => ?_) ?_
    · go_simp
      refine hK _ _ ?_
      rw [hR]; exact s_0_1
    refine AllReadyIn.cons rfl (fun K hK => ?_) ?_
    · go_simp
      refine hK _ _ ?_
      rw [hR]; exact s_1_2
    refine AllReadyIn.cons rfl (fun K hK => ?_) ?_
    · go_simp
      refine hK _ _ ?_
      rw [hR]; exact s_1_5
    refine AllReadyIn.cons rfl (fun K hK => ?_) ?_
    · go_simp
      refine hK _ _ ?_
      rw [hR]; exact s_1_6
    exact AllReadyIn.nil
  have s_5 : R 12 #[false, false, false, false, false, true, false, false, false, false, false, false, false] { tmps := #[z0, z1, z2, z3, .pointer (some ⟨k + 3, 0, none⟩), z5, .string nm, .string V2, z8, z9, z10, z11, z12, z13, z14, z15, z16, z17, z18, z19, z20, z21, z22, z23, z24, z25, z26, z27, z28, z29, z30, z31, z32, z33, z34, z35, z36, z37, z38, z39, z40, z41, z42, z43, z44, z45, z46, z47, z48, z49, z50, z51, z52, z53, z54, z55, z56, z57, z58, z59, z60, z61, z62, .string nm, z64, z65, z66, z67, z68, z69, z70, z71, z72, z73], defers := [] } W.drew := by
    rw [← hR]
    refine wpAnyIn_ready (rs := [0, 1, 6]) (by kernel_rfl) (by simp) ?_
    refine AllReadyIn.cons rfl (fun K hK => ?_) ?_
    · go_simp
      refine hK _ _ ?_
      rw [hR]; exact s_0_5
    refine AllReadyIn.cons rfl (fun K hK => ?_) ?_
    · go_simp
      refine hK _ _ ?_
      rw [hR]; exact s_1_5
    refine AllReadyIn.cons rfl (fun K hK => ?_) ?_
    · go_simp
      refine hK _ _ ?_
      rw [hR]; exact s_5_6
    exact AllReadyIn.nil
  have s_6 : R 12 #[false, false, false, false, false, false, true, false, false, false, false, false, false] { tmps := #[z0, z1, z2, z3, .pointer (some ⟨k + 3, 0, none⟩), z5, .string nm, .string V2, z8, z9, z10, z11, z12, z13, z14, z15, z16, z17, z18, z19, z20, z21, z22, z23, z24, z25, z26, z27, z28, z29, z30, z31, z32, z33, z34, z35, z36, z37, z38, z39, z40, z41, z42, z43, z44, z45, z46, z47, z48, z49, z50, z51, z52, z53, z54, z55, z56, z57, z58, z59, z60, z61, z62, z63, .string V2, z65, z66, z67, z68, z69, z70, z71, z72, z73], defers := [] } W.drew := by
    rw [← hR]
    refine wpAnyIn_ready (rs := [0, 1, 5]) (by kernel_rfl) (by simp) ?_
    refine AllReadyIn.cons rfl (fun K hK => ?_) ?_
    · go_simp
      refine hK _ _ ?_
      rw [hR]; exact s_0_6
    refine AllReadyIn.cons rfl (fun K hK => ?_) ?_
    · go_simp
      refine hK _ _ ?_
      rw [hR]; exact s_1_6
    refine AllReadyIn.cons rfl (fun K hK => ?_) ?_
    · go_simp
      refine hK _ _ ?_
      rw [hR]; exact s_5_6
    exact AllReadyIn.nil
  have s_0x : R 13 #[false, false, false, false, false, false, false, false, false, false, false, false, false] { tmps := #[z0, z1, z2, z3, .pointer (some ⟨k + 3, 0, none⟩), z5, .string nm, .string V2, z8, z9, z10, z11, z12, z13, z14, z15, z16, z17, z18, z19, z20, z21, z22, z23, z24, z25, z26, z27, z28, z29, z30, z31, z32, z33, z34, z35, z36, z37, z38, z39, z40, z41, z42, z43, z44, z45, z46, z47, z48, z49, z50, z51, z52, z53, z54, z55, z56, z57, z58, z59, z60, z61, z62, z63, z64, z65, z66, z67, z68, z69, z70, z71, z72, z73], defers := [] } W.drew := by
    rw [← hR]
    refine wpAnyIn_ready (rs := [0, 1, 5, 6]) (by kernel_rfl) (by simp) ?_
    refine AllReadyIn.cons rfl (fun K hK => ?_) ?_
    · go_simp
      refine hK _ _ ?_
      rw [hR]; exact s_0
    refine AllReadyIn.cons rfl (fun K hK => ?_) ?_
    · go_simp
      refine hK _ _ ?_
      rw [hR]; exact s_1
    refine AllReadyIn.cons rfl (fun K hK => ?_) ?_
    · go_simp
      refine hK _ _ ?_
      rw [hR]; exact s_5
    refine AllReadyIn.cons rfl (fun K hK => ?_) ?_
    · go_simp
      refine hK _ _ ?_
      rw [hR]; exact s_6
    exact AllReadyIn.nil
  exact s_0x
end Go.Proofs.Ytomjdicedjdpnaa
