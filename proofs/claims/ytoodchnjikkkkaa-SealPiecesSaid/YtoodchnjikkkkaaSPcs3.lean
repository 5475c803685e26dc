/- SealPieces, walked: the slice is empty. -/
import Derived.Test.YtoodchnjikkkkaaSPcs
namespace Go.Proofs.Ytoodchnjikkkkaa
open Go.RowKit

set_option maxRecDepth 100000 in
set_option maxHeartbeats 100000000 in
theorem Pieces_three (A : Option Addr) (c s : Nat) (at' : Int) (w : World) (hr : Row w w.heap.size A 0 (ints .u8 [])) (hs : c ≤ 140737488351232) (hcm : ¬ c = 0) (hat : (Lit.int .i64 at').wf = true) (hka : Hid (at' % 1 = 0)) (e2 : Hid (sumOf 0 [] = s)) : Calls Try.prog 6 #[.slice A 0 c, .int .i64 at'] w fun e w' => e = .returned (.bool true) ∧ Below w.heap.size w w' := by
  have hBr : Calls Try.prog 23 #[.int .i64 at', .int .i64 1] w fun e w' => e = .returned (.int .i64 0) ∧ w = w' := by
    have := Bring_any at' 1 w hat (by omega) (by omega)
    rwa [hka.out] at this
  have hs1 : s < 4294967296 := by rw [← e2.out]; exact sumOf_lt U8.nil (by omega)
  have e3 : Hid (sumOf 0 ([] ++ []) = s) := Lib.hid e2.out
  have e4 : Hid (sumOf s [] = s) := Lib.hid (by have h := sumOf_app 0 [] []; rw [List.append_nil, e2.out] at h; exact h.symm)
  have HR := Lib.hid hr
  have HB' := Lib.hid hBr
  have hc0 : (0 : Int) ≤ (c : Int) := by omega
  have hss : ((s : Int) == (s : Int)) = true := beq_self_eq_true _
  have HB : Hid (Below w.heap.size w w.drew) := Lib.hid ((Below.refl _ _).drew)
  clear hBr hr hat
  go_enter Try.func6, Try.ntmps6
  go_wp2_with fail
  refine HB'.out.mono ?_
  rintro e w1 ⟨rfl, rfl⟩
  clear HB'
  go_wp2_with fail
  refine wp_region_held_drew (S := fun W => Below w.drew.heap.size w.drew W) (by kernel_rfl) (Below.refl _ _) (fun hS => ?_)
  replace HR := Lib.hid (HR.out.on HB.out)
  obtain ⟨x0, hX⟩ : ∃ x, w.drew = x := ⟨_, rfl⟩
  rw [hX] at hS HR HB ⊢
  clear hX
  refine wpAnyH_take (i := 0) (oi := { dst := some 11, op := Op.move (Operand.tmp 0), type := 24, pos := "outright.go:39", after := #[], guard := none }) (v := ?v1) rfl (by kernel_rfl) (by kernel_rfl) (by kernel_rfl) (fun _ _ _ h => h) (Or.inl ⟨by rfl, ?hy1⟩) hS ?rest1
  case hy1 => (intro W _hW; go_simp; try with_reducible rfl)
  try simp only [Act.put, List.setIfInBounds_toArray, List.set_cons_zero, List.set_cons_succ]
  refine wpAnyH_take (i := 1) (oi := { dst := some 12, op := Op.move (Operand.tmp 5), type := 3, pos := "outright.go:39", after := #[], guard := none }) (v := ?v2) rfl (by kernel_rfl) (by kernel_rfl) (by kernel_rfl) (fun _ _ _ h => h) (Or.inl ⟨by rfl, ?hy2⟩) hS ?rest2
  case hy2 => (intro W _hW; go_simp; try with_reducible rfl)
  try simp only [Act.put, List.setIfInBounds_toArray, List.set_cons_zero, List.set_cons_succ]
  refine wpAnyH_take (i := 2) (oi := { dst := some 13, op := Op.slice 24 (Operand.tmp 11) none (some (Operand.tmp 12)) none, type := 24, pos := "outright.go:39", after := #[{ on := 0, ground := Ground.data }, { on := 1, ground := Ground.data }], guard := none }) (v := ?v3) rfl (by kernel_rfl) (by kernel_rfl) (by kernel_rfl) (fun _ _ _ h => h) (Or.inl ⟨by rfl, ?hy3⟩) hS ?rest3
  case hy3 => (intro W _hW; go_simp; try with_reducible rfl)
  try simp only [Act.put, List.setIfInBounds_toArray, List.set_cons_zero, List.set_cons_succ]
  refine wpAnyH_take (i := 5) (oi := { dst := some 16, op := Op.move (Operand.tmp 0), type := 24, pos := "outright.go:39", after := #[], guard := none }) (v := ?v4) rfl (by kernel_rfl) (by kernel_rfl) (by kernel_rfl) (fun _ _ _ h => h) (Or.inl ⟨by rfl, ?hy4⟩) hS ?rest4
  case hy4 => (intro W _hW; go_simp; try with_reducible rfl)
  try simp only [Act.put, List.setIfInBounds_toArray, List.set_cons_zero, List.set_cons_succ]
  refine wpAnyH_take (i := 6) (oi := { dst := some 17, op := Op.move (Operand.tmp 5), type := 3, pos := "outright.go:39", after := #[], guard := none }) (v := ?v5) rfl (by kernel_rfl) (by kernel_rfl) (by kernel_rfl) (fun _ _ _ h => h) (Or.inl ⟨by rfl, ?hy5⟩) hS ?rest5
  case hy5 => (intro W _hW; go_simp; try with_reducible rfl)
  try simp only [Act.put, List.setIfInBounds_toArray, List.set_cons_zero, List.set_cons_succ]
  refine wpAnyH_take (i := 7) (oi := { dst := some 18, op := Op.slice 24 (Operand.tmp 16) (some (Operand.tmp 17)) none none, type := 24, pos := "outright.go:39", after := #[{ on := 5, ground := Ground.data }, { on := 6, ground := Ground.data }], guard := none }) (v := ?v6) rfl (by kernel_rfl) (by kernel_rfl) (by kernel_rfl) (fun _ _ _ h => h) (Or.inl ⟨by rfl, ?hy6⟩) hS ?rest6
  case hy6 => (intro W _hW; go_simp; try with_reducible rfl)
  try simp only [Act.put, List.setIfInBounds_toArray, List.set_cons_zero, List.set_cons_succ]
  refine wpAnyH_take (i := 9) (oi := { dst := some 20, op := Op.move (Operand.tmp 0), type := 24, pos := "outright.go:39", after := #[], guard := none }) (v := ?v7) rfl (by kernel_rfl) (by kernel_rfl) (by kernel_rfl) (fun _ _ _ h => h) (Or.inl ⟨by rfl, ?hy7⟩) hS ?rest7
  case hy7 => (intro W _hW; go_simp; try with_reducible rfl)
  try simp only [Act.put, List.setIfInBounds_toArray, List.set_cons_zero, List.set_cons_succ]
  refine wpAnyH_ready (rs := [3, 10]) (by kernel_rfl) (by simp) ?_
  refine AllReadyH.cons (o := { dst := some 14, op := Op.buildSlice 22 1 #[(0, Operand.tmp 13)], type := 22, pos := "outright.go:39", after := #[{ on := 2, ground := Ground.data }], guard := none }) rfl (fun K hK => ?_) ?_
  · go_simp
    refine hK.out _ _ (hS.alloc hS.size _) (fun _ => ?_)
    clear hK K
    try simp only [Act.put, List.setIfInBounds_toArray, List.set_cons_zero, List.set_cons_succ]
    have HG3 := Lib.hid (Row.made x0 24 [.slice A 0 c])
    have bw := (Below.refl x0.heap.size x0).alloc (Nat.le_refl _) (.cells #[.slice A 0 c] 24)
    obtain ⟨x1, hX⟩ : ∃ x, x0.alloc (.cells #[.slice A 0 c] 24) = x := ⟨_, rfl⟩
    rw [hX] at bw HG3 ⊢
    clear hX
    replace HR := Lib.hid (HR.out.on bw)
    replace HB := Lib.hid (next HB.out bw)
    refine wpAnyH_narrow (T := fun V => Below x1.heap.size x1 V) (fun V hV => next bw hV) _ _ _ _ ?_
    clear bw
    have hS : Below x1.heap.size x1 x1 := Below.refl _ _
    refine wpAnyH_still (i := 4) (oi := { dst := some 15, op := Op.call { callee := Callee.value (Operand.func 11), args := #[Operand.tmp 14], argTypes := #[22] }, type := 23, pos := "outright.go:39", after := #[{ on := 3, ground := Ground.data }], guard := none }) (v := .int .u32 (s : Int)) rfl (by kernel_rfl) (by kernel_rfl) (by kernel_rfl) (fun _ _ _ h => h) hS ⟨by rfl, fun W hW => ⟨_, _, ?hr8, (Of_r1 _ A 0 c s _ [] W (HG3.out.on hW) (HR.out.on hW) U8.nil (Nat.zero_le _) e2)⟩⟩ ?rest8
    case hr8 => (go_simp; try with_reducible rfl)
    try simp only [Act.put, List.setIfInBounds_toArray, List.set_cons_zero, List.set_cons_succ]
    refine wpAnyH_still (i := 8) (oi := { dst := some 19, op := Op.call { callee := Callee.value (Operand.func 13), args := #[Operand.tmp 15, Operand.tmp 18], argTypes := #[23, 24] }, type := 23, pos := "outright.go:39", after := #[{ on := 4, ground := Ground.data }, { on := 7, ground := Ground.data }, { on := 4, ground := Ground.chain }], guard := none }) (v := .int .u32 (s : Int)) rfl (by kernel_rfl) (by kernel_rfl) (by kernel_rfl) (fun _ _ _ h => h) hS ⟨by rfl, fun W hW => ⟨_, _, ?hr9, (On_at s s A c 0 _ [] W (HR.out.on hW) U8.nil hs1 (Nat.zero_le _) e4)⟩⟩ ?rest9
    case hr9 => (go_simp; try with_reducible rfl)
    try simp only [Act.put, List.setIfInBounds_toArray, List.set_cons_zero, List.set_cons_succ]
    refine wpAnyH_ready (rs := [10]) (by kernel_rfl) (by simp) ?_
    refine AllReadyH.cons (o := { dst := some 21, op := Op.buildSlice 22 1 #[(0, Operand.tmp 20)], type := 22, pos := "outright.go:39", after := #[{ on := 9, ground := Ground.data }], guard := none }) rfl (fun K hK => ?_) ?_
    · go_simp
      refine hK.out _ _ (hS.alloc hS.size _) (fun _ => ?_)
      clear hK K
      try simp only [Act.put, List.setIfInBounds_toArray, List.set_cons_zero, List.set_cons_succ]
      have HG10 := Lib.hid (Row.made x1 24 [.slice A 0 c])
      have bw := (Below.refl x1.heap.size x1).alloc (Nat.le_refl _) (.cells #[.slice A 0 c] 24)
      obtain ⟨x2, hX⟩ : ∃ x, x1.alloc (.cells #[.slice A 0 c] 24) = x := ⟨_, rfl⟩
      rw [hX] at bw HG10 ⊢
      clear hX
      replace HR := Lib.hid (HR.out.on bw)
      replace HG3 := Lib.hid (HG3.out.on bw)
      replace HB := Lib.hid (next HB.out bw)
      refine wpAnyH_narrow (T := fun V => Below x2.heap.size x2 V) (fun V hV => next bw hV) _ _ _ _ ?_
      clear bw
      have hS : Below x2.heap.size x2 x2 := Below.refl _ _
      refine wpAnyH_still (i := 11) (oi := { dst := some 22, op := Op.call { callee := Callee.value (Operand.func 11), args := #[Operand.tmp 21], argTypes := #[22] }, type := 23, pos := "outright.go:39", after := #[{ on := 10, ground := Ground.data }, { on := 8, ground := Ground.chain }], guard := none }) (v := .int .u32 (s : Int)) rfl (by kernel_rfl) (by kernel_rfl) (by kernel_rfl) (fun _ _ _ h => h) hS ⟨by rfl, fun W hW => ⟨_, _, ?hr10, (Of_r1 _ A 0 c s _ [] W (HG10.out.on hW) (HR.out.on hW) U8.nil (Nat.zero_le _) e2)⟩⟩ ?rest10
      case hr10 => (go_simp; try with_reducible rfl)
      try simp only [Act.put, List.setIfInBounds_toArray, List.set_cons_zero, List.set_cons_succ]
      refine wpAnyH_take (i := 12) (oi := { dst := some 23, op := Op.binOp BinOp.eql 23 (Operand.tmp 19) (Operand.tmp 22) 23, type := 4, pos := "outright.go:39", after := #[{ on := 8, ground := Ground.data }, { on := 11, ground := Ground.data }], guard := none }) (v := ?v11) rfl (by kernel_rfl) (by kernel_rfl) (by kernel_rfl) (fun _ _ _ h => h) (Or.inl ⟨by rfl, ?hy11⟩) hS ?rest11
      case hy11 => (intro W _hW; go_simp; try with_reducible rfl)
      try simp only [Act.put, List.setIfInBounds_toArray, List.set_cons_zero, List.set_cons_succ]
      refine wpAnyH_take (i := 13) (oi := { dst := some 24, op := Op.move (Operand.tmp 23), type := 4, pos := "outright.go:39", after := #[{ on := 12, ground := Ground.data }, { on := 11, ground := Ground.chain }], guard := none }) (v := ?v12) rfl (by kernel_rfl) (by kernel_rfl) (by kernel_rfl) (fun _ _ _ h => h) (Or.inl ⟨by rfl, ?hy12⟩) hS ?rest12
      case hy12 => (intro W _hW; go_simp; try with_reducible rfl)
      try simp only [Act.put, List.setIfInBounds_toArray, List.set_cons_zero, List.set_cons_succ]
      refine wpAnyH_take (i := 14) (oi := { dst := some 25, op := Op.move (Operand.tmp 0), type := 24, pos := "outright.go:39", after := #[{ on := 13, ground := Ground.guard }], guard := some (13, true) }) (v := ?v13) rfl (by kernel_rfl) (by kernel_rfl) (by kernel_rfl) (fun _ _ _ h => h) (Or.inl ⟨by rfl, ?hy13⟩) hS ?rest13
      case hy13 => (intro W _hW; go_simp; try with_reducible rfl)
      try simp only [Act.put, List.setIfInBounds_toArray, List.set_cons_zero, List.set_cons_succ]
      refine wpAnyH_take (i := 15) (oi := { dst := some 26, op := Op.move (Operand.tmp 5), type := 3, pos := "outright.go:39", after := #[{ on := 13, ground := Ground.guard }], guard := some (13, true) }) (v := ?v14) rfl (by kernel_rfl) (by kernel_rfl) (by kernel_rfl) (fun _ _ _ h => h) (Or.inl ⟨by rfl, ?hy14⟩) hS ?rest14
      case hy14 => (intro W _hW; go_simp; try with_reducible rfl)
      try simp only [Act.put, List.setIfInBounds_toArray, List.set_cons_zero, List.set_cons_succ]
      refine wpAnyH_take (i := 16) (oi := { dst := some 27, op := Op.slice 24 (Operand.tmp 25) none (some (Operand.tmp 26)) none, type := 24, pos := "outright.go:39", after := #[{ on := 14, ground := Ground.data }, { on := 15, ground := Ground.data }, { on := 13, ground := Ground.guard }], guard := some (13, true) }) (v := ?v15) rfl (by kernel_rfl) (by kernel_rfl) (by kernel_rfl) (fun _ _ _ h => h) (Or.inl ⟨by rfl, ?hy15⟩) hS ?rest15
      case hy15 => (intro W _hW; go_simp; try with_reducible rfl)
      try simp only [Act.put, List.setIfInBounds_toArray, List.set_cons_zero, List.set_cons_succ]
      refine wpAnyH_take (i := 17) (oi := { dst := some 28, op := Op.move (Operand.tmp 0), type := 24, pos := "outright.go:39", after := #[{ on := 13, ground := Ground.guard }], guard := some (13, true) }) (v := ?v16) rfl (by kernel_rfl) (by kernel_rfl) (by kernel_rfl) (fun _ _ _ h => h) (Or.inl ⟨by rfl, ?hy16⟩) hS ?rest16
      case hy16 => (intro W _hW; go_simp; try with_reducible rfl)
      try simp only [Act.put, List.setIfInBounds_toArray, List.set_cons_zero, List.set_cons_succ]
      refine wpAnyH_take (i := 18) (oi := { dst := some 29, op := Op.move (Operand.tmp 5), type := 3, pos := "outright.go:39", after := #[{ on := 13, ground := Ground.guard }], guard := some (13, true) }) (v := ?v17) rfl (by kernel_rfl) (by kernel_rfl) (by kernel_rfl) (fun _ _ _ h => h) (Or.inl ⟨by rfl, ?hy17⟩) hS ?rest17
      case hy17 => (intro W _hW; go_simp; try with_reducible rfl)
      try simp only [Act.put, List.setIfInBounds_toArray, List.set_cons_zero, List.set_cons_succ]
      refine wpAnyH_take (i := 19) (oi := { dst := some 30, op := Op.slice 24 (Operand.tmp 28) (some (Operand.tmp 29)) none none, type := 24, pos := "outright.go:39", after := #[{ on := 17, ground := Ground.data }, { on := 18, ground := Ground.data }, { on := 13, ground := Ground.guard }], guard := some (13, true) }) (v := ?v18) rfl (by kernel_rfl) (by kernel_rfl) (by kernel_rfl) (fun _ _ _ h => h) (Or.inl ⟨by rfl, ?hy18⟩) hS ?rest18
      case hy18 => (intro W _hW; go_simp; try with_reducible rfl)
      try simp only [Act.put, List.setIfInBounds_toArray, List.set_cons_zero, List.set_cons_succ]
      refine wpAnyH_take (i := 22) (oi := { dst := some 33, op := Op.move (Operand.tmp 0), type := 24, pos := "outright.go:39", after := #[{ on := 13, ground := Ground.guard }], guard := some (13, true) }) (v := ?v19) rfl (by kernel_rfl) (by kernel_rfl) (by kernel_rfl) (fun _ _ _ h => h) (Or.inl ⟨by rfl, ?hy19⟩) hS ?rest19
      case hy19 => (intro W _hW; go_simp; try with_reducible rfl)
      try simp only [Act.put, List.setIfInBounds_toArray, List.set_cons_zero, List.set_cons_succ]
      refine wpAnyH_ready (rs := [20, 23]) (by kernel_rfl) (by simp) ?_
      refine AllReadyH.cons (o := { dst := some 31, op := Op.buildSlice 22 2 #[(0, Operand.tmp 27), (1, Operand.tmp 30)], type := 22, pos := "outright.go:39", after := #[{ on := 16, ground := Ground.data }, { on := 19, ground := Ground.data }, { on := 13, ground := Ground.guard }], guard := some (13, true) }) rfl (fun K hK => ?_) ?_
      · go_simp
        refine hK.out _ _ (hS.alloc hS.size _) (fun _ => ?_)
        clear hK K
        try simp only [Act.put, List.setIfInBounds_toArray, List.set_cons_zero, List.set_cons_succ]
        have HG20 := Lib.hid (Row.made x2 24 [.slice A 0 c, .slice A 0 c])
        have bw := (Below.refl x2.heap.size x2).alloc (Nat.le_refl _) (.cells #[.slice A 0 c, .slice A 0 c] 24)
        obtain ⟨x3, hX⟩ : ∃ x, x2.alloc (.cells #[.slice A 0 c, .slice A 0 c] 24) = x := ⟨_, rfl⟩
        rw [hX] at bw HG20 ⊢
        clear hX
        replace HR := Lib.hid (HR.out.on bw)
        replace HG3 := Lib.hid (HG3.out.on bw)
        replace HG10 := Lib.hid (HG10.out.on bw)
        replace HB := Lib.hid (next HB.out bw)
        refine wpAnyH_narrow (T := fun V => Below x3.heap.size x3 V) (fun V hV => next bw hV) _ _ _ _ ?_
        clear bw
        have hS : Below x3.heap.size x3 x3 := Below.refl _ _
        refine wpAnyH_still (i := 21) (oi := { dst := some 32, op := Op.call { callee := Callee.value (Operand.func 11), args := #[Operand.tmp 31], argTypes := #[22] }, type := 23, pos := "outright.go:39", after := #[{ on := 20, ground := Ground.data }, { on := 13, ground := Ground.chain }, { on := 13, ground := Ground.guard }], guard := some (13, true) }) (v := .int .u32 (s : Int)) rfl (by kernel_rfl) (by kernel_rfl) (by kernel_rfl) (fun _ _ _ h => h) hS ⟨by rfl, fun W hW => ⟨_, _, ?hr20, (Of_r2 _ A A 0 c 0 c s _ [] [] W (HG20.out.on hW) (HR.out.on hW) (HR.out.on hW) U8.nil U8.nil (Nat.zero_le _) (Nat.zero_le _) e3)⟩⟩ ?rest20
        case hr20 => (go_simp; try with_reducible rfl)
        try simp only [Act.put, List.setIfInBounds_toArray, List.set_cons_zero, List.set_cons_succ]
        refine wpAnyH_ready (rs := [23]) (by kernel_rfl) (by simp) ?_
        refine AllReadyH.cons (o := { dst := some 34, op := Op.buildSlice 22 1 #[(0, Operand.tmp 33)], type := 22, pos := "outright.go:39", after := #[{ on := 22, ground := Ground.data }, { on := 13, ground := Ground.guard }], guard := some (13, true) }) rfl (fun K hK => ?_) ?_
        · go_simp
          refine hK.out _ _ (hS.alloc hS.size _) (fun _ => ?_)
          clear hK K
          try simp only [Act.put, List.setIfInBounds_toArray, List.set_cons_zero, List.set_cons_succ]
          have HG23 := Lib.hid (Row.made x3 24 [.slice A 0 c])
          have bw := (Below.refl x3.heap.size x3).alloc (Nat.le_refl _) (.cells #[.slice A 0 c] 24)
          obtain ⟨x4, hX⟩ : ∃ x, x3.alloc (.cells #[.slice A 0 c] 24) = x := ⟨_, rfl⟩
          rw [hX] at bw HG23 ⊢
          clear hX
          replace HR := Lib.hid (HR.out.on bw)
          replace HG3 := Lib.hid (HG3.out.on bw)
          replace HG10 := Lib.hid (HG10.out.on bw)
          replace HG20 := Lib.hid (HG20.out.on bw)
          replace HB := Lib.hid (next HB.out bw)
          refine wpAnyH_narrow (T := fun V => Below x4.heap.size x4 V) (fun V hV => next bw hV) _ _ _ _ ?_
          clear bw
          have hS : Below x4.heap.size x4 x4 := Below.refl _ _
          refine wpAnyH_still (i := 24) (oi := { dst := some 35, op := Op.call { callee := Callee.value (Operand.func 11), args := #[Operand.tmp 34], argTypes := #[22] }, type := 23, pos := "outright.go:39", after := #[{ on := 23, ground := Ground.data }, { on := 21, ground := Ground.chain }, { on := 13, ground := Ground.guard }], guard := some (13, true) }) (v := .int .u32 (s : Int)) rfl (by kernel_rfl) (by kernel_rfl) (by kernel_rfl) (fun _ _ _ h => h) hS ⟨by rfl, fun W hW => ⟨_, _, ?hr21, (Of_r1 _ A 0 c s _ [] W (HG23.out.on hW) (HR.out.on hW) U8.nil (Nat.zero_le _) e2)⟩⟩ ?rest21
          case hr21 => (go_simp; try with_reducible rfl)
          try simp only [Act.put, List.setIfInBounds_toArray, List.set_cons_zero, List.set_cons_succ]
          refine wpAnyH_take (i := 25) (oi := { dst := some 36, op := Op.binOp BinOp.eql 23 (Operand.tmp 32) (Operand.tmp 35) 23, type := 4, pos := "outright.go:39", after := #[{ on := 21, ground := Ground.data }, { on := 24, ground := Ground.data }, { on := 13, ground := Ground.guard }], guard := some (13, true) }) (v := ?v22) rfl (by kernel_rfl) (by kernel_rfl) (by kernel_rfl) (fun _ _ _ h => h) (Or.inl ⟨by rfl, ?hy22⟩) hS ?rest22
          case hy22 => (intro W _hW; go_simp; try with_reducible rfl)
          try simp only [Act.put, List.setIfInBounds_toArray, List.set_cons_zero, List.set_cons_succ]
          refine wpAnyH_take (i := 26) (oi := { dst := some 37, op := Op.pick (Operand.tmp 24) (Operand.tmp 36) (Operand.const (Value.bool false)), type := 4, pos := "outright.go:39", after := #[{ on := 13, ground := Ground.data }, { on := 25, ground := Ground.data }], guard := none }) (v := ?v23) rfl (by kernel_rfl) (by kernel_rfl) (by kernel_rfl) (fun _ _ _ h => h) (Or.inl ⟨by rfl, ?hy23⟩) hS ?rest23
          case hy23 => (intro W _hW; go_simp; try with_reducible rfl)
          try simp only [Act.put, List.setIfInBounds_toArray, List.set_cons_zero, List.set_cons_succ]
          refine wpAnyH_take (i := 27) (oi := { dst := some 38, op := Op.move (Operand.tmp 37), type := 4, pos := "outright.go:39", after := #[{ on := 26, ground := Ground.data }, { on := 24, ground := Ground.chain }], guard := none }) (v := ?v24) rfl (by kernel_rfl) (by kernel_rfl) (by kernel_rfl) (fun _ _ _ h => h) (Or.inl ⟨by rfl, ?hy24⟩) hS ?rest24
          case hy24 => (intro W _hW; go_simp; try with_reducible rfl)
          try simp only [Act.put, List.setIfInBounds_toArray, List.set_cons_zero, List.set_cons_succ]
          refine wpAnyH_take (i := 28) (oi := { dst := some 39, op := Op.move (Operand.tmp 0), type := 24, pos := "outright.go:39", after := #[{ on := 27, ground := Ground.guard }], guard := some (27, true) }) (v := ?v25) rfl (by kernel_rfl) (by kernel_rfl) (by kernel_rfl) (fun _ _ _ h => h) (Or.inl ⟨by rfl, ?hy25⟩) hS ?rest25
          case hy25 => (intro W _hW; go_simp; try with_reducible rfl)
          try simp only [Act.put, List.setIfInBounds_toArray, List.set_cons_zero, List.set_cons_succ]
          refine wpAnyH_still (i := 29) (oi := { dst := some 40, op := Op.call { callee := Callee.value (Operand.func 13), args := #[Operand.const (Value.int IntKind.u32 0), Operand.tmp 39], argTypes := #[23, 24] }, type := 23, pos := "outright.go:39", after := #[{ on := 28, ground := Ground.data }, { on := 27, ground := Ground.chain }, { on := 27, ground := Ground.guard }], guard := some (27, true) }) (v := .int .u32 (s : Int)) rfl (by kernel_rfl) (by kernel_rfl) (by kernel_rfl) (fun _ _ _ h => h) hS ⟨by rfl, fun W hW => ⟨_, _, ?hr26, (On_zero s A c 0 _ [] W (HR.out.on hW) U8.nil (Nat.zero_le _) e2)⟩⟩ ?rest26
          case hr26 => (go_simp; try with_reducible rfl)
          try simp only [Act.put, List.setIfInBounds_toArray, List.set_cons_zero, List.set_cons_succ]
          refine wpAnyH_take (i := 30) (oi := { dst := some 41, op := Op.move (Operand.tmp 0), type := 24, pos := "outright.go:39", after := #[{ on := 27, ground := Ground.guard }], guard := some (27, true) }) (v := ?v27) rfl (by kernel_rfl) (by kernel_rfl) (by kernel_rfl) (fun _ _ _ h => h) (Or.inl ⟨by rfl, ?hy27⟩) hS ?rest27
          case hy27 => (intro W _hW; go_simp; try with_reducible rfl)
          try simp only [Act.put, List.setIfInBounds_toArray, List.set_cons_zero, List.set_cons_succ]
          refine wpAnyH_ready (rs := [31]) (by kernel_rfl) (by simp) ?_
          refine AllReadyH.cons (o := { dst := some 42, op := Op.buildSlice 22 1 #[(0, Operand.tmp 41)], type := 22, pos := "outright.go:39", after := #[{ on := 30, ground := Ground.data }, { on := 27, ground := Ground.guard }], guard := some (27, true) }) rfl (fun K hK => ?_) ?_
          · go_simp
            refine hK.out _ _ (hS.alloc hS.size _) (fun _ => ?_)
            clear hK K
            try simp only [Act.put, List.setIfInBounds_toArray, List.set_cons_zero, List.set_cons_succ]
            have HG31 := Lib.hid (Row.made x4 24 [.slice A 0 c])
            have bw := (Below.refl x4.heap.size x4).alloc (Nat.le_refl _) (.cells #[.slice A 0 c] 24)
            obtain ⟨x5, hX⟩ : ∃ x, x4.alloc (.cells #[.slice A 0 c] 24) = x := ⟨_, rfl⟩
            rw [hX] at bw HG31 ⊢
            clear hX
            replace HR := Lib.hid (HR.out.on bw)
            replace HG3 := Lib.hid (HG3.out.on bw)
            replace HG10 := Lib.hid (HG10.out.on bw)
            replace HG20 := Lib.hid (HG20.out.on bw)
            replace HG23 := Lib.hid (HG23.out.on bw)
            replace HB := Lib.hid (next HB.out bw)
            refine wpAnyH_narrow (T := fun V => Below x5.heap.size x5 V) (fun V hV => next bw hV) _ _ _ _ ?_
            clear bw
            have hS : Below x5.heap.size x5 x5 := Below.refl _ _
            refine wpAnyH_still (i := 32) (oi := { dst := some 43, op := Op.call { callee := Callee.value (Operand.func 11), args := #[Operand.tmp 42], argTypes := #[22] }, type := 23, pos := "outright.go:39", after := #[{ on := 31, ground := Ground.data }, { on := 29, ground := Ground.chain }, { on := 27, ground := Ground.guard }], guard := some (27, true) }) (v := .int .u32 (s : Int)) rfl (by kernel_rfl) (by kernel_rfl) (by kernel_rfl) (fun _ _ _ h => h) hS ⟨by rfl, fun W hW => ⟨_, _, ?hr28, (Of_r1 _ A 0 c s _ [] W (HG31.out.on hW) (HR.out.on hW) U8.nil (Nat.zero_le _) e2)⟩⟩ ?rest28
            case hr28 => (go_simp; try with_reducible rfl)
            try simp only [Act.put, List.setIfInBounds_toArray, List.set_cons_zero, List.set_cons_succ]
            refine wpAnyH_take (i := 33) (oi := { dst := some 44, op := Op.binOp BinOp.eql 23 (Operand.tmp 40) (Operand.tmp 43) 23, type := 4, pos := "outright.go:39", after := #[{ on := 29, ground := Ground.data }, { on := 32, ground := Ground.data }, { on := 27, ground := Ground.guard }], guard := some (27, true) }) (v := ?v29) rfl (by kernel_rfl) (by kernel_rfl) (by kernel_rfl) (fun _ _ _ h => h) (Or.inl ⟨by rfl, ?hy29⟩) hS ?rest29
            case hy29 => (intro W _hW; go_simp; try with_reducible rfl)
            try simp only [Act.put, List.setIfInBounds_toArray, List.set_cons_zero, List.set_cons_succ]
            refine wpAnyH_take (i := 34) (oi := { dst := some 45, op := Op.pick (Operand.tmp 38) (Operand.tmp 44) (Operand.const (Value.bool false)), type := 4, pos := "outright.go:39", after := #[{ on := 27, ground := Ground.data }, { on := 33, ground := Ground.data }], guard := none }) (v := ?v30) rfl (by kernel_rfl) (by kernel_rfl) (by kernel_rfl) (fun _ _ _ h => h) (Or.inl ⟨by rfl, ?hy30⟩) hS ?rest30
            case hy30 => (intro W _hW; go_simp; try with_reducible rfl)
            try simp only [Act.put, List.setIfInBounds_toArray, List.set_cons_zero, List.set_cons_succ]
            refine wpAnyH_take (i := 35) (oi := { dst := some 46, op := Op.move (Operand.tmp 45), type := 4, pos := "outright.go:39", after := #[{ on := 34, ground := Ground.data }, { on := 32, ground := Ground.chain }], guard := none }) (v := ?v31) rfl (by kernel_rfl) (by kernel_rfl) (by kernel_rfl) (fun _ _ _ h => h) (Or.inl ⟨by rfl, ?hy31⟩) hS ?rest31
            case hy31 => (intro W _hW; go_simp; try with_reducible rfl)
            try simp only [Act.put, List.setIfInBounds_toArray, List.set_cons_zero, List.set_cons_succ]
            refine wpAnyH_take (i := 36) (oi := { dst := some 47, op := Op.move (Operand.tmp 0), type := 24, pos := "outright.go:39", after := #[{ on := 35, ground := Ground.guard }], guard := some (35, true) }) (v := ?v32) rfl (by kernel_rfl) (by kernel_rfl) (by kernel_rfl) (fun _ _ _ h => h) (Or.inl ⟨by rfl, ?hy32⟩) hS ?rest32
            case hy32 => (intro W _hW; go_simp; try with_reducible rfl)
            try simp only [Act.put, List.setIfInBounds_toArray, List.set_cons_zero, List.set_cons_succ]
            refine wpAnyH_take (i := 39) (oi := { dst := some 50, op := Op.move (Operand.tmp 0), type := 24, pos := "outright.go:39", after := #[{ on := 35, ground := Ground.guard }], guard := some (35, true) }) (v := ?v33) rfl (by kernel_rfl) (by kernel_rfl) (by kernel_rfl) (fun _ _ _ h => h) (Or.inl ⟨by rfl, ?hy33⟩) hS ?rest33
            case hy33 => (intro W _hW; go_simp; try with_reducible rfl)
            try simp only [Act.put, List.setIfInBounds_toArray, List.set_cons_zero, List.set_cons_succ]
            refine wpAnyH_ready (rs := [37, 40]) (by kernel_rfl) (by simp) ?_
            refine AllReadyH.cons (o := { dst := some 48, op := Op.buildSlice 22 3 #[(0, Operand.const (Value.slice none 0 0)), (1, Operand.tmp 47), (2, Operand.const (Value.slice none 0 0))], type := 22, pos := "outright.go:39", after := #[{ on := 36, ground := Ground.data }, { on := 35, ground := Ground.guard }], guard := some (35, true) }) rfl (fun K hK => ?_) ?_
            · go_simp
              refine hK.out _ _ (hS.alloc hS.size _) (fun _ => ?_)
              clear hK K
              try simp only [Act.put, List.setIfInBounds_toArray, List.set_cons_zero, List.set_cons_succ]
              have HG37 := Lib.hid (Row.made x5 24 [.slice none 0 0, .slice A 0 c, .slice none 0 0])
              have bw := (Below.refl x5.heap.size x5).alloc (Nat.le_refl _) (.cells #[.slice none 0 0, .slice A 0 c, .slice none 0 0] 24)
              obtain ⟨x6, hX⟩ : ∃ x, x5.alloc (.cells #[.slice none 0 0, .slice A 0 c, .slice none 0 0] 24) = x := ⟨_, rfl⟩
              rw [hX] at bw HG37 ⊢
              clear hX
              replace HR := Lib.hid (HR.out.on bw)
              replace HG3 := Lib.hid (HG3.out.on bw)
              replace HG10 := Lib.hid (HG10.out.on bw)
              replace HG20 := Lib.hid (HG20.out.on bw)
              replace HG23 := Lib.hid (HG23.out.on bw)
              replace HG31 := Lib.hid (HG31.out.on bw)
              replace HB := Lib.hid (next HB.out bw)
              refine wpAnyH_narrow (T := fun V => Below x6.heap.size x6 V) (fun V hV => next bw hV) _ _ _ _ ?_
              clear bw
              have hS : Below x6.heap.size x6 x6 := Below.refl _ _
              refine wpAnyH_still (i := 38) (oi := { dst := some 49, op := Op.call { callee := Callee.value (Operand.func 11), args := #[Operand.tmp 48], argTypes := #[22] }, type := 23, pos := "outright.go:39", after := #[{ on := 37, ground := Ground.data }, { on := 35, ground := Ground.chain }, { on := 35, ground := Ground.guard }], guard := some (35, true) }) (v := .int .u32 (s : Int)) rfl (by kernel_rfl) (by kernel_rfl) (by kernel_rfl) (fun _ _ _ h => h) hS ⟨by rfl, fun W hW => ⟨_, _, ?hr34, (Of_r3 _ A 0 c s _ [] W (HG37.out.on hW) (HR.out.on hW) U8.nil (Nat.zero_le _) e2)⟩⟩ ?rest34
              case hr34 => (go_simp; try with_reducible rfl)
              try simp only [Act.put, List.setIfInBounds_toArray, List.set_cons_zero, List.set_cons_succ]
              refine wpAnyH_ready (rs := [40]) (by kernel_rfl) (by simp) ?_
              refine AllReadyH.cons (o := { dst := some 51, op := Op.buildSlice 22 1 #[(0, Operand.tmp 50)], type := 22, pos := "outright.go:39", after := #[{ on := 39, ground := Ground.data }, { on := 35, ground := Ground.guard }], guard := some (35, true) }) rfl (fun K hK => ?_) ?_
              · go_simp
                refine hK.out _ _ (hS.alloc hS.size _) (fun _ => ?_)
                clear hK K
                try simp only [Act.put, List.setIfInBounds_toArray, List.set_cons_zero, List.set_cons_succ]
                have HG40 := Lib.hid (Row.made x6 24 [.slice A 0 c])
                have bw := (Below.refl x6.heap.size x6).alloc (Nat.le_refl _) (.cells #[.slice A 0 c] 24)
                obtain ⟨x7, hX⟩ : ∃ x, x6.alloc (.cells #[.slice A 0 c] 24) = x := ⟨_, rfl⟩
                rw [hX] at bw HG40 ⊢
                clear hX
                replace HR := Lib.hid (HR.out.on bw)
                replace HG3 := Lib.hid (HG3.out.on bw)
                replace HG10 := Lib.hid (HG10.out.on bw)
                replace HG20 := Lib.hid (HG20.out.on bw)
                replace HG23 := Lib.hid (HG23.out.on bw)
                replace HG31 := Lib.hid (HG31.out.on bw)
                replace HG37 := Lib.hid (HG37.out.on bw)
                replace HB := Lib.hid (next HB.out bw)
                refine wpAnyH_narrow (T := fun V => Below x7.heap.size x7 V) (fun V hV => next bw hV) _ _ _ _ ?_
                clear bw
                have hS : Below x7.heap.size x7 x7 := Below.refl _ _
                refine wpAnyH_still (i := 41) (oi := { dst := some 52, op := Op.call { callee := Callee.value (Operand.func 11), args := #[Operand.tmp 51], argTypes := #[22] }, type := 23, pos := "outright.go:39", after := #[{ on := 40, ground := Ground.data }, { on := 38, ground := Ground.chain }, { on := 35, ground := Ground.guard }], guard := some (35, true) }) (v := .int .u32 (s : Int)) rfl (by kernel_rfl) (by kernel_rfl) (by kernel_rfl) (fun _ _ _ h => h) hS ⟨by rfl, fun W hW => ⟨_, _, ?hr35, (Of_r1 _ A 0 c s _ [] W (HG40.out.on hW) (HR.out.on hW) U8.nil (Nat.zero_le _) e2)⟩⟩ ?rest35
                case hr35 => (go_simp; try with_reducible rfl)
                try simp only [Act.put, List.setIfInBounds_toArray, List.set_cons_zero, List.set_cons_succ]
                refine wpAnyH_take (i := 42) (oi := { dst := some 53, op := Op.binOp BinOp.eql 23 (Operand.tmp 49) (Operand.tmp 52) 23, type := 4, pos := "outright.go:39", after := #[{ on := 38, ground := Ground.data }, { on := 41, ground := Ground.data }, { on := 35, ground := Ground.guard }], guard := some (35, true) }) (v := ?v36) rfl (by kernel_rfl) (by kernel_rfl) (by kernel_rfl) (fun _ _ _ h => h) (Or.inl ⟨by rfl, ?hy36⟩) hS ?rest36
                case hy36 => (intro W _hW; go_simp; try with_reducible rfl)
                try simp only [Act.put, List.setIfInBounds_toArray, List.set_cons_zero, List.set_cons_succ]
                refine wpAnyH_take (i := 43) (oi := { dst := some 54, op := Op.pick (Operand.tmp 46) (Operand.tmp 53) (Operand.const (Value.bool false)), type := 4, pos := "outright.go:39", after := #[{ on := 35, ground := Ground.data }, { on := 42, ground := Ground.data }], guard := none }) (v := ?v37) rfl (by kernel_rfl) (by kernel_rfl) (by kernel_rfl) (fun _ _ _ h => h) (Or.inl ⟨by rfl, ?hy37⟩) hS ?rest37
                case hy37 => (intro W _hW; go_simp; try with_reducible rfl)
                try simp only [Act.put, List.setIfInBounds_toArray, List.set_cons_zero, List.set_cons_succ]
                refine wpAnyH_take (i := 44) (oi := { dst := some 55, op := Op.move (Operand.tmp 54), type := 4, pos := "outright.go:39", after := #[{ on := 43, ground := Ground.data }, { on := 41, ground := Ground.chain }], guard := none }) (v := ?v38) rfl (by kernel_rfl) (by kernel_rfl) (by kernel_rfl) (fun _ _ _ h => h) (Or.inl ⟨by rfl, ?hy38⟩) hS ?rest38
                case hy38 => (intro W _hW; go_simp; try with_reducible rfl)
                try simp only [Act.put, List.setIfInBounds_toArray, List.set_cons_zero, List.set_cons_succ]
                refine wpAnyH_ready (rs := [45]) (by kernel_rfl) (by simp) ?_
                refine AllReadyH.cons (o := { dst := some 56, op := Op.call { callee := Callee.value (Operand.func 18), args := #[], argTypes := #[] }, type := 4, pos := "outright.go:39", after := #[{ on := 44, ground := Ground.chain }, { on := 44, ground := Ground.guard }], guard := some (44, true) }) rfl (fun K hK => ?_) ?_
                · go_simp
                  refine (awake_any _).mono ?_
                  rintro e wz ⟨rfl, hz⟩
                  refine hK.out _ _ hz (fun hS => ?_)
                  clear hK K
                  replace HB := Lib.hid (next HB.out hz)
                  try simp only [Act.put, List.setIfInBounds_toArray, List.set_cons_zero, List.set_cons_succ]
                  refine wpAnyH_take (i := 46) (oi := { dst := some 57, op := Op.pick (Operand.tmp 55) (Operand.tmp 56) (Operand.const (Value.bool false)), type := 4, pos := "outright.go:39", after := #[{ on := 44, ground := Ground.data }, { on := 45, ground := Ground.data }], guard := none }) (v := ?v39) rfl (by kernel_rfl) (by kernel_rfl) (by kernel_rfl) (fun _ _ _ h => h) (Or.inl ⟨by rfl, ?hy39⟩) hS ?rest39
                  case hy39 => (intro W _hW; go_simp; try with_reducible rfl)
                  try simp only [Act.put, List.setIfInBounds_toArray, List.set_cons_zero, List.set_cons_succ]
                  refine wpAnyH_take (i := 47) (oi := { dst := some 4, op := Op.assign (Operand.tmp 57), type := 4, pos := "outright.go:39", after := #[{ on := 46, ground := Ground.data }, { on := 45, ground := Ground.chain }, { on := 0, ground := Ground.phase }, { on := 1, ground := Ground.phase }, { on := 2, ground := Ground.phase }, { on := 3, ground := Ground.phase }, { on := 4, ground := Ground.phase }, { on := 5, ground := Ground.phase }, { on := 6, ground := Ground.phase }, { on := 7, ground := Ground.phase }, { on := 8, ground := Ground.phase }, { on := 9, ground := Ground.phase }, { on := 10, ground := Ground.phase }, { on := 11, ground := Ground.phase }, { on := 12, ground := Ground.phase }, { on := 13, ground := Ground.phase }, { on := 14, ground := Ground.phase }, { on := 15, ground := Ground.phase }, { on := 16, ground := Ground.phase }, { on := 17, ground := Ground.phase }, { on := 18, ground := Ground.phase }, { on := 19, ground := Ground.phase }, { on := 20, ground := Ground.phase }, { on := 21, ground := Ground.phase }, { on := 22, ground := Ground.phase }, { on := 23, ground := Ground.phase }, { on := 24, ground := Ground.phase }, { on := 25, ground := Ground.phase }, { on := 26, ground := Ground.phase }, { on := 27, ground := Ground.phase }, { on := 28, ground := Ground.phase }, { on := 29, ground := Ground.phase }, { on := 30, ground := Ground.phase }, { on := 31, ground := Ground.phase }, { on := 32, ground := Ground.phase }, { on := 33, ground := Ground.phase }, { on := 34, ground := Ground.phase }, { on := 35, ground := Ground.phase }, { on := 36, ground := Ground.phase }, { on := 37, ground := Ground.phase }, { on := 38, ground := Ground.phase }, { on := 39, ground := Ground.phase }, { on := 40, ground := Ground.phase }, { on := 41, ground := Ground.phase }, { on := 42, ground := Ground.phase }, { on := 43, ground := Ground.phase }, { on := 44, ground := Ground.phase }, { on := 45, ground := Ground.phase }, { on := 46, ground := Ground.phase }], guard := none }) (v := ?v40) rfl (by kernel_rfl) (by kernel_rfl) (by kernel_rfl) (fun _ _ _ h => h) (Or.inl ⟨by rfl, ?hy40⟩) hS ?rest40
                  case hy40 => (intro W _hW; go_simp; try with_reducible rfl)
                  try simp only [Act.put, List.setIfInBounds_toArray, List.set_cons_zero, List.set_cons_succ]
                  refine wpAnyH_done (by kernel_rfl) ?_ _
                  go_wp2
                  go_ret
                  exact ⟨rfl, HB.out⟩
                exact AllReadyH.nil
              exact AllReadyH.nil
            refine AllReadyH.cons (o := { dst := some 51, op := Op.buildSlice 22 1 #[(0, Operand.tmp 50)], type := 22, pos := "outright.go:39", after := #[{ on := 39, ground := Ground.data }, { on := 35, ground := Ground.guard }], guard := some (35, true) }) rfl (fun K hK => ?_) ?_
            · go_simp
              refine hK.out _ _ (hS.alloc hS.size _) (fun _ => ?_)
              clear hK K
              try simp only [Act.put, List.setIfInBounds_toArray, List.set_cons_zero, List.set_cons_succ]
              have HG40 := Lib.hid (Row.made x5 24 [.slice A 0 c])
              have bw := (Below.refl x5.heap.size x5).alloc (Nat.le_refl _) (.cells #[.slice A 0 c] 24)
              obtain ⟨x8, hX⟩ : ∃ x, x5.alloc (.cells #[.slice A 0 c] 24) = x := ⟨_, rfl⟩
              rw [hX] at bw HG40 ⊢
              clear hX
              replace HR := Lib.hid (HR.out.on bw)
              replace HG3 := Lib.hid (HG3.out.on bw)
              replace HG10 := Lib.hid (HG10.out.on bw)
              replace HG20 := Lib.hid (HG20.out.on bw)
              replace HG23 := Lib.hid (HG23.out.on bw)
              replace HG31 := Lib.hid (HG31.out.on bw)
              replace HB := Lib.hid (next HB.out bw)
              refine wpAnyH_narrow (T := fun V => Below x8.heap.size x8 V) (fun V hV => next bw hV) _ _ _ _ ?_
              clear bw
              have hS : Below x8.heap.size x8 x8 := Below.refl _ _
              refine wpAnyH_ready (rs := [37]) (by kernel_rfl) (by simp) ?_
              refine AllReadyH.cons (o := { dst := some 48, op := Op.buildSlice 22 3 #[(0, Operand.const (Value.slice none 0 0)), (1, Operand.tmp 47), (2, Operand.const (Value.slice none 0 0))], type := 22, pos := "outright.go:39", after := #[{ on := 36, ground := Ground.data }, { on := 35, ground := Ground.guard }], guard := some (35, true) }) rfl (fun K hK => ?_) ?_
              · go_simp
                refine hK.out _ _ (hS.alloc hS.size _) (fun _ => ?_)
                clear hK K
                try simp only [Act.put, List.setIfInBounds_toArray, List.set_cons_zero, List.set_cons_succ]
                have HG37 := Lib.hid (Row.made x8 24 [.slice none 0 0, .slice A 0 c, .slice none 0 0])
                have bw := (Below.refl x8.heap.size x8).alloc (Nat.le_refl _) (.cells #[.slice none 0 0, .slice A 0 c, .slice none 0 0] 24)
                obtain ⟨x9, hX⟩ : ∃ x, x8.alloc (.cells #[.slice none 0 0, .slice A 0 c, .slice none 0 0] 24) = x := ⟨_, rfl⟩
                rw [hX] at bw HG37 ⊢
                clear hX
                replace HR := Lib.hid (HR.out.on bw)
                replace HG3 := Lib.hid (HG3.out.on bw)
                replace HG10 := Lib.hid (HG10.out.on bw)
                replace HG20 := Lib.hid (HG20.out.on bw)
                replace HG23 := Lib.hid (HG23.out.on bw)
                replace HG31 := Lib.hid (HG31.out.on bw)
                replace HG40 := Lib.hid (HG40.out.on bw)
                replace HB := Lib.hid (next HB.out bw)
                refine wpAnyH_narrow (T := fun V => Below x9.heap.size x9 V) (fun V hV => next bw hV) _ _ _ _ ?_
                clear bw
                have hS : Below x9.heap.size x9 x9 := Below.refl _ _
                refine wpAnyH_still (i := 38) (oi := { dst := some 49, op := Op.call { callee := Callee.value (Operand.func 11), args := #[Operand.tmp 48], argTypes := #[22] }, type := 23, pos := "outright.go:39", after := #[{ on := 37, ground := Ground.data }, { on := 35, ground := Ground.chain }, { on := 35, ground := Ground.guard }], guard := some (35, true) }) (v := .int .u32 (s : Int)) rfl (by kernel_rfl) (by kernel_rfl) (by kernel_rfl) (fun _ _ _ h => h) hS ⟨by rfl, fun W hW => ⟨_, _, ?hr41, (Of_r3 _ A 0 c s _ [] W (HG37.out.on hW) (HR.out.on hW) U8.nil (Nat.zero_le _) e2)⟩⟩ ?rest41
                case hr41 => (go_simp; try with_reducible rfl)
                try simp only [Act.put, List.setIfInBounds_toArray, List.set_cons_zero, List.set_cons_succ]
                refine wpAnyH_still (i := 41) (oi := { dst := some 52, op := Op.call { callee := Callee.value (Operand.func 11), args := #[Operand.tmp 51], argTypes := #[22] }, type := 23, pos := "outright.go:39", after := #[{ on := 40, ground := Ground.data }, { on := 38, ground := Ground.chain }, { on := 35, ground := Ground.guard }], guard := some (35, true) }) (v := .int .u32 (s : Int)) rfl (by kernel_rfl) (by kernel_rfl) (by kernel_rfl) (fun _ _ _ h => h) hS ⟨by rfl, fun W hW => ⟨_, _, ?hr42, (Of_r1 _ A 0 c s _ [] W (HG40.out.on hW) (HR.out.on hW) U8.nil (Nat.zero_le _) e2)⟩⟩ ?rest42
                case hr42 => (go_simp; try with_reducible rfl)
                try simp only [Act.put, List.setIfInBounds_toArray, List.set_cons_zero, List.set_cons_succ]
                refine wpAnyH_take (i := 42) (oi := { dst := some 53, op := Op.binOp BinOp.eql 23 (Operand.tmp 49) (Operand.tmp 52) 23, type := 4, pos := "outright.go:39", after := #[{ on := 38, ground := Ground.data }, { on := 41, ground := Ground.data }, { on := 35, ground := Ground.guard }], guard := some (35, true) }) (v := ?v43) rfl (by kernel_rfl) (by kernel_rfl) (by kernel_rfl) (fun _ _ _ h => h) (Or.inl ⟨by rfl, ?hy43⟩) hS ?rest43
                case hy43 => (intro W _hW; go_simp; try with_reducible rfl)
                try simp only [Act.put, List.setIfInBounds_toArray, List.set_cons_zero, List.set_cons_succ]
                refine wpAnyH_take (i := 43) (oi := { dst := some 54, op := Op.pick (Operand.tmp 46) (Operand.tmp 53) (Operand.const (Value.bool false)), type := 4, pos := "outright.go:39", after := #[{ on := 35, ground := Ground.data }, { on := 42, ground := Ground.data }], guard := none }) (v := ?v44) rfl (by kernel_rfl) (by kernel_rfl) (by kernel_rfl) (fun _ _ _ h => h) (Or.inl ⟨by rfl, ?hy44⟩) hS ?rest44
                case hy44 => (intro W _hW; go_simp; try with_reducible rfl)
                try simp only [Act.put, List.setIfInBounds_toArray, List.set_cons_zero, List.set_cons_succ]
                refine wpAnyH_take (i := 44) (oi := { dst := some 55, op := Op.move (Operand.tmp 54), type := 4, pos := "outright.go:39", after := #[{ on := 43, ground := Ground.data }, { on := 41, ground := Ground.chain }], guard := none }) (v := ?v45) rfl (by kernel_rfl) (by kernel_rfl) (by kernel_rfl) (fun _ _ _ h => h) (Or.inl ⟨by rfl, ?hy45⟩) hS ?rest45
                case hy45 => (intro W _hW; go_simp; try with_reducible rfl)
                try simp only [Act.put, List.setIfInBounds_toArray, List.set_cons_zero, List.set_cons_succ]
                refine wpAnyH_ready (rs := [45]) (by kernel_rfl) (by simp) ?_
                refine AllReadyH.cons (o := { dst := some 56, op := Op.call { callee := Callee.value (Operand.func 18), args := #[], argTypes := #[] }, type := 4, pos := "outright.go:39", after := #[{ on := 44, ground := Ground.chain }, { on := 44, ground := Ground.guard }], guard := some (44, true) }) rfl (fun K hK => ?_) ?_
                · go_simp
                  refine (awake_any _).mono ?_
                  rintro e wz ⟨rfl, hz⟩
                  refine hK.out _ _ hz (fun hS => ?_)
                  clear hK K
                  replace HB := Lib.hid (next HB.out hz)
                  try simp only [Act.put, List.setIfInBounds_toArray, List.set_cons_zero, List.set_cons_succ]
                  refine wpAnyH_take (i := 46) (oi := { dst := some 57, op := Op.pick (Operand.tmp 55) (Operand.tmp 56) (Operand.const (Value.bool false)), type := 4, pos := "outright.go:39", after := #[{ on := 44, ground := Ground.data }, { on := 45, ground := Ground.data }], guard := none }) (v := ?v46) rfl (by kernel_rfl) (by kernel_rfl) (by kernel_rfl) (fun _ _ _ h => h) (Or.inl ⟨by rfl, ?hy46⟩) hS ?rest46
                  case hy46 => (intro W _hW; go_simp; try with_reducible rfl)
                  try simp only [Act.put, List.setIfInBounds_toArray, List.set_cons_zero, List.set_cons_succ]
                  refine wpAnyH_take (i := 47) (oi := { dst := some 4, op := Op.assign (Operand.tmp 57), type := 4, pos := "outright.go:39", after := #[{ on := 46, ground := Ground.data }, { on := 45, ground := Ground.chain }, { on := 0, ground := Ground.phase }, { on := 1, ground := Ground.phase }, { on := 2, ground := Ground.phase }, { on := 3, ground := Ground.phase }, { on := 4, ground := Ground.phase }, { on := 5, ground := Ground.phase }, { on := 6, ground := Ground.phase }, { on := 7, ground := Ground.phase }, { on := 8, ground := Ground.phase }, { on := 9, ground := Ground.phase }, { on := 10, ground := Ground.phase }, { on := 11, ground := Ground.phase }, { on := 12, ground := Ground.phase }, { on := 13, ground := Ground.phase }, { on := 14, ground := Ground.phase }, { on := 15, ground := Ground.phase }, { on := 16, ground := Ground.phase }, { on := 17, ground := Ground.phase }, { on := 18, ground := Ground.phase }, { on := 19, ground := Ground.phase }, { on := 20, ground := Ground.phase }, { on := 21, ground := Ground.phase }, { on := 22, ground := Ground.phase }, { on := 23, ground := Ground.phase }, { on := 24, ground := Ground.phase }, { on := 25, ground := Ground.phase }, { on := 26, ground := Ground.phase }, { on := 27, ground := Ground.phase }, { on := 28, ground := Ground.phase }, { on := 29, ground := Ground.phase }, { on := 30, ground := Ground.phase }, { on := 31, ground := Ground.phase }, { on := 32, ground := Ground.phase }, { on := 33, ground := Ground.phase }, { on := 34, ground := Ground.phase }, { on := 35, ground := Ground.phase }, { on := 36, ground := Ground.phase }, { on := 37, ground := Ground.phase }, { on := 38, ground := Ground.phase }, { on := 39, ground := Ground.phase }, { on := 40, ground := Ground.phase }, { on := 41, ground := Ground.phase }, { on := 42, ground := Ground.phase }, { on := 43, ground := Ground.phase }, { on := 44, ground := Ground.phase }, { on := 45, ground := Ground.phase }, { on := 46, ground := Ground.phase }], guard := none }) (v := ?v47) rfl (by kernel_rfl) (by kernel_rfl) (by kernel_rfl) (fun _ _ _ h => h) (Or.inl ⟨by rfl, ?hy47⟩) hS ?rest47
                  case hy47 => (intro W _hW; go_simp; try with_reducible rfl)
                  try simp only [Act.put, List.setIfInBounds_toArray, List.set_cons_zero, List.set_cons_succ]
                  refine wpAnyH_done (by kernel_rfl) ?_ _
                  go_wp2
                  go_ret
                  exact ⟨rfl, HB.out⟩
                exact AllReadyH.nil
              exact AllReadyH.nil
            exact AllReadyH.nil
          exact AllReadyH.nil
        exact AllReadyH.nil
      refine AllReadyH.cons (o := { dst := some 34, op := Op.buildSlice 22 1 #[(0, Operand.tmp 33)], type := 22, pos := "outright.go:39", after := #[{ on := 22, ground := Ground.data }, { on := 13, ground := Ground.guard }], guard := some (13, true) }) rfl (fun K hK => ?_) ?_
      · go_simp
        refine hK.out _ _ (hS.alloc hS.size _) (fun _ => ?_)
        clear hK K
        try simp only [Act.put, List.setIfInBounds_toArray, List.set_cons_zero, List.set_cons_succ]
        have HG23 := Lib.hid (Row.made x2 24 [.slice A 0 c])
        have bw := (Below.refl x2.heap.size x2).alloc (Nat.le_refl _) (.cells #[.slice A 0 c] 24)
        obtain ⟨x10, hX⟩ : ∃ x, x2.alloc (.cells #[.slice A 0 c] 24) = x := ⟨_, rfl⟩
        rw [hX] at bw HG23 ⊢
        clear hX
        replace HR := Lib.hid (HR.out.on bw)
        replace HG3 := Lib.hid (HG3.out.on bw)
        replace HG10 := Lib.hid (HG10.out.on bw)
        replace HB := Lib.hid (next HB.out bw)
        refine wpAnyH_narrow (T := fun V => Below x10.heap.size x10 V) (fun V hV => next bw hV) _ _ _ _ ?_
        clear bw
        have hS : Below x10.heap.size x10 x10 := Below.refl _ _
        refine wpAnyH_ready (rs := [20]) (by kernel_rfl) (by simp) ?_
        refine AllReadyH.cons (o := { dst := some 31, op := Op.buildSlice 22 2 #[(0, Operand.tmp 27), (1, Operand.tmp 30)], type := 22, pos := "outright.go:39", after := #[{ on := 16, ground := Ground.data }, { on := 19, ground := Ground.data }, { on := 13, ground := Ground.guard }], guard := some (13, true) }) rfl (fun K hK => ?_) ?_
        · go_simp
          refine hK.out _ _ (hS.alloc hS.size _) (fun _ => ?_)
          clear hK K
          try simp only [Act.put, List.setIfInBounds_toArray, List.set_cons_zero, List.set_cons_succ]
          have HG20 := Lib.hid (Row.made x10 24 [.slice A 0 c, .slice A 0 c])
          have bw := (Below.refl x10.heap.size x10).alloc (Nat.le_refl _) (.cells #[.slice A 0 c, .slice A 0 c] 24)
          obtain ⟨x11, hX⟩ : ∃ x, x10.alloc (.cells #[.slice A 0 c, .slice A 0 c] 24) = x := ⟨_, rfl⟩
          rw [hX] at bw HG20 ⊢
          clear hX
          replace HR := Lib.hid (HR.out.on bw)
          replace HG3 := Lib.hid (HG3.out.on bw)
          replace HG10 := Lib.hid (HG10.out.on bw)
          replace HG23 := Lib.hid (HG23.out.on bw)
          replace HB := Lib.hid (next HB.out bw)
          refine wpAnyH_narrow (T := fun V => Below x11.heap.size x11 V) (fun V hV => next bw hV) _ _ _ _ ?_
          clear bw
          have hS : Below x11.heap.size x11 x11 := Below.refl _ _
          refine wpAnyH_still (i := 21) (oi := { dst := some 32, op := Op.call { callee := Callee.value (Operand.func 11), args := #[Operand.tmp 31], argTypes := #[22] }, type := 23, pos := "outright.go:39", after := #[{ on := 20, ground := Ground.data }, { on := 13, ground := Ground.chain }, { on := 13, ground := Ground.guard }], guard := some (13, true) }) (v := .int .u32 (s : Int)) rfl (by kernel_rfl) (by kernel_rfl) (by kernel_rfl) (fun _ _ _ h => h) hS ⟨by rfl, fun W hW => ⟨_, _, ?hr48, (Of_r2 _ A A 0 c 0 c s _ [] [] W (HG20.out.on hW) (HR.out.on hW) (HR.out.on hW) U8.nil U8.nil (Nat.zero_le _) (Nat.zero_le _) e3)⟩⟩ ?rest48
          case hr48 => (go_simp; try with_reducible rfl)
          try simp only [Act.put, List.setIfInBounds_toArray, List.set_cons_zero, List.set_cons_succ]
          refine wpAnyH_still (i := 24) (oi := { dst := some 35, op := Op.call { callee := Callee.value (Operand.func 11), args := #[Operand.tmp 34], argTypes := #[22] }, type := 23, pos := "outright.go:39", after := #[{ on := 23, ground := Ground.data }, { on := 21, ground := Ground.chain }, { on := 13, ground := Ground.guard }], guard := some (13, true) }) (v := .int .u32 (s : Int)) rfl (by kernel_rfl) (by kernel_rfl) (by kernel_rfl) (fun _ _ _ h => h) hS ⟨by rfl, fun W hW => ⟨_, _, ?hr49, (Of_r1 _ A 0 c s _ [] W (HG23.out.on hW) (HR.out.on hW) U8.nil (Nat.zero_le _) e2)⟩⟩ ?rest49
          case hr49 => (go_simp; try with_reducible rfl)
          try simp only [Act.put, List.setIfInBounds_toArray, List.set_cons_zero, List.set_cons_succ]
          refine wpAnyH_take (i := 25) (oi := { dst := some 36, op := Op.binOp BinOp.eql 23 (Operand.tmp 32) (Operand.tmp 35) 23, type := 4, pos := "outright.go:39", after := #[{ on := 21, ground := Ground.data }, { on := 24, ground := Ground.data }, { on := 13, ground := Ground.guard }], guard := some (13, true) }) (v := ?v50) rfl (by kernel_rfl) (by kernel_rfl) (by kernel_rfl) (fun _ _ _ h => h) (Or.inl ⟨by rfl, ?hy50⟩) hS ?rest50
          case hy50 => (intro W _hW; go_simp; try with_reducible rfl)
          try simp only [Act.put, List.setIfInBounds_toArray, List.set_cons_zero, List.set_cons_succ]
          refine wpAnyH_take (i := 26) (oi := { dst := some 37, op := Op.pick (Operand.tmp 24) (Operand.tmp 36) (Operand.const (Value.bool false)), type := 4, pos := "outright.go:39", after := #[{ on := 13, ground := Ground.data }, { on := 25, ground := Ground.data }], guard := none }) (v := ?v51) rfl (by kernel_rfl) (by kernel_rfl) (by kernel_rfl) (fun _ _ _ h => h) (Or.inl ⟨by rfl, ?hy51⟩) hS ?rest51
          case hy51 => (intro W _hW; go_simp; try with_reducible rfl)
          try simp only [Act.put, List.setIfInBounds_toArray, List.set_cons_zero, List.set_cons_succ]
          refine wpAnyH_take (i := 27) (oi := { dst := some 38, op := Op.move (Operand.tmp 37), type := 4, pos := "outright.go:39", after := #[{ on := 26, ground := Ground.data }, { on := 24, ground := Ground.chain }], guard := none }) (v := ?v52) rfl (by kernel_rfl) (by kernel_rfl) (by kernel_rfl) (fun _ _ _ h => h) (Or.inl ⟨by rfl, ?hy52⟩) hS ?rest52
          case hy52 => (intro W _hW; go_simp; try with_reducible rfl)
          try simp only [Act.put, List.setIfInBounds_toArray, List.set_cons_zero, List.set_cons_succ]
          refine wpAnyH_take (i := 28) (oi := { dst := some 39, op := Op.move (Operand.tmp 0), type := 24, pos := "outright.go:39", after := #[{ on := 27, ground := Ground.guard }], guard := some (27, true) }) (v := ?v53) rfl (by kernel_rfl) (by kernel_rfl) (by kernel_rfl) (fun _ _ _ h => h) (Or.inl ⟨by rfl, ?hy53⟩) hS ?rest53
          case hy53 => (intro W _hW; go_simp; try with_reducible rfl)
          try simp only [Act.put, List.setIfInBounds_toArray, List.set_cons_zero, List.set_cons_succ]
          refine wpAnyH_still (i := 29) (oi := { dst := some 40, op := Op.call { callee := Callee.value (Operand.func 13), args := #[Operand.const (Value.int IntKind.u32 0), Operand.tmp 39], argTypes := #[23, 24] }, type := 23, pos := "outright.go:39", after := #[{ on := 28, ground := Ground.data }, { on := 27, ground := Ground.chain }, { on := 27, ground := Ground.guard }], guard := some (27, true) }) (v := .int .u32 (s : Int)) rfl (by kernel_rfl) (by kernel_rfl) (by kernel_rfl) (fun _ _ _ h => h) hS ⟨by rfl, fun W hW => ⟨_, _, ?hr54, (On_zero s A c 0 _ [] W (HR.out.on hW) U8.nil (Nat.zero_le _) e2)⟩⟩ ?rest54
          case hr54 => (go_simp; try with_reducible rfl)
          try simp only [Act.put, List.setIfInBounds_toArray, List.set_cons_zero, List.set_cons_succ]
          refine wpAnyH_take (i := 30) (oi := { dst := some 41, op := Op.move (Operand.tmp 0), type := 24, pos := "outright.go:39", after := #[{ on := 27, ground := Ground.guard }], guard := some (27, true) }) (v := ?v55) rfl (by kernel_rfl) (by kernel_rfl) (by kernel_rfl) (fun _ _ _ h => h) (Or.inl ⟨by rfl, ?hy55⟩) hS ?rest55
          case hy55 => (intro W _hW; go_simp; try with_reducible rfl)
          try simp only [Act.put, List.setIfInBounds_toArray, List.set_cons_zero, List.set_cons_succ]
          refine wpAnyH_ready (rs := [31]) (by kernel_rfl) (by simp) ?_
          refine AllReadyH.cons (o := { dst := some 42, op := Op.buildSlice 22 1 #[(0, Operand.tmp 41)], type := 22, pos := "outright.go:39", after := #[{ on := 30, ground := Ground.data }, { on := 27, ground := Ground.guard }], guard := some (27, true) }) rfl (fun K hK => ?_) ?_
          · go_simp
            refine hK.out _ _ (hS.alloc hS.size _) (fun _ => ?_)
            clear hK K
            try simp only [Act.put, List.setIfInBounds_toArray, List.set_cons_zero, List.set_cons_succ]
            have HG31 := Lib.hid (Row.made x11 24 [.slice A 0 c])
            have bw := (Below.refl x11.heap.size x11).alloc (Nat.le_refl _) (.cells #[.slice A 0 c] 24)
            obtain ⟨x12, hX⟩ : ∃ x, x11.alloc (.cells #[.slice A 0 c] 24) = x := ⟨_, rfl⟩
            rw [hX] at bw HG31 ⊢
            clear hX
            replace HR := Lib.hid (HR.out.on bw)
            replace HG3 := Lib.hid (HG3.out.on bw)
            replace HG10 := Lib.hid (HG10.out.on bw)
            replace HG23 := Lib.hid (HG23.out.on bw)
            replace HG20 := Lib.hid (HG20.out.on bw)
            replace HB := Lib.hid (next HB.out bw)
            refine wpAnyH_narrow (T := fun V => Below x12.heap.size x12 V) (fun V hV => next bw hV) _ _ _ _ ?_
            clear bw
            have hS : Below x12.heap.size x12 x12 := Below.refl _ _
            refine wpAnyH_still (i := 32) (oi := { dst := some 43, op := Op.call { callee := Callee.value (Operand.func 11), args := #[Operand.tmp 42], argTypes := #[22] }, type := 23, pos := "outright.go:39", after := #[{ on := 31, ground := Ground.data }, { on := 29, ground := Ground.chain }, { on := 27, ground := Ground.guard }], guard := some (27, true) }) (v := .int .u32 (s : Int)) rfl (by kernel_rfl) (by kernel_rfl) (by kernel_rfl) (fun _ _ _ h => h) hS ⟨by rfl, fun W hW => ⟨_, _, ?hr56, (Of_r1 _ A 0 c s _ [] W (HG31.out.on hW) (HR.out.on hW) U8.nil (Nat.zero_le _) e2)⟩⟩ ?rest56
            case hr56 => (go_simp; try with_reducible rfl)
            try simp only [Act.put, List.setIfInBounds_toArray, List.set_cons_zero, List.set_cons_succ]
            refine wpAnyH_take (i := 33) (oi := { dst := some 44, op := Op.binOp BinOp.eql 23 (Operand.tmp 40) (Operand.tmp 43) 23, type := 4, pos := "outright.go:39", after := #[{ on := 29, ground := Ground.data }, { on := 32, ground := Ground.data }, { on := 27, ground := Ground.guard }], guard := some (27, true) }) (v := ?v57) rfl (by kernel_rfl) (by kernel_rfl) (by kernel_rfl) (fun _ _ _ h => h) (Or.inl ⟨by rfl, ?hy57⟩) hS ?rest57
            case hy57 => (intro W _hW; go_simp; try with_reducible rfl)
            try simp only [Act.put, List.setIfInBounds_toArray, List.set_cons_zero, List.set_cons_succ]
            refine wpAnyH_take (i := 34) (oi := { dst := some 45, op := Op.pick (Operand.tmp 38) (Operand.tmp 44) (Operand.const (Value.bool false)), type := 4, pos := "outright.go:39", after := #[{ on := 27, ground := Ground.data }, { on := 33, ground := Ground.data }], guard := none }) (v := ?v58) rfl (by kernel_rfl) (by kernel_rfl) (by kernel_rfl) (fun _ _ _ h => h) (Or.inl ⟨by rfl, ?hy58⟩) hS ?rest58
            case hy58 => (intro W _hW; go_simp; try with_reducible rfl)
            try simp only [Act.put, List.setIfInBounds_toArray, List.set_cons_zero, List.set_cons_succ]
            refine wpAnyH_take (i := 35) (oi := { dst := some 46, op := Op.move (Operand.tmp 45), type := 4, pos := "outright.go:39", after := #[{ on := 34, ground := Ground.data }, { on := 32, ground := Ground.chain }], guard := none }) (v := ?v59) rfl (by kernel_rfl) (by kernel_rfl) (by kernel_rfl) (fun _ _ _ h => h) (Or.inl ⟨by rfl, ?hy59⟩) hS ?rest59
            case hy59 => (intro W _hW; go_simp; try with_reducible rfl)
            try simp only [Act.put, List.setIfInBounds_toArray, List.set_cons_zero, List.set_cons_succ]
            refine wpAnyH_take (i := 36) (oi := { dst := some 47, op := Op.move (Operand.tmp 0), type := 24, pos := "outright.go:39", after := #[{ on := 35, ground := Ground.guard }], guard := some (35, true) }) (v := ?v60) rfl (by kernel_rfl) (by kernel_rfl) (by kernel_rfl) (fun _ _ _ h => h) (Or.inl ⟨by rfl, ?hy60⟩) hS ?rest60
            case hy60 => (intro W _hW; go_simp; try with_reducible rfl)
            try simp only [Act.put, List.setIfInBounds_toArray, List.set_cons_zero, List.set_cons_succ]
            refine wpAnyH_take (i := 39) (oi := { dst := some 50, op := Op.move (Operand.tmp 0), type := 24, pos := "outright.go:39", after := #[{ on := 35, ground := Ground.guard }], guard := some (35, true) }) (v := ?v61) rfl (by kernel_rfl) (by kernel_rfl) (by kernel_rfl) (fun _ _ _ h => h) (Or.inl ⟨by rfl, ?hy61⟩) hS ?rest61
            case hy61 => (intro W _hW; go_simp; try with_reducible rfl)
            try simp only [Act.put, List.setIfInBounds_toArray, List.set_cons_zero, List.set_cons_succ]
            refine wpAnyH_ready (rs := [37, 40]) (by kernel_rfl) (by simp) ?_
            refine AllReadyH.cons (o := { dst := some 48, op := Op.buildSlice 22 3 #[(0, Operand.const (Value.slice none 0 0)), (1, Operand.tmp 47), (2, Operand.const (Value.slice none 0 0))], type := 22, pos := "outright.go:39", after := #[{ on := 36, ground := Ground.data }, { on := 35, ground := Ground.guard }], guard := some (35, true) }) rfl (fun K hK => ?_) ?_
            · go_simp
              refine hK.out _ _ (hS.alloc hS.size _) (fun _ => ?_)
              clear hK K
              try simp only [Act.put, List.setIfInBounds_toArray, List.set_cons_zero, List.set_cons_succ]
              have HG37 := Lib.hid (Row.made x12 24 [.slice none 0 0, .slice A 0 c, .slice none 0 0])
              have bw := (Below.refl x12.heap.size x12).alloc (Nat.le_refl _) (.cells #[.slice none 0 0, .slice A 0 c, .slice none 0 0] 24)
              obtain ⟨x13, hX⟩ : ∃ x, x12.alloc (.cells #[.slice none 0 0, .slice A 0 c, .slice none 0 0] 24) = x := ⟨_, rfl⟩
              rw [hX] at bw HG37 ⊢
              clear hX
              replace HR := Lib.hid (HR.out.on bw)
              replace HG3 := Lib.hid (HG3.out.on bw)
              replace HG10 := Lib.hid (HG10.out.on bw)
              replace HG23 := Lib.hid (HG23.out.on bw)
              replace HG20 := Lib.hid (HG20.out.on bw)
              replace HG31 := Lib.hid (HG31.out.on bw)
              replace HB := Lib.hid (next HB.out bw)
              refine wpAnyH_narrow (T := fun V => Below x13.heap.size x13 V) (fun V hV => next bw hV) _ _ _ _ ?_
              clear bw
              have hS : Below x13.heap.size x13 x13 := Below.refl _ _
              refine wpAnyH_still (i := 38) (oi := { dst := some 49, op := Op.call { callee := Callee.value (Operand.func 11), args := #[Operand.tmp 48], argTypes := #[22] }, type := 23, pos := "outright.go:39", after := #[{ on := 37, ground := Ground.data }, { on := 35, ground := Ground.chain }, { on := 35, ground := Ground.guard }], guard := some (35, true) }) (v := .int .u32 (s : Int)) rfl (by kernel_rfl) (by kernel_rfl) (by kernel_rfl) (fun _ _ _ h => h) hS ⟨by rfl, fun W hW => ⟨_, _, ?hr62, (Of_r3 _ A 0 c s _ [] W (HG37.out.on hW) (HR.out.on hW) U8.nil (Nat.zero_le _) e2)⟩⟩ ?rest62
              case hr62 => (go_simp; try with_reducible rfl)
              try simp only [Act.put, List.setIfInBounds_toArray, List.set_cons_zero, List.set_cons_succ]
              refine wpAnyH_ready (rs := [40]) (by kernel_rfl) (by simp) ?_
              refine AllReadyH.cons (o := { dst := some 51, op := Op.buildSlice 22 1 #[(0, Operand.tmp 50)], type := 22, pos := "outright.go:39", after := #[{ on := 39, ground := Ground.data }, { on := 35, ground := Ground.guard }], guard := some (35, true) }) rfl (fun K hK => ?_) ?_
              · go_simp
                refine hK.out _ _ (hS.alloc hS.size _) (fun _ => ?_)
                clear hK K
                try simp only [Act.put, List.setIfInBounds_toArray, List.set_cons_zero, List.set_cons_succ]
                have HG40 := Lib.hid (Row.made x13 24 [.slice A 0 c])
                have bw := (Below.refl x13.heap.size x13).alloc (Nat.le_refl _) (.cells #[.slice A 0 c] 24)
                obtain ⟨x14, hX⟩ : ∃ x, x13.alloc (.cells #[.slice A 0 c] 24) = x := ⟨_, rfl⟩
                rw [hX] at bw HG40 ⊢
                clear hX
                replace HR := Lib.hid (HR.out.on bw)
                replace HG3 := Lib.hid (HG3.out.on bw)
                replace HG10 := Lib.hid (HG10.out.on bw)
                replace HG23 := Lib.hid (HG23.out.on bw)
                replace HG20 := Lib.hid (HG20.out.on bw)
                replace HG31 := Lib.hid (HG31.out.on bw)
                replace HG37 := Lib.hid (HG37.out.on bw)
                replace HB := Lib.hid (next HB.out bw)
                refine wpAnyH_narrow (T := fun V => Below x14.heap.size x14 V) (fun V hV => next bw hV) _ _ _ _ ?_
                clear bw
                have hS : Below x14.heap.size x14 x14 := Below.refl _ _
                refine wpAnyH_still (i := 41) (oi := { dst := some 52, op := Op.call { callee := Callee.value (Operand.func 11), args := #[Operand.tmp 51], argTypes := #[22] }, type := 23, pos := "outright.go:39", after := #[{ on := 40, ground := Ground.data }, { on := 38, ground := Ground.chain }, { on := 35, ground := Ground.guard }], guard := some (35, true) }) (v := .int .u32 (s : Int)) rfl (by kernel_rfl) (by kernel_rfl) (by kernel_rfl) (fun _ _ _ h => h) hS ⟨by rfl, fun W hW => ⟨_, _, ?hr63, (Of_r1 _ A 0 c s _ [] W (HG40.out.on hW) (HR.out.on hW) U8.nil (Nat.zero_le _) e2)⟩⟩ ?rest63
                case hr63 => (go_simp; try with_reducible rfl)
                try simp only [Act.put, List.setIfInBounds_toArray, List.set_cons_zero, List.set_cons_succ]
                refine wpAnyH_take (i := 42) (oi := { dst := some 53, op := Op.binOp BinOp.eql 23 (Operand.tmp 49) (Operand.tmp 52) 23, type := 4, pos := "outright.go:39", after := #[{ on := 38, ground := Ground.data }, { on := 41, ground := Ground.data }, { on := 35, ground := Ground.guard }], guard := some (35, true) }) (v := ?v64) rfl (by kernel_rfl) (by kernel_rfl) (by kernel_rfl) (fun _ _ _ h => h) (Or.inl ⟨by rfl, ?hy64⟩) hS ?rest64
                case hy64 => (intro W _hW; go_simp; try with_reducible rfl)
                try simp only [Act.put, List.setIfInBounds_toArray, List.set_cons_zero, List.set_cons_succ]
                refine wpAnyH_take (i := 43) (oi := { dst := some 54, op := Op.pick (Operand.tmp 46) (Operand.tmp 53) (Operand.const (Value.bool false)), type := 4, pos := "outright.go:39", after := #[{ on := 35, ground := Ground.data }, { on := 42, ground := Ground.data }], guard := none }) (v := ?v65) rfl (by kernel_rfl) (by kernel_rfl) (by kernel_rfl) (fun _ _ _ h => h) (Or.inl ⟨by rfl, ?hy65⟩) hS ?rest65
                case hy65 => (intro W _hW; go_simp; try with_reducible rfl)
                try simp only [Act.put, List.setIfInBounds_toArray, List.set_cons_zero, List.set_cons_succ]
                refine wpAnyH_take (i := 44) (oi := { dst := some 55, op := Op.move (Operand.tmp 54), type := 4, pos := "outright.go:39", after := #[{ on := 43, ground := Ground.data }, { on := 41, ground := Ground.chain }], guard := none }) (v := ?v66) rfl (by kernel_rfl) (by kernel_rfl) (by kernel_rfl) (fun _ _ _ h => h) (Or.inl ⟨by rfl, ?hy66⟩) hS ?rest66
                case hy66 => (intro W _hW; go_simp; try with_reducible rfl)
                try simp only [Act.put, List.setIfInBounds_toArray, List.set_cons_zero, List.set_cons_succ]
                refine wpAnyH_ready (rs := [45]) (by kernel_rfl) (by simp) ?_
                refine AllReadyH.cons (o := { dst := some 56, op := Op.call { callee := Callee.value (Operand.func 18), args := #[], argTypes := #[] }, type := 4, pos := "outright.go:39", after := #[{ on := 44, ground := Ground.chain }, { on := 44, ground := Ground.guard }], guard := some (44, true) }) rfl (fun K hK => ?_) ?_
                · go_simp
                  refine (awake_any _).mono ?_
                  rintro e wz ⟨rfl, hz⟩
                  refine hK.out _ _ hz (fun hS => ?_)
                  clear hK K
                  replace HB := Lib.hid (next HB.out hz)
                  try simp only [Act.put, List.setIfInBounds_toArray, List.set_cons_zero, List.set_cons_succ]
                  refine wpAnyH_take (i := 46) (oi := { dst := some 57, op := Op.pick (Operand.tmp 55) (Operand.tmp 56) (Operand.const (Value.bool false)), type := 4, pos := "outright.go:39", after := #[{ on := 44, ground := Ground.data }, { on := 45, ground := Ground.data }], guard := none }) (v := ?v67) rfl (by kernel_rfl) (by kernel_rfl) (by kernel_rfl) (fun _ _ _ h => h) (Or.inl ⟨by rfl, ?hy67⟩) hS ?rest67
                  case hy67 => (intro W _hW; go_simp; try with_reducible rfl)
                  try simp only [Act.put, List.setIfInBounds_toArray, List.set_cons_zero, List.set_cons_succ]
                  refine wpAnyH_take (i := 47) (oi := { dst := some 4, op := Op.assign (Operand.tmp 57), type := 4, pos := "outright.go:39", after := #[{ on := 46, ground := Ground.data }, { on := 45, ground := Ground.chain }, { on := 0, ground := Ground.phase }, { on := 1, ground := Ground.phase }, { on := 2, ground := Ground.phase }, { on := 3, ground := Ground.phase }, { on := 4, ground := Ground.phase }, { on := 5, ground := Ground.phase }, { on := 6, ground := Ground.phase }, { on := 7, ground := Ground.phase }, { on := 8, ground := Ground.phase }, { on := 9, ground := Ground.phase }, { on := 10, ground := Ground.phase }, { on := 11, ground := Ground.phase }, { on := 12, ground := Ground.phase }, { on := 13, ground := Ground.phase }, { on := 14, ground := Ground.phase }, { on := 15, ground := Ground.phase }, { on := 16, ground := Ground.phase }, { on := 17, ground := Ground.phase }, { on := 18, ground := Ground.phase }, { on := 19, ground := Ground.phase }, { on := 20, ground := Ground.phase }, { on := 21, ground := Ground.phase }, { on := 22, ground := Ground.phase }, { on := 23, ground := Ground.phase }, { on := 24, ground := Ground.phase }, { on := 25, ground := Ground.phase }, { on := 26, ground := Ground.phase }, { on := 27, ground := Ground.phase }, { on := 28, ground := Ground.phase }, { on := 29, ground := Ground.phase }, { on := 30, ground := Ground.phase }, { on := 31, ground := Ground.phase }, { on := 32, ground := Ground.phase }, { on := 33, ground := Ground.phase }, { on := 34, ground := Ground.phase }, { on := 35, ground := Ground.phase }, { on := 36, ground := Ground.phase }, { on := 37, ground := Ground.phase }, { on := 38, ground := Ground.phase }, { on := 39, ground := Ground.phase }, { on := 40, ground := Ground.phase }, { on := 41, ground := Ground.phase }, { on := 42, ground := Ground.phase }, { on := 43, ground := Ground.phase }, { on := 44, ground := Ground.phase }, { on := 45, ground := Ground.phase }, { on := 46, ground := Ground.phase }], guard := none }) (v := ?v68) rfl (by kernel_rfl) (by kernel_rfl) (by kernel_rfl) (fun _ _ _ h => h) (Or.inl ⟨by rfl, ?hy68⟩) hS ?rest68
                  case hy68 => (intro W _hW; go_simp; try with_reducible rfl)
                  try simp only [Act.put, List.setIfInBounds_toArray, List.set_cons_zero, List.set_cons_succ]
                  refine wpAnyH_done (by kernel_rfl) ?_ _
                  go_wp2
                  go_ret
                  exact ⟨rfl, HB.out⟩
                exact AllReadyH.nil
              exact AllReadyH.nil
            refine AllReadyH.cons (o := { dst := some 51, op := Op.buildSlice 22 1 #[(0, Operand.tmp 50)], type := 22, pos := "outright.go:39", after := #[{ on := 39, ground := Ground.data }, { on := 35, ground := Ground.guard }], guard := some (35, true) }) rfl (fun K hK => ?_) ?_
            · go_simp
              refine hK.out _ _ (hS.alloc hS.size _) (fun _ => ?_)
              clear hK K
              try simp only [Act.put, List.setIfInBounds_toArray, List.set_cons_zero, List.set_cons_succ]
              have HG40 := Lib.hid (Row.made x12 24 [.slice A 0 c])
              have bw := (Below.refl x12.heap.size x12).alloc (Nat.le_refl _) (.cells #[.slice A 0 c] 24)
              obtain ⟨x15, hX⟩ : ∃ x, x12.alloc (.cells #[.slice A 0 c] 24) = x := ⟨_, rfl⟩
              rw [hX] at bw HG40 ⊢
              clear hX
              replace HR := Lib.hid (HR.out.on bw)
              replace HG3 := Lib.hid (HG3.out.on bw)
              replace HG10 := Lib.hid (HG10.out.on bw)
              replace HG23 := Lib.hid (HG23.out.on bw)
              replace HG20 := Lib.hid (HG20.out.on bw)
              replace HG31 := Lib.hid (HG31.out.on bw)
              replace HB := Lib.hid (next HB.out bw)
              refine wpAnyH_narrow (T := fun V => Below x15.heap.size x15 V) (fun V hV => next bw hV) _ _ _ _ ?_
              clear bw
              have hS : Below x15.heap.size x15 x15 := Below.refl _ _
              refine wpAnyH_ready (rs := [37]) (by kernel_rfl) (by simp) ?_
              refine AllReadyH.cons (o := { dst := some 48, op := Op.buildSlice 22 3 #[(0, Operand.const (Value.slice none 0 0)), (1, Operand.tmp 47), (2, Operand.const (Value.slice none 0 0))], type := 22, pos := "outright.go:39", after := #[{ on := 36, ground := Ground.data }, { on := 35, ground := Ground.guard }], guard := some (35, true) }) rfl (fun K hK => ?_) ?_
              · go_simp
                refine hK.out _ _ (hS.alloc hS.size _) (fun _ => ?_)
                clear hK K
                try simp only [Act.put, List.setIfInBounds_toArray, List.set_cons_zero, List.set_cons_succ]
                have HG37 := Lib.hid (Row.made x15 24 [.slice none 0 0, .slice A 0 c, .slice none 0 0])
                have bw := (Below.refl x15.heap.size x15).alloc (Nat.le_refl _) (.cells #[.slice none 0 0, .slice A 0 c, .slice none 0 0] 24)
                obtain ⟨x16, hX⟩ : ∃ x, x15.alloc (.cells #[.slice none 0 0, .slice A 0 c, .slice none 0 0] 24) = x := ⟨_, rfl⟩
                rw [hX] at bw HG37 ⊢
                clear hX
                replace HR := Lib.hid (HR.out.on bw)
                replace HG3 := Lib.hid (HG3.out.on bw)
                replace HG10 := Lib.hid (HG10.out.on bw)
                replace HG23 := Lib.hid (HG23.out.on bw)
                replace HG20 := Lib.hid (HG20.out.on bw)
                replace HG31 := Lib.hid (HG31.out.on bw)
                replace HG40 := Lib.hid (HG40.out.on bw)
                replace HB := Lib.hid (next HB.out bw)
                refine wpAnyH_narrow (T := fun V => Below x16.heap.size x16 V) (fun V hV => next bw hV) _ _ _ _ ?_
                clear bw
                have hS : Below x16.heap.size x16 x16 := Below.refl _ _
                refine wpAnyH_still (i := 38) (oi := { dst := some 49, op := Op.call { callee := Callee.value (Operand.func 11), args := #[Operand.tmp 48], argTypes := #[22] }, type := 23, pos := "outright.go:39", after := #[{ on := 37, ground := Ground.data }, { on := 35, ground := Ground.chain }, { on := 35, ground := Ground.guard }], guard := some (35, true) }) (v := .int .u32 (s : Int)) rfl (by kernel_rfl) (by kernel_rfl) (by kernel_rfl) (fun _ _ _ h => h) hS ⟨by rfl, fun W hW => ⟨_, _, ?hr69, (Of_r3 _ A 0 c s _ [] W (HG37.out.on hW) (HR.out.on hW) U8.nil (Nat.zero_le _) e2)⟩⟩ ?rest69
                case hr69 => (go_simp; try with_reducible rfl)
                try simp only [Act.put, List.setIfInBounds_toArray, List.set_cons_zero, List.set_cons_succ]
                refine wpAnyH_still (i := 41) (oi := { dst := some 52, op := Op.call { callee := Callee.value (Operand.func 11), args := #[Operand.tmp 51], argTypes := #[22] }, type := 23, pos := "outright.go:39", after := #[{ on := 40, ground := Ground.data }, { on := 38, ground := Ground.chain }, { on := 35, ground := Ground.guard }], guard := some (35, true) }) (v := .int .u32 (s : Int)) rfl (by kernel_rfl) (by kernel_rfl) (by kernel_rfl) (fun _ _ _ h => h) hS ⟨by rfl, fun W hW => ⟨_, _, ?hr70, (Of_r1 _ A 0 c s _ [] W (HG40.out.on hW) (HR.out.on hW) U8.nil (Nat.zero_le _) e2)⟩⟩ ?rest70
                case hr70 => (go_simp; try with_reducible rfl)
                try simp only [Act.put, List.setIfInBounds_toArray, List.set_cons_zero, List.set_cons_succ]
                refine wpAnyH_take (i := 42) (oi := { dst := some 53, op := Op.binOp BinOp.eql 23 (Operand.tmp 49) (Operand.tmp 52) 23, type := 4, pos := "outright.go:39", after := #[{ on := 38, ground := Ground.data }, { on := 41, ground := Ground.data }, { on := 35, ground := Ground.guard }], guard := some (35, true) }) (v := ?v71) rfl (by kernel_rfl) (by kernel_rfl) (by kernel_rfl) (fun _ _ _ h => h) (Or.inl ⟨by rfl, ?hy71⟩) hS ?rest71
                case hy71 => (intro W _hW; go_simp; try with_reducible rfl)
                try simp only [Act.put, List.setIfInBounds_toArray, List.set_cons_zero, List.set_cons_succ]
                refine wpAnyH_take (i := 43) (oi := { dst := some 54, op := Op.pick (Operand.tmp 46) (Operand.tmp 53) (Operand.const (Value.bool false)), type := 4, pos := "outright.go:39", after := #[{ on := 35, ground := Ground.data }, { on := 42, ground := Ground.data }], guard := none }) (v := ?v72) rfl (by kernel_rfl) (by kernel_rfl) (by kernel_rfl) (fun _ _ _ h => h) (Or.inl ⟨by rfl, ?hy72⟩) hS ?rest72
                case hy72 => (intro W _hW; go_simp; try with_reducible rfl)
                try simp only [Act.put, List.setIfInBounds_toArray, List.set_cons_zero, List.set_cons_succ]
                refine wpAnyH_take (i := 44) (oi := { dst := some 55, op := Op.move (Operand.tmp 54), type := 4, pos := "outright.go:39", after := #[{ on := 43, ground := Ground.data }, { on := 41, ground := Ground.chain }], guard := none }) (v := ?v73) rfl (by kernel_rfl) (by kernel_rfl) (by kernel_rfl) (fun _ _ _ h => h) (Or.inl ⟨by rfl, ?hy73⟩) hS ?rest73
                case hy73 => (intro W _hW; go_simp; try with_reducible rfl)
                try simp only [Act.put, List.setIfInBounds_toArray, List.set_cons_zero, List.set_cons_succ]
                refine wpAnyH_ready (rs := [45]) (by kernel_rfl) (by simp) ?_
                refine AllReadyH.cons (o := { dst := some 56, op := Op.call { callee := Callee.value (Operand.func 18), args := #[], argTypes := #[] }, type := 4, pos := "outright.go:39", after := #[{ on := 44, ground := Ground.chain }, { on := 44, ground := Ground.guard }], guard := some (44, true) }) rfl (fun K hK => ?_) ?_
                · go_simp
                  refine (awake_any _).mono ?_
                  rintro e wz ⟨rfl, hz⟩
                  refine hK.out _ _ hz (fun hS => ?_)
                  clear hK K
                  replace HB := Lib.hid (next HB.out hz)
                  try simp only [Act.put, List.setIfInBounds_toArray, List.set_cons_zero, List.set_cons_succ]
                  refine wpAnyH_take (i := 46) (oi := { dst := some 57, op := Op.pick (Operand.tmp 55) (Operand.tmp 56) (Operand.const (Value.bool false)), type := 4, pos := "outright.go:39", after := #[{ on := 44, ground := Ground.data }, { on := 45, ground := Ground.data }], guard := none }) (v := ?v74) rfl (by kernel_rfl) (by kernel_rfl) (by kernel_rfl) (fun _ _ _ h => h) (Or.inl ⟨by rfl, ?hy74⟩) hS ?rest74
                  case hy74 => (intro W _hW; go_simp; try with_reducible rfl)
                  try simp only [Act.put, List.setIfInBounds_toArray, List.set_cons_zero, List.set_cons_succ]
                  refine wpAnyH_take (i := 47) (oi := { dst := some 4, op := Op.assign (Operand.tmp 57), type := 4, pos := "outright.go:39", after := #[{ on := 46, ground := Ground.data }, { on := 45, ground := Ground.chain }, { on := 0, ground := Ground.phase }, { on := 1, ground := Ground.phase }, { on := 2, ground := Ground.phase }, { on := 3, ground := Ground.phase }, { on := 4, ground := Ground.phase }, { on := 5, ground := Ground.phase }, { on := 6, ground := Ground.phase }, { on := 7, ground := Ground.phase }, { on := 8, ground := Ground.phase }, { on := 9, ground := Ground.phase }, { on := 10, ground := Ground.phase }, { on := 11, ground := Ground.phase }, { on := 12, ground := Ground.phase }, { on := 13, ground := Ground.phase }, { on := 14, ground := Ground.phase }, { on := 15, ground := Ground.phase }, { on := 16, ground := Ground.phase }, { on := 17, ground := Ground.phase }, { on := 18, ground := Ground.phase }, { on := 19, ground := Ground.phase }, { on := 20, ground := Ground.phase }, { on := 21, ground := Ground.phase }, { on := 22, ground := Ground.phase }, { on := 23, ground := Ground.phase }, { on := 24, ground := Ground.phase }, { on := 25, ground := Ground.phase }, { on := 26, ground := Ground.phase }, { on := 27, ground := Ground.phase }, { on := 28, ground := Ground.phase }, { on := 29, ground := Ground.phase }, { on := 30, ground := Ground.phase }, { on := 31, ground := Ground.phase }, { on := 32, ground := Ground.phase }, { on := 33, ground := Ground.phase }, { on := 34, ground := Ground.phase }, { on := 35, ground := Ground.phase }, { on := 36, ground := Ground.phase }, { on := 37, ground := Ground.phase }, { on := 38, ground := Ground.phase }, { on := 39, ground := Ground.phase }, { on := 40, ground := Ground.phase }, { on := 41, ground := Ground.phase }, { on := 42, ground := Ground.phase }, { on := 43, ground := Ground.phase }, { on := 44, ground := Ground.phase }, { on := 45, ground := Ground.phase }, { on := 46, ground := Ground.phase }], guard := none }) (v := ?v75) rfl (by kernel_rfl) (by kernel_rfl) (by kernel_rfl) (fun _ _ _ h => h) (Or.inl ⟨by rfl, ?hy75⟩) hS ?rest75
                  case hy75 => (intro W _hW; go_simp; try with_reducible rfl)
                  try simp only [Act.put, List.setIfInBounds_toArray, List.set_cons_zero, List.set_cons_succ]
                  refine wpAnyH_done (by kernel_rfl) ?_ _
                  go_wp2
                  go_ret
                  exact ⟨rfl, HB.out⟩
                exact AllReadyH.nil
              exact AllReadyH.nil
            exact AllReadyH.nil
          exact AllReadyH.nil
        exact AllReadyH.nil
      exact AllReadyH.nil
    exact AllReadyH.nil
  refine AllReadyH.cons (o := { dst := some 21, op := Op.buildSlice 22 1 #[(0, Operand.tmp 20)], type := 22, pos := "outright.go:39", after := #[{ on := 9, ground := Ground.data }], guard := none }) rfl (fun K hK => ?_) ?_
  · go_simp
    refine hK.out _ _ (hS.alloc hS.size _) (fun _ => ?_)
    clear hK K
    try simp only [Act.put, List.setIfInBounds_toArray, List.set_cons_zero, List.set_cons_succ]
    have HG10 := Lib.hid (Row.made x0 24 [.slice A 0 c])
    have bw := (Below.refl x0.heap.size x0).alloc (Nat.le_refl _) (.cells #[.slice A 0 c] 24)
    obtain ⟨x17, hX⟩ : ∃ x, x0.alloc (.cells #[.slice A 0 c] 24) = x := ⟨_, rfl⟩
    rw [hX] at bw HG10 ⊢
    clear hX
    replace HR := Lib.hid (HR.out.on bw)
    replace HB := Lib.hid (next HB.out bw)
    refine wpAnyH_narrow (T := fun V => Below x17.heap.size x17 V) (fun V hV => next bw hV) _ _ _ _ ?_
    clear bw
    have hS : Below x17.heap.size x17 x17 := Below.refl _ _
    refine wpAnyH_ready (rs := [3]) (by kernel_rfl) (by simp) ?_
    refine AllReadyH.cons (o := { dst := some 14, op := Op.buildSlice 22 1 #[(0, Operand.tmp 13)], type := 22, pos := "outright.go:39", after := #[{ on := 2, ground := Ground.data }], guard := none }) rfl (fun K hK => ?_) ?_
    · go_simp
      refine hK.out _ _ (hS.alloc hS.size _) (fun _ => ?_)
      clear hK K
      try simp only [Act.put, List.setIfInBounds_toArray, List.set_cons_zero, List.set_cons_succ]
      have HG3 := Lib.hid (Row.made x17 24 [.slice A 0 c])
      have bw := (Below.refl x17.heap.size x17).alloc (Nat.le_refl _) (.cells #[.slice A 0 c] 24)
      obtain ⟨x18, hX⟩ : ∃ x, x17.alloc (.cells #[.slice A 0 c] 24) = x := ⟨_, rfl⟩
      rw [hX] at bw HG3 ⊢
      clear hX
      replace HR := Lib.hid (HR.out.on bw)
      replace HG10 := Lib.hid (HG10.out.on bw)
      replace HB := Lib.hid (next HB.out bw)
      refine wpAnyH_narrow (T := fun V => Below x18.heap.size x18 V) (fun V hV => next bw hV) _ _ _ _ ?_
      clear bw
      have hS : Below x18.heap.size x18 x18 := Below.refl _ _
      refine wpAnyH_still (i := 4) (oi := { dst := some 15, op := Op.call { callee := Callee.value (Operand.func 11), args := #[Operand.tmp 14], argTypes := #[22] }, type := 23, pos := "outright.go:39", after := #[{ on := 3, ground := Ground.data }], guard := none }) (v := .int .u32 (s : Int)) rfl (by kernel_rfl) (by kernel_rfl) (by kernel_rfl) (fun _ _ _ h => h) hS ⟨by rfl, fun W hW => ⟨_, _, ?hr76, (Of_r1 _ A 0 c s _ [] W (HG3.out.on hW) (HR.out.on hW) U8.nil (Nat.zero_le _) e2)⟩⟩ ?rest76
      case hr76 => (go_simp; try with_reducible rfl)
      try simp only [Act.put, List.setIfInBounds_toArray, List.set_cons_zero, List.set_cons_succ]
      refine wpAnyH_still (i := 8) (oi := { dst := some 19, op := Op.call { callee := Callee.value (Operand.func 13), args := #[Operand.tmp 15, Operand.tmp 18], argTypes := #[23, 24] }, type := 23, pos := "outright.go:39", after := #[{ on := 4, ground := Ground.data }, { on := 7, ground := Ground.data }, { on := 4, ground := Ground.chain }], guard := none }) (v := .int .u32 (s : Int)) rfl (by kernel_rfl) (by kernel_rfl) (by kernel_rfl) (fun _ _ _ h => h) hS ⟨by rfl, fun W hW => ⟨_, _, ?hr77, (On_at s s A c 0 _ [] W (HR.out.on hW) U8.nil hs1 (Nat.zero_le _) e4)⟩⟩ ?rest77
      case hr77 => (go_simp; try with_reducible rfl)
      try simp only [Act.put, List.setIfInBounds_toArray, List.set_cons_zero, List.set_cons_succ]
      refine wpAnyH_still (i := 11) (oi := { dst := some 22, op := Op.call { callee := Callee.value (Operand.func 11), args := #[Operand.tmp 21], argTypes := #[22] }, type := 23, pos := "outright.go:39", after := #[{ on := 10, ground := Ground.data }, { on := 8, ground := Ground.chain }], guard := none }) (v := .int .u32 (s : Int)) rfl (by kernel_rfl) (by kernel_rfl) (by kernel_rfl) (fun _ _ _ h => h) hS ⟨by rfl, fun W hW => ⟨_, _, ?hr78, (Of_r1 _ A 0 c s _ [] W (HG10.out.on hW) (HR.out.on hW) U8.nil (Nat.zero_le _) e2)⟩⟩ ?rest78
      case hr78 => (go_simp; try with_reducible rfl)
      try simp only [Act.put, List.setIfInBounds_toArray, List.set_cons_zero, List.set_cons_succ]
      refine wpAnyH_take (i := 12) (oi := { dst := some 23, op := Op.binOp BinOp.eql 23 (Operand.tmp 19) (Operand.tmp 22) 23, type := 4, pos := "outright.go:39", after := #[{ on := 8, ground := Ground.data }, { on := 11, ground := Ground.data }], guard := none }) (v := ?v79) rfl (by kernel_rfl) (by kernel_rfl) (by kernel_rfl) (fun _ _ _ h => h) (Or.inl ⟨by rfl, ?hy79⟩) hS ?rest79
      case hy79 => (intro W _hW; go_simp; try with_reducible rfl)
      try simp only [Act.put, List.setIfInBounds_toArray, List.set_cons_zero, List.set_cons_succ]
      refine wpAnyH_take (i := 13) (oi := { dst := some 24, op := Op.move (Operand.tmp 23), type := 4, pos := "outright.go:39", after := #[{ on := 12, ground := Ground.data }, { on := 11, ground := Ground.chain }], guard := none }) (v := ?v80) rfl (by kernel_rfl) (by kernel_rfl) (by kernel_rfl) (fun _ _ _ h => h) (Or.inl ⟨by rfl, ?hy80⟩) hS ?rest80
      case hy80 => (intro W _hW; go_simp; try with_reducible rfl)
      try simp only [Act.put, List.setIfInBounds_toArray, List.set_cons_zero, List.set_cons_succ]
      refine wpAnyH_take (i := 14) (oi := { dst := some 25, op := Op.move (Operand.tmp 0), type := 24, pos := "outright.go:39", after := #[{ on := 13, ground := Ground.guard }], guard := some (13, true) }) (v := ?v81) rfl (by kernel_rfl) (by kernel_rfl) (by kernel_rfl) (fun _ _ _ h => h) (Or.inl ⟨by rfl, ?hy81⟩) hS ?rest81
      case hy81 => (intro W _hW; go_simp; try with_reducible rfl)
      try simp only [Act.put, List.setIfInBounds_toArray, List.set_cons_zero, List.set_cons_succ]
      refine wpAnyH_take (i := 15) (oi := { dst := some 26, op := Op.move (Operand.tmp 5), type := 3, pos := "outright.go:39", after := #[{ on := 13, ground := Ground.guard }], guard := some (13, true) }) (v := ?v82) rfl (by kernel_rfl) (by kernel_rfl) (by kernel_rfl) (fun _ _ _ h => h) (Or.inl ⟨by rfl, ?hy82⟩) hS ?rest82
      case hy82 => (intro W _hW; go_simp; try with_reducible rfl)
      try simp only [Act.put, List.setIfInBounds_toArray, List.set_cons_zero, List.set_cons_succ]
      refine wpAnyH_take (i := 16) (oi := { dst := some 27, op := Op.slice 24 (Operand.tmp 25) none (some (Operand.tmp 26)) none, type := 24, pos := "outright.go:39", after := #[{ on := 14, ground := Ground.data }, { on := 15, ground := Ground.data }, { on := 13, ground := Ground.guard }], guard := some (13, true) }) (v := ?v83) rfl (by kernel_rfl) (by kernel_rfl) (by kernel_rfl) (fun _ _ _ h => h) (Or.inl ⟨by rfl, ?hy83⟩) hS ?rest83
      case hy83 => (intro W _hW; go_simp; try with_reducible rfl)
      try simp only [Act.put, List.setIfInBounds_toArray, List.set_cons_zero, List.set_cons_succ]
      refine wpAnyH_take (i := 17) (oi := { dst := some 28, op := Op.move (Operand.tmp 0), type := 24, pos := "outright.go:39", after := #[{ on := 13, ground := Ground.guard }], guard := some (13, true) }) (v := ?v84) rfl (by kernel_rfl) (by kernel_rfl) (by kernel_rfl) (fun _ _ _ h => h) (Or.inl ⟨by rfl, ?hy84⟩) hS ?rest84
      case hy84 => (intro W _hW; go_simp; try with_reducible rfl)
      try simp only [Act.put, List.setIfInBounds_toArray, List.set_cons_zero, List.set_cons_succ]
      refine wpAnyH_take (i := 18) (oi := { dst := some 29, op := Op.move (Operand.tmp 5), type := 3, pos := "outright.go:39", after := #[{ on := 13, ground := Ground.guard }], guard := some (13, true) }) (v := ?v85) rfl (by kernel_rfl) (by kernel_rfl) (by kernel_rfl) (fun _ _ _ h => h) (Or.inl ⟨by rfl, ?hy85⟩) hS ?rest85
      case hy85 => (intro W _hW; go_simp; try with_reducible rfl)
      try simp only [Act.put, List.setIfInBounds_toArray, List.set_cons_zero, List.set_cons_succ]
      refine wpAnyH_take (i := 19) (oi := { dst := some 30, op := Op.slice 24 (Operand.tmp 28) (some (Operand.tmp 29)) none none, type := 24, pos := "outright.go:39", after := #[{ on := 17, ground := Ground.data }, { on := 18, ground := Ground.data }, { on := 13, ground := Ground.guard }], guard := some (13, true) }) (v := ?v86) rfl (by kernel_rfl) (by kernel_rfl) (by kernel_rfl) (fun _ _ _ h => h) (Or.inl ⟨by rfl, ?hy86⟩) hS ?rest86
      case hy86 => (intro W _hW; go_simp; try with_reducible rfl)
      try simp only [Act.put, List.setIfInBounds_toArray, List.set_cons_zero, List.set_cons_succ]
      refine wpAnyH_take (i := 22) (oi := { dst := some 33, op := Op.move (Operand.tmp 0), type := 24, pos := "outright.go:39", after := #[{ on := 13, ground := Ground.guard }], guard := some (13, true) }) (v := ?v87) rfl (by kernel_rfl) (by kernel_rfl) (by kernel_rfl) (fun _ _ _ h => h) (Or.inl ⟨by rfl, ?hy87⟩) hS ?rest87
      case hy87 => (intro W _hW; go_simp; try with_reducible rfl)
      try simp only [Act.put, List.setIfInBounds_toArray, List.set_cons_zero, List.set_cons_succ]
      refine wpAnyH_ready (rs := [20, 23]) (by kernel_rfl) (by simp) ?_
      refine AllReadyH.cons (o := { dst := some 31, op := Op.buildSlice 22 2 #[(0, Operand.tmp 27), (1, Operand.tmp 30)], type := 22, pos := "outright.go:39", after := #[{ on := 16, ground := Ground.data }, { on := 19, ground := Ground.data }, { on := 13, ground := Ground.guard }], guard := some (13, true) }) rfl (fun K hK => ?_) ?_
      · go_simp
        refine hK.out _ _ (hS.alloc hS.size _) (fun _ => ?_)
        clear hK K
        try simp only [Act.put, List.setIfInBounds_toArray, List.set_cons_zero, List.set_cons_succ]
        have HG20 := Lib.hid (Row.made x18 24 [.slice A 0 c, .slice A 0 c])
        have bw := (Below.refl x18.heap.size x18).alloc (Nat.le_refl _) (.cells #[.slice A 0 c, .slice A 0 c] 24)
        obtain ⟨x19, hX⟩ : ∃ x, x18.alloc (.cells #[.slice A 0 c, .slice A 0 c] 24) = x := ⟨_, rfl⟩
        rw [hX] at bw HG20 ⊢
        clear hX
        replace HR := Lib.hid (HR.out.on bw)
        replace HG10 := Lib.hid (HG10.out.on bw)
        replace HG3 := Lib.hid (HG3.out.on bw)
        replace HB := Lib.hid (next HB.out bw)
        refine wpAnyH_narrow (T := fun V => Below x19.heap.size x19 V) (fun V hV => next bw hV) _ _ _ _ ?_
        clear bw
        have hS : Below x19.heap.size x19 x19 := Below.refl _ _
        refine wpAnyH_still (i := 21) (oi := { dst := some 32, op := Op.call { callee := Callee.value (Operand.func 11), args := #[Operand.tmp 31], argTypes := #[22] }, type := 23, pos := "outright.go:39", after := #[{ on := 20, ground := Ground.data }, { on := 13, ground := Ground.chain }, { on := 13, ground := Ground.guard }], guard := some (13, true) }) (v := .int .u32 (s : Int)) rfl (by kernel_rfl) (by kernel_rfl) (by kernel_rfl) (fun _ _ _ h => h) hS ⟨by rfl, fun W hW => ⟨_, _, ?hr88, (Of_r2 _ A A 0 c 0 c s _ [] [] W (HG20.out.on hW) (HR.out.on hW) (HR.out.on hW) U8.nil U8.nil (Nat.zero_le _) (Nat.zero_le _) e3)⟩⟩ ?rest88
        case hr88 => (go_simp; try with_reducible rfl)
        try simp only [Act.put, List.setIfInBounds_toArray, List.set_cons_zero, List.set_cons_succ]
        refine wpAnyH_ready (rs := [23]) (by kernel_rfl) (by simp) ?_
        refine AllReadyH.cons (o := { dst := some 34, op := Op.buildSlice 22 1 #[(0, Operand.tmp 33)], type := 22, pos := "outright.go:39", after := #[{ on := 22, ground := Ground.data }, { on := 13, ground := Ground.guard }], guard := some (13, true) }) rfl (fun K hK => ?_) ?_
        · go_simp
          refine hK.out _ _ (hS.alloc hS.size _) (fun _ => ?_)
          clear hK K
          try simp only [Act.put, List.setIfInBounds_toArray, List.set_cons_zero, List.set_cons_succ]
          have HG23 := Lib.hid (Row.made x19 24 [.slice A 0 c])
          have bw := (Below.refl x19.heap.size x19).alloc (Nat.le_refl _) (.cells #[.slice A 0 c] 24)
          obtain ⟨x20, hX⟩ : ∃ x, x19.alloc (.cells #[.slice A 0 c] 24) = x := ⟨_, rfl⟩
          rw [hX] at bw HG23 ⊢
          clear hX
          replace HR := Lib.hid (HR.out.on bw)
          replace HG10 := Lib.hid (HG10.out.on bw)
          replace HG3 := Lib.hid (HG3.out.on bw)
          replace HG20 := Lib.hid (HG20.out.on bw)
          replace HB := Lib.hid (next HB.out bw)
          refine wpAnyH_narrow (T := fun V => Below x20.heap.size x20 V) (fun V hV => next bw hV) _ _ _ _ ?_
          clear bw
          have hS : Below x20.heap.size x20 x20 := Below.refl _ _
          refine wpAnyH_still (i := 24) (oi := { dst := some 35, op := Op.call { callee := Callee.value (Operand.func 11), args := #[Operand.tmp 34], argTypes := #[22] }, type := 23, pos := "outright.go:39", after := #[{ on := 23, ground := Ground.data }, { on := 21, ground := Ground.chain }, { on := 13, ground := Ground.guard }], guard := some (13, true) }) (v := .int .u32 (s : Int)) rfl (by kernel_rfl) (by kernel_rfl) (by kernel_rfl) (fun _ _ _ h => h) hS ⟨by rfl, fun W hW => ⟨_, _, ?hr89, (Of_r1 _ A 0 c s _ [] W (HG23.out.on hW) (HR.out.on hW) U8.nil (Nat.zero_le _) e2)⟩⟩ ?rest89
          case hr89 => (go_simp; try with_reducible rfl)
          try simp only [Act.put, List.setIfInBounds_toArray, List.set_cons_zero, List.set_cons_succ]
          refine wpAnyH_take (i := 25) (oi := { dst := some 36, op := Op.binOp BinOp.eql 23 (Operand.tmp 32) (Operand.tmp 35) 23, type := 4, pos := "outright.go:39", after := #[{ on := 21, ground := Ground.data }, { on := 24, ground := Ground.data }, { on := 13, ground := Ground.guard }], guard := some (13, true) }) (v := ?v90) rfl (by kernel_rfl) (by kernel_rfl) (by kernel_rfl) (fun _ _ _ h => h) (Or.inl ⟨by rfl, ?hy90⟩) hS ?rest90
          case hy90 => (intro W _hW; go_simp; try with_reducible rfl)
          try simp only [Act.put, List.setIfInBounds_toArray, List.set_cons_zero, List.set_cons_succ]
          refine wpAnyH_take (i := 26) (oi := { dst := some 37, op := Op.pick (Operand.tmp 24) (Operand.tmp 36) (Operand.const (Value.bool false)), type := 4, pos := "outright.go:39", after := #[{ on := 13, ground := Ground.data }, { on := 25, ground := Ground.data }], guard := none }) (v := ?v91) rfl (by kernel_rfl) (by kernel_rfl) (by kernel_rfl) (fun _ _ _ h => h) (Or.inl ⟨by rfl, ?hy91⟩) hS ?rest91
          case hy91 => (intro W _hW; go_simp; try with_reducible rfl)
          try simp only [Act.put, List.setIfInBounds_toArray, List.set_cons_zero, List.set_cons_succ]
          refine wpAnyH_take (i := 27) (oi := { dst := some 38, op := Op.move (Operand.tmp 37), type := 4, pos := "outright.go:39", after := #[{ on := 26, ground := Ground.data }, { on := 24, ground := Ground.chain }], guard := none }) (v := ?v92) rfl (by kernel_rfl) (by kernel_rfl) (by kernel_rfl) (fun _ _ _ h => h) (Or.inl ⟨by rfl, ?hy92⟩) hS ?rest92
          case hy92 => (intro W _hW; go_simp; try with_reducible rfl)
          try simp only [Act.put, List.setIfInBounds_toArray, List.set_cons_zero, List.set_cons_succ]
          refine wpAnyH_take (i := 28) (oi := { dst := some 39, op := Op.move (Operand.tmp 0), type := 24, pos := "outright.go:39", after := #[{ on := 27, ground := Ground.guard }], guard := some (27, true) }) (v := ?v93) rfl (by kernel_rfl) (by kernel_rfl) (by kernel_rfl) (fun _ _ _ h => h) (Or.inl ⟨by rfl, ?hy93⟩) hS ?rest93
          case hy93 => (intro W _hW; go_simp; try with_reducible rfl)
          try simp only [Act.put, List.setIfInBounds_toArray, List.set_cons_zero, List.set_cons_succ]
          refine wpAnyH_still (i := 29) (oi := { dst := some 40, op := Op.call { callee := Callee.value (Operand.func 13), args := #[Operand.const (Value.int IntKind.u32 0), Operand.tmp 39], argTypes := #[23, 24] }, type := 23, pos := "outright.go:39", after := #[{ on := 28, ground := Ground.data }, { on := 27, ground := Ground.chain }, { on := 27, ground := Ground.guard }], guard := some (27, true) }) (v := .int .u32 (s : Int)) rfl (by kernel_rfl) (by kernel_rfl) (by kernel_rfl) (fun _ _ _ h => h) hS ⟨by rfl, fun W hW => ⟨_, _, ?hr94, (On_zero s A c 0 _ [] W (HR.out.on hW) U8.nil (Nat.zero_le _) e2)⟩⟩ ?rest94
          case hr94 => (go_simp; try with_reducible rfl)
          try simp only [Act.put, List.setIfInBounds_toArray, List.set_cons_zero, List.set_cons_succ]
          refine wpAnyH_take (i := 30) (oi := { dst := some 41, op := Op.move (Operand.tmp 0), type := 24, pos := "outright.go:39", after := #[{ on := 27, ground := Ground.guard }], guard := some (27, true) }) (v := ?v95) rfl (by kernel_rfl) (by kernel_rfl) (by kernel_rfl) (fun _ _ _ h => h) (Or.inl ⟨by rfl, ?hy95⟩) hS ?rest95
          case hy95 => (intro W _hW; go_simp; try with_reducible rfl)
          try simp only [Act.put, List.setIfInBounds_toArray, List.set_cons_zero, List.set_cons_succ]
          refine wpAnyH_ready (rs := [31]) (by kernel_rfl) (by simp) ?_
          refine AllReadyH.cons (o := { dst := some 42, op := Op.buildSlice 22 1 #[(0, Operand.tmp 41)], type := 22, pos := "outright.go:39", after := #[{ on := 30, ground := Ground.data }, { on := 27, ground := Ground.guard }], guard := some (27, true) }) rfl (fun K hK => ?_) ?_
          · go_simp
            refine hK.out _ _ (hS.alloc hS.size _) (fun _ => ?_)
            clear hK K
            try simp only [Act.put, List.setIfInBounds_toArray, List.set_cons_zero, List.set_cons_succ]
            have HG31 := Lib.hid (Row.made x20 24 [.slice A 0 c])
            have bw := (Below.refl x20.heap.size x20).alloc (Nat.le_refl _) (.cells #[.slice A 0 c] 24)
            obtain ⟨x21, hX⟩ : ∃ x, x20.alloc (.cells #[.slice A 0 c] 24) = x := ⟨_, rfl⟩
            rw [hX] at bw HG31 ⊢
            clear hX
            replace HR := Lib.hid (HR.out.on bw)
            replace HG10 := Lib.hid (HG10.out.on bw)
            replace HG3 := Lib.hid (HG3.out.on bw)
            replace HG20 := Lib.hid (HG20.out.on bw)
            replace HG23 := Lib.hid (HG23.out.on bw)
            replace HB := Lib.hid (next HB.out bw)
            refine wpAnyH_narrow (T := fun V => Below x21.heap.size x21 V) (fun V hV => next bw hV) _ _ _ _ ?_
            clear bw
            have hS : Below x21.heap.size x21 x21 := Below.refl _ _
            refine wpAnyH_still (i := 32) (oi := { dst := some 43, op := Op.call { callee := Callee.value (Operand.func 11), args := #[Operand.tmp 42], argTypes := #[22] }, type := 23, pos := "outright.go:39", after := #[{ on := 31, ground := Ground.data }, { on := 29, ground := Ground.chain }, { on := 27, ground := Ground.guard }], guard := some (27, true) }) (v := .int .u32 (s : Int)) rfl (by kernel_rfl) (by kernel_rfl) (by kernel_rfl) (fun _ _ _ h => h) hS ⟨by rfl, fun W hW => ⟨_, _, ?hr96, (Of_r1 _ A 0 c s _ [] W (HG31.out.on hW) (HR.out.on hW) U8.nil (Nat.zero_le _) e2)⟩⟩ ?rest96
            case hr96 => (go_simp; try with_reducible rfl)
            try simp only [Act.put, List.setIfInBounds_toArray, List.set_cons_zero, List.set_cons_succ]
            refine wpAnyH_take (i := 33) (oi := { dst := some 44, op := Op.binOp BinOp.eql 23 (Operand.tmp 40) (Operand.tmp 43) 23, type := 4, pos := "outright.go:39", after := #[{ on := 29, ground := Ground.data }, { on := 32, ground := Ground.data }, { on := 27, ground := Ground.guard }], guard := some (27, true) }) (v := ?v97) rfl (by kernel_rfl) (by kernel_rfl) (by kernel_rfl) (fun _ _ _ h => h) (Or.inl ⟨by rfl, ?hy97⟩) hS ?rest97
            case hy97 => (intro W _hW; go_simp; try with_reducible rfl)
            try simp only [Act.put, List.setIfInBounds_toArray, List.set_cons_zero, List.set_cons_succ]
            refine wpAnyH_take (i := 34) (oi := { dst := some 45, op := Op.pick (Operand.tmp 38) (Operand.tmp 44) (Operand.const (Value.bool false)), type := 4, pos := "outright.go:39", after := #[{ on := 27, ground := Ground.data }, { on := 33, ground := Ground.data }], guard := none }) (v := ?v98) rfl (by kernel_rfl) (by kernel_rfl) (by kernel_rfl) (fun _ _ _ h => h) (Or.inl ⟨by rfl, ?hy98⟩) hS ?rest98
            case hy98 => (intro W _hW; go_simp; try with_reducible rfl)
            try simp only [Act.put, List.setIfInBounds_toArray, List.set_cons_zero, List.set_cons_succ]
            refine wpAnyH_take (i := 35) (oi := { dst := some 46, op := Op.move (Operand.tmp 45), type := 4, pos := "outright.go:39", after := #[{ on := 34, ground := Ground.data }, { on := 32, ground := Ground.chain }], guard := none }) (v := ?v99) rfl (by kernel_rfl) (by kernel_rfl) (by kernel_rfl) (fun _ _ _ h => h) (Or.inl ⟨by rfl, ?hy99⟩) hS ?rest99
            case hy99 => (intro W _hW; go_simp; try with_reducible rfl)
            try simp only [Act.put, List.setIfInBounds_toArray, List.set_cons_zero, List.set_cons_succ]
            refine wpAnyH_take (i := 36) (oi := { dst := some 47, op := Op.move (Operand.tmp 0), type := 24, pos := "outright.go:39", after := #[{ on := 35, ground := Ground.guard }], guard := some (35, true) }) (v := ?v100) rfl (by kernel_rfl) (by kernel_rfl) (by kernel_rfl) (fun _ _ _ h => h) (Or.inl ⟨by rfl, ?hy100⟩) hS ?rest100
            case hy100 => (intro W _hW; go_simp; try with_reducible rfl)
            try simp only [Act.put, List.setIfInBounds_toArray, List.set_cons_zero, List.set_cons_succ]
            refine wpAnyH_take (i := 39) (oi := { dst := some 50, op := Op.move (Operand.tmp 0), type := 24, pos := "outright.go:39", after := #[{ on := 35, ground := Ground.guard }], guard := some (35, true) }) (v := ?v101) rfl (by kernel_rfl) (by kernel_rfl) (by kernel_rfl) (fun _ _ _ h => h) (Or.inl ⟨by rfl, ?hy101⟩) hS ?rest101
            case hy101 => (intro W _hW; go_simp; try with_reducible rfl)
            try simp only [Act.put, List.setIfInBounds_toArray, List.set_cons_zero, List.set_cons_succ]
            refine wpAnyH_ready (rs := [37, 40]) (by kernel_rfl) (by simp) ?_
            refine AllReadyH.cons (o := { dst := some 48, op := Op.buildSlice 22 3 #[(0, Operand.const (Value.slice none 0 0)), (1, Operand.tmp 47), (2, Operand.const (Value.slice none 0 0))], type := 22, pos := "outright.go:39", after := #[{ on := 36, ground := Ground.data }, { on := 35, ground := Ground.guard }], guard := some (35, true) }) rfl (fun K hK => ?_) ?_
            · go_simp
              refine hK.out _ _ (hS.alloc hS.size _) (fun _ => ?_)
              clear hK K
              try simp only [Act.put, List.setIfInBounds_toArray, List.set_cons_zero, List.set_cons_succ]
              have HG37 := Lib.hid (Row.made x21 24 [.slice none 0 0, .slice A 0 c, .slice none 0 0])
              have bw := (Below.refl x21.heap.size x21).alloc (Nat.le_refl _) (.cells #[.slice none 0 0, .slice A 0 c, .slice none 0 0] 24)
              obtain ⟨x22, hX⟩ : ∃ x, x21.alloc (.cells #[.slice none 0 0, .slice A 0 c, .slice none 0 0] 24) = x := ⟨_, rfl⟩
              rw [hX] at bw HG37 ⊢
              clear hX
              replace HR := Lib.hid (HR.out.on bw)
              replace HG10 := Lib.hid (HG10.out.on bw)
              replace HG3 := Lib.hid (HG3.out.on bw)
              replace HG20 := Lib.hid (HG20.out.on bw)
              replace HG23 := Lib.hid (HG23.out.on bw)
              replace HG31 := Lib.hid (HG31.out.on bw)
              replace HB := Lib.hid (next HB.out bw)
              refine wpAnyH_narrow (T := fun V => Below x22.heap.size x22 V) (fun V hV => next bw hV) _ _ _ _ ?_
              clear bw
              have hS : Below x22.heap.size x22 x22 := Below.refl _ _
              refine wpAnyH_still (i := 38) (oi := { dst := some 49, op := Op.call { callee := Callee.value (Operand.func 11), args := #[Operand.tmp 48], argTypes := #[22] }, type := 23, pos := "outright.go:39", after := #[{ on := 37, ground := Ground.data }, { on := 35, ground := Ground.chain }, { on := 35, ground := Ground.guard }], guard := some (35, true) }) (v := .int .u32 (s : Int)) rfl (by kernel_rfl) (by kernel_rfl) (by kernel_rfl) (fun _ _ _ h => h) hS ⟨by rfl, fun W hW => ⟨_, _, ?hr102, (Of_r3 _ A 0 c s _ [] W (HG37.out.on hW) (HR.out.on hW) U8.nil (Nat.zero_le _) e2)⟩⟩ ?rest102
              case hr102 => (go_simp; try with_reducible rfl)
              try simp only [Act.put, List.setIfInBounds_toArray, List.set_cons_zero, List.set_cons_succ]
              refine wpAnyH_ready (rs := [40]) (by kernel_rfl) (by simp) ?_
              refine AllReadyH.cons (o := { dst := some 51, op := Op.buildSlice 22 1 #[(0, Operand.tmp 50)], type := 22, pos := "outright.go:39", after := #[{ on := 39, ground := Ground.data }, { on := 35, ground := Ground.guard }], guard := some (35, true) }) rfl (fun K hK => ?_) ?_
              · go_simp
                refine hK.out _ _ (hS.alloc hS.size _) (fun _ => ?_)
                clear hK K
                try simp only [Act.put, List.setIfInBounds_toArray, List.set_cons_zero, List.set_cons_succ]
                have HG40 := Lib.hid (Row.made x22 24 [.slice A 0 c])
                have bw := (Below.refl x22.heap.size x22).alloc (Nat.le_refl _) (.cells #[.slice A 0 c] 24)
                obtain ⟨x23, hX⟩ : ∃ x, x22.alloc (.cells #[.slice A 0 c] 24) = x := ⟨_, rfl⟩
                rw [hX] at bw HG40 ⊢
                clear hX
                replace HR := Lib.hid (HR.out.on bw)
                replace HG10 := Lib.hid (HG10.out.on bw)
                replace HG3 := Lib.hid (HG3.out.on bw)
                replace HG20 := Lib.hid (HG20.out.on bw)
                replace HG23 := Lib.hid (HG23.out.on bw)
                replace HG31 := Lib.hid (HG31.out.on bw)
                replace HG37 := Lib.hid (HG37.out.on bw)
                replace HB := Lib.hid (next HB.out bw)
                refine wpAnyH_narrow (T := fun V => Below x23.heap.size x23 V) (fun V hV => next bw hV) _ _ _ _ ?_
                clear bw
                have hS : Below x23.heap.size x23 x23 := Below.refl _ _
                refine wpAnyH_still (i := 41) (oi := { dst := some 52, op := Op.call { callee := Callee.value (Operand.func 11), args := #[Operand.tmp 51], argTypes := #[22] }, type := 23, pos := "outright.go:39", after := #[{ on := 40, ground := Ground.data }, { on := 38, ground := Ground.chain }, { on := 35, ground := Ground.guard }], guard := some (35, true) }) (v := .int .u32 (s : Int)) rfl (by kernel_rfl) (by kernel_rfl) (by kernel_rfl) (fun _ _ _ h => h) hS ⟨by rfl, fun W hW => ⟨_, _, ?hr103, (Of_r1 _ A 0 c s _ [] W (HG40.out.on hW) (HR.out.on hW) U8.nil (Nat.zero_le _) e2)⟩⟩ ?rest103
                case hr103 => (go_simp; try with_reducible rfl)
                try simp only [Act.put, List.setIfInBounds_toArray, List.set_cons_zero, List.set_cons_succ]
                refine wpAnyH_take (i := 42) (oi := { dst := some 53, op := Op.binOp BinOp.eql 23 (Operand.tmp 49) (Operand.tmp 52) 23, type := 4, pos := "outright.go:39", after := #[{ on := 38, ground := Ground.data }, { on := 41, ground := Ground.data }, { on := 35, ground := Ground.guard }], guard := some (35, true) }) (v := ?v104) rfl (by kernel_rfl) (by kernel_rfl) (by kernel_rfl) (fun _ _ _ h => h) (Or.inl ⟨by rfl, ?hy104⟩) hS ?rest104
                case hy104 => (intro W _hW; go_simp; try with_reducible rfl)
                try simp only [Act.put, List.setIfInBounds_toArray, List.set_cons_zero, List.set_cons_succ]
                refine wpAnyH_take (i := 43) (oi := { dst := some 54, op := Op.pick (Operand.tmp 46) (Operand.tmp 53) (Operand.const (Value.bool false)), type := 4, pos := "outright.go:39", after := #[{ on := 35, ground := Ground.data }, { on := 42, ground := Ground.data }], guard := none }) (v := ?v105) rfl (by kernel_rfl) (by kernel_rfl) (by kernel_rfl) (fun _ _ _ h => h) (Or.inl ⟨by rfl, ?hy105⟩) hS ?rest105
                case hy105 => (intro W _hW; go_simp; try with_reducible rfl)
                try simp only [Act.put, List.setIfInBounds_toArray, List.set_cons_zero, List.set_cons_succ]
                refine wpAnyH_take (i := 44) (oi := { dst := some 55, op := Op.move (Operand.tmp 54), type := 4, pos := "outright.go:39", after := #[{ on := 43, ground := Ground.data }, { on := 41, ground := Ground.chain }], guard := none }) (v := ?v106) rfl (by kernel_rfl) (by kernel_rfl) (by kernel_rfl) (fun _ _ _ h => h) (Or.inl ⟨by rfl, ?hy106⟩) hS ?rest106
                case hy106 => (intro W _hW; go_simp; try with_reducible rfl)
                try simp only [Act.put, List.setIfInBounds_toArray, List.set_cons_zero, List.set_cons_succ]
                refine wpAnyH_ready (rs := [45]) (by kernel_rfl) (by simp) ?_
                refine AllReadyH.cons (o := { dst := some 56, op := Op.call { callee := Callee.value (Operand.func 18), args := #[], argTypes := #[] }, type := 4, pos := "outright.go:39", after := #[{ on := 44, ground := Ground.chain }, { on := 44, ground := Ground.guard }], guard := some (44, true) }) rfl (fun K hK => ?_) ?_
                · go_simp
                  refine (awake_any _).mono ?_
                  rintro e wz ⟨rfl, hz⟩
                  refine hK.out _ _ hz (fun hS => ?_)
                  clear hK K
                  replace HB := Lib.hid (next HB.out hz)
                  try simp only [Act.put, List.setIfInBounds_toArray, List.set_cons_zero, List.set_cons_succ]
                  refine wpAnyH_take (i := 46) (oi := { dst := some 57, op := Op.pick (Operand.tmp 55) (Operand.tmp 56) (Operand.const (Value.bool false)), type := 4, pos := "outright.go:39", after := #[{ on := 44, ground := Ground.data }, { on := 45, ground := Ground.data }], guard := none }) (v := ?v107) rfl (by kernel_rfl) (by kernel_rfl) (by kernel_rfl) (fun _ _ _ h => h) (Or.inl ⟨by rfl, ?hy107⟩) hS ?rest107
                  case hy107 => (intro W _hW; go_simp; try with_reducible rfl)
                  try simp only [Act.put, List.setIfInBounds_toArray, List.set_cons_zero, List.set_cons_succ]
                  refine wpAnyH_take (i := 47) (oi := { dst := some 4, op := Op.assign (Operand.tmp 57), type := 4, pos := "outright.go:39", after := #[{ on := 46, ground := Ground.data }, { on := 45, ground := Ground.chain }, { on := 0, ground := Ground.phase }, { on := 1, ground := Ground.phase }, { on := 2, ground := Ground.phase }, { on := 3, ground := Ground.phase }, { on := 4, ground := Ground.phase }, { on := 5, ground := Ground.phase }, { on := 6, ground := Ground.phase }, { on := 7, ground := Ground.phase }, { on := 8, ground := Ground.phase }, { on := 9, ground := Ground.phase }, { on := 10, ground := Ground.phase }, { on := 11, ground := Ground.phase }, { on := 12, ground := Ground.phase }, { on := 13, ground := Ground.phase }, { on := 14, ground := Ground.phase }, { on := 15, ground := Ground.phase }, { on := 16, ground := Ground.phase }, { on := 17, ground := Ground.phase }, { on := 18, ground := Ground.phase }, { on := 19, ground := Ground.phase }, { on := 20, ground := Ground.phase }, { on := 21, ground := Ground.phase }, { on := 22, ground := Ground.phase }, { on := 23, ground := Ground.phase }, { on := 24, ground := Ground.phase }, { on := 25, ground := Ground.phase }, { on := 26, ground := Ground.phase }, { on := 27, ground := Ground.phase }, { on := 28, ground := Ground.phase }, { on := 29, ground := Ground.phase }, { on := 30, ground := Ground.phase }, { on := 31, ground := Ground.phase }, { on := 32, ground := Ground.phase }, { on := 33, ground := Ground.phase }, { on := 34, ground := Ground.phase }, { on := 35, ground := Ground.phase }, { on := 36, ground := Ground.phase }, { on := 37, ground := Ground.phase }, { on := 38, ground := Ground.phase }, { on := 39, ground := Ground.phase }, { on := 40, ground := Ground.phase }, { on := 41, ground := Ground.phase }, { on := 42, ground := Ground.phase }, { on := 43, ground := Ground.phase }, { on := 44, ground := Ground.phase }, { on := 45, ground := Ground.phase }, { on := 46, ground := Ground.phase }], guard := none }) (v := ?v108) rfl (by kernel_rfl) (by kernel_rfl) (by kernel_rfl) (fun _ _ _ h => h) (Or.inl ⟨by rfl, ?hy108⟩) hS ?rest108
                  case hy108 => (intro W _hW; go_simp; try with_reducible rfl)
                  try simp only [Act.put, List.setIfInBounds_toArray, List.set_cons_zero, List.set_cons_succ]
                  refine wpAnyH_done (by kernel_rfl) ?_ _
                  go_wp2
                  go_ret
                  exact ⟨rfl, HB.out⟩
                exact AllReadyH.nil
              exact AllReadyH.nil
            refine AllReadyH.cons (o := { dst := some 51, op := Op.buildSlice 22 1 #[(0, Operand.tmp 50)], type := 22, pos := "outright.go:39", after := #[{ on := 39, ground := Ground.data }, { on := 35, ground := Ground.guard }], guard := some (35, true) }) rfl (fun K hK => ?_) ?_
            · go_simp
              refine hK.out _ _ (hS.alloc hS.size _) (fun _ => ?_)
              clear hK K
              try simp only [Act.put, List.setIfInBounds_toArray, List.set_cons_zero, List.set_cons_succ]
              have HG40 := Lib.hid (Row.made x21 24 [.slice A 0 c])
              have bw := (Below.refl x21.heap.size x21).alloc (Nat.le_refl _) (.cells #[.slice A 0 c] 24)
              obtain ⟨x24, hX⟩ : ∃ x, x21.alloc (.cells #[.slice A 0 c] 24) = x := ⟨_, rfl⟩
              rw [hX] at bw HG40 ⊢
              clear hX
              replace HR := Lib.hid (HR.out.on bw)
              replace HG10 := Lib.hid (HG10.out.on bw)
              replace HG3 := Lib.hid (HG3.out.on bw)
              replace HG20 := Lib.hid (HG20.out.on bw)
              replace HG23 := Lib.hid (HG23.out.on bw)
              replace HG31 := Lib.hid (HG31.out.on bw)
              replace HB := Lib.hid (next HB.out bw)
              refine wpAnyH_narrow (T := fun V => Below x24.heap.size x24 V) (fun V hV => next bw hV) _ _ _ _ ?_
              clear bw
              have hS : Below x24.heap.size x24 x24 := Below.refl _ _
              refine wpAnyH_ready (rs := [37]) (by kernel_rfl) (by simp) ?_
              refine AllReadyH.cons (o := { dst := some 48, op := Op.buildSlice 22 3 #[(0, Operand.const (Value.slice none 0 0)), (1, Operand.tmp 47), (2, Operand.const (Value.slice none 0 0))], type := 22, pos := "outright.go:39", after := #[{ on := 36, ground := Ground.data }, { on := 35, ground := Ground.guard }], guard := some (35, true) }) rfl (fun K hK => ?_) ?_
              · go_simp
                refine hK.out _ _ (hS.alloc hS.size _) (fun _ => ?_)
                clear hK K
                try simp only [Act.put, List.setIfInBounds_toArray, List.set_cons_zero, List.set_cons_succ]
                have HG37 := Lib.hid (Row.made x24 24 [.slice none 0 0, .slice A 0 c, .slice none 0 0])
                have bw := (Below.refl x24.heap.size x24).alloc (Nat.le_refl _) (.cells #[.slice none 0 0, .slice A 0 c, .slice none 0 0] 24)
                obtain ⟨x25, hX⟩ : ∃ x, x24.alloc (.cells #[.slice none 0 0, .slice A 0 c, .slice none 0 0] 24) = x := ⟨_, rfl⟩
                rw [hX] at bw HG37 ⊢
                clear hX
                replace HR := Lib.hid (HR.out.on bw)
                replace HG10 := Lib.hid (HG10.out.on bw)
                replace HG3 := Lib.hid (HG3.out.on bw)
                replace HG20 := Lib.hid (HG20.out.on bw)
                replace HG23 := Lib.hid (HG23.out.on bw)
                replace HG31 := Lib.hid (HG31.out.on bw)
                replace HG40 := Lib.hid (HG40.out.on bw)
                replace HB := Lib.hid (next HB.out bw)
                refine wpAnyH_narrow (T := fun V => Below x25.heap.size x25 V) (fun V hV => next bw hV) _ _ _ _ ?_
                clear bw
                have hS : Below x25.heap.size x25 x25 := Below.refl _ _
                refine wpAnyH_still (i := 38) (oi := { dst := some 49, op := Op.call { callee := Callee.value (Operand.func 11), args := #[Operand.tmp 48], argTypes := #[22] }, type := 23, pos := "outright.go:39", after := #[{ on := 37, ground := Ground.data }, { on := 35, ground := Ground.chain }, { on := 35, ground := Ground.guard }], guard := some (35, true) }) (v := .int .u32 (s : Int)) rfl (by kernel_rfl) (by kernel_rfl) (by kernel_rfl) (fun _ _ _ h => h) hS ⟨by rfl, fun W hW => ⟨_, _, ?hr109, (Of_r3 _ A 0 c s _ [] W (HG37.out.on hW) (HR.out.on hW) U8.nil (Nat.zero_le _) e2)⟩⟩ ?rest109
                case hr109 => (go_simp; try with_reducible rfl)
                try simp only [Act.put, List.setIfInBounds_toArray, List.set_cons_zero, List.set_cons_succ]
                refine wpAnyH_still (i := 41) (oi := { dst := some 52, op := Op.call { callee := Callee.value (Operand.func 11), args := #[Operand.tmp 51], argTypes := #[22] }, type := 23, pos := "outright.go:39", after := #[{ on := 40, ground := Ground.data }, { on := 38, ground := Ground.chain }, { on := 35, ground := Ground.guard }], guard := some (35, true) }) (v := .int .u32 (s : Int)) rfl (by kernel_rfl) (by kernel_rfl) (by kernel_rfl) (fun _ _ _ h => h) hS ⟨by rfl, fun W hW => ⟨_, _, ?hr110, (Of_r1 _ A 0 c s _ [] W (HG40.out.on hW) (HR.out.on hW) U8.nil (Nat.zero_le _) e2)⟩⟩ ?rest110
                case hr110 => (go_simp; try with_reducible rfl)
                try simp only [Act.put, List.setIfInBounds_toArray, List.set_cons_zero, List.set_cons_succ]
                refine wpAnyH_take (i := 42) (oi := { dst := some 53, op := Op.binOp BinOp.eql 23 (Operand.tmp 49) (Operand.tmp 52) 23, type := 4, pos := "outright.go:39", after := #[{ on := 38, ground := Ground.data }, { on := 41, ground := Ground.data }, { on := 35, ground := Ground.guard }], guard := some (35, true) }) (v := ?v111) rfl (by kernel_rfl) (by kernel_rfl) (by kernel_rfl) (fun _ _ _ h => h) (Or.inl ⟨by rfl, ?hy111⟩) hS ?rest111
                case hy111 => (intro W _hW; go_simp; try with_reducible rfl)
                try simp only [Act.put, List.setIfInBounds_toArray, List.set_cons_zero, List.set_cons_succ]
                refine wpAnyH_take (i := 43) (oi := { dst := some 54, op := Op.pick (Operand.tmp 46) (Operand.tmp 53) (Operand.const (Value.bool false)), type := 4, pos := "outright.go:39", after := #[{ on := 35, ground := Ground.data }, { on := 42, ground := Ground.data }], guard := none }) (v := ?v112) rfl (by kernel_rfl) (by kernel_rfl) (by kernel_rfl) (fun _ _ _ h => h) (Or.inl ⟨by rfl, ?hy112⟩) hS ?rest112
                case hy112 => (intro W _hW; go_simp; try with_reducible rfl)
                try simp only [Act.put, List.setIfInBounds_toArray, List.set_cons_zero, List.set_cons_succ]
                refine wpAnyH_take (i := 44) (oi := { dst := some 55, op := Op.move (Operand.tmp 54), type := 4, pos := "outright.go:39", after := #[{ on := 43, ground := Ground.data }, { on := 41, ground := Ground.chain }], guard := none }) (v := ?v113) rfl (by kernel_rfl) (by kernel_rfl) (by kernel_rfl) (fun _ _ _ h => h) (Or.inl ⟨by rfl, ?hy113⟩) hS ?rest113
                case hy113 => (intro W _hW; go_simp; try with_reducible rfl)
                try simp only [Act.put, List.setIfInBounds_toArray, List.set_cons_zero, List.set_cons_succ]
                refine wpAnyH_ready (rs := [45]) (by kernel_rfl) (by simp) ?_
                refine AllReadyH.cons (o := { dst := some 56, op := Op.call { callee := Callee.value (Operand.func 18), args := #[], argTypes := #[] }, type := 4, pos := "outright.go:39", after := #[{ on := 44, ground := Ground.chain }, { on := 44, ground := Ground.guard }], guard := some (44, true) }) rfl (fun K hK => ?_) ?_
                · go_simp
                  refine (awake_any _).mono ?_
                  rintro e wz ⟨rfl, hz⟩
                  refine hK.out _ _ hz (fun hS => ?_)
                  clear hK K
                  replace HB := Lib.hid (next HB.out hz)
                  try simp only [Act.put, List.setIfInBounds_toArray, List.set_cons_zero, List.set_cons_succ]
                  refine wpAnyH_take (i := 46) (oi := { dst := some 57, op := Op.pick (Operand.tmp 55) (Operand.tmp 56) (Operand.const (Value.bool false)), type := 4, pos := "outright.go:39", after := #[{ on := 44, ground := Ground.data }, { on := 45, ground := Ground.data }], guard := none }) (v := ?v114) rfl (by kernel_rfl) (by kernel_rfl) (by kernel_rfl) (fun _ _ _ h => h) (Or.inl ⟨by rfl, ?hy114⟩) hS ?rest114
                  case hy114 => (intro W _hW; go_simp; try with_reducible rfl)
                  try simp only [Act.put, List.setIfInBounds_toArray, List.set_cons_zero, List.set_cons_succ]
                  refine wpAnyH_take (i := 47) (oi := { dst := some 4, op := Op.assign (Operand.tmp 57), type := 4, pos := "outright.go:39", after := #[{ on := 46, ground := Ground.data }, { on := 45, ground := Ground.chain }, { on := 0, ground := Ground.phase }, { on := 1, ground := Ground.phase }, { on := 2, ground := Ground.phase }, { on := 3, ground := Ground.phase }, { on := 4, ground := Ground.phase }, { on := 5, ground := Ground.phase }, { on := 6, ground := Ground.phase }, { on := 7, ground := Ground.phase }, { on := 8, ground := Ground.phase }, { on := 9, ground := Ground.phase }, { on := 10, ground := Ground.phase }, { on := 11, ground := Ground.phase }, { on := 12, ground := Ground.phase }, { on := 13, ground := Ground.phase }, { on := 14, ground := Ground.phase }, { on := 15, ground := Ground.phase }, { on := 16, ground := Ground.phase }, { on := 17, ground := Ground.phase }, { on := 18, ground := Ground.phase }, { on := 19, ground := Ground.phase }, { on := 20, ground := Ground.phase }, { on := 21, ground := Ground.phase }, { on := 22, ground := Ground.phase }, { on := 23, ground := Ground.phase }, { on := 24, ground := Ground.phase }, { on := 25, ground := Ground.phase }, { on := 26, ground := Ground.phase }, { on := 27, ground := Ground.phase }, { on := 28, ground := Ground.phase }, { on := 29, ground := Ground.phase }, { on := 30, ground := Ground.phase }, { on := 31, ground := Ground.phase }, { on := 32, ground := Ground.phase }, { on := 33, ground := Ground.phase }, { on := 34, ground := Ground.phase }, { on := 35, ground := Ground.phase }, { on := 36, ground := Ground.phase }, { on := 37, ground := Ground.phase }, { on := 38, ground := Ground.phase }, { on := 39, ground := Ground.phase }, { on := 40, ground := Ground.phase }, { on := 41, ground := Ground.phase }, { on := 42, ground := Ground.phase }, { on := 43, ground := Ground.phase }, { on := 44, ground := Ground.phase }, { on := 45, ground := Ground.phase }, { on := 46, ground := Ground.phase }], guard := none }) (v := ?v115) rfl (by kernel_rfl) (by kernel_rfl) (by kernel_rfl) (fun _ _ _ h => h) (Or.inl ⟨by rfl, ?hy115⟩) hS ?rest115
                  case hy115 => (intro W _hW; go_simp; try with_reducible rfl)
                  try simp only [Act.put, List.setIfInBounds_toArray, List.set_cons_zero, List.set_cons_succ]
                  refine wpAnyH_done (by kernel_rfl) ?_ _
                  go_wp2
                  go_ret
                  exact ⟨rfl, HB.out⟩
                exact AllReadyH.nil
              exact AllReadyH.nil
            exact AllReadyH.nil
          exact AllReadyH.nil
        exact AllReadyH.nil
      refine AllReadyH.cons (o := { dst := some 34, op := Op.buildSlice 22 1 #[(0, Operand.tmp 33)], type := 22, pos := "outright.go:39", after := #[{ on := 22, ground := Ground.data }, { on := 13, ground := Ground.guard }], guard := some (13, true) }) rfl (fun K hK => ?_) ?_
      · go_simp
        refine hK.out _ _ (hS.alloc hS.size _) (fun _ => ?_)
        clear hK K
        try simp only [Act.put, List.setIfInBounds_toArray, List.set_cons_zero, List.set_cons_succ]
        have HG23 := Lib.hid (Row.made x18 24 [.slice A 0 c])
        have bw := (Below.refl x18.heap.size x18).alloc (Nat.le_refl _) (.cells #[.slice A 0 c] 24)
        obtain ⟨x26, hX⟩ : ∃ x, x18.alloc (.cells #[.slice A 0 c] 24) = x := ⟨_, rfl⟩
        rw [hX] at bw HG23 ⊢
        clear hX
        replace HR := Lib.hid (HR.out.on bw)
        replace HG10 := Lib.hid (HG10.out.on bw)
        replace HG3 := Lib.hid (HG3.out.on bw)
        replace HB := Lib.hid (next HB.out bw)
        refine wpAnyH_narrow (T := fun V => Below x26.heap.size x26 V) (fun V hV => next bw hV) _ _ _ _ ?_
        clear bw
        have hS : Below x26.heap.size x26 x26 := Below.refl _ _
        refine wpAnyH_ready (rs := [20]) (by kernel_rfl) (by simp) ?_
        refine AllReadyH.cons (o := { dst := some 31, op := Op.buildSlice 22 2 #[(0, Operand.tmp 27), (1, Operand.tmp 30)], type := 22, pos := "outright.go:39", after := #[{ on := 16, ground := Ground.data }, { on := 19, ground := Ground.data }, { on := 13, ground := Ground.guard }], guard := some (13, true) }) rfl (fun K hK => ?_) ?_
        · go_simp
          refine hK.out _ _ (hS.alloc hS.size _) (fun _ => ?_)
          clear hK K
          try simp only [Act.put, List.setIfInBounds_toArray, List.set_cons_zero, List.set_cons_succ]
          have HG20 := Lib.hid (Row.made x26 24 [.slice A 0 c, .slice A 0 c])
          have bw := (Below.refl x26.heap.size x26).alloc (Nat.le_refl _) (.cells #[.slice A 0 c, .slice A 0 c] 24)
          obtain ⟨x27, hX⟩ : ∃ x, x26.alloc (.cells #[.slice A 0 c, .slice A 0 c] 24) = x := ⟨_, rfl⟩
          rw [hX] at bw HG20 ⊢
          clear hX
          replace HR := Lib.hid (HR.out.on bw)
          replace HG10 := Lib.hid (HG10.out.on bw)
          replace HG3 := Lib.hid (HG3.out.on bw)
          replace HG23 := Lib.hid (HG23.out.on bw)
          replace HB := Lib.hid (next HB.out bw)
          refine wpAnyH_narrow (T := fun V => Below x27.heap.size x27 V) (fun V hV => next bw hV) _ _ _ _ ?_
          clear bw
          have hS : Below x27.heap.size x27 x27 := Below.refl _ _
          refine wpAnyH_still (i := 21) (oi := { dst := some 32, op := Op.call { callee := Callee.value (Operand.func 11), args := #[Operand.tmp 31], argTypes := #[22] }, type := 23, pos := "outright.go:39", after := #[{ on := 20, ground := Ground.data }, { on := 13, ground := Ground.chain }, { on := 13, ground := Ground.guard }], guard := some (13, true) }) (v := .int .u32 (s : Int)) rfl (by kernel_rfl) (by kernel_rfl) (by kernel_rfl) (fun _ _ _ h => h) hS ⟨by rfl, fun W hW => ⟨_, _, ?hr116, (Of_r2 _ A A 0 c 0 c s _ [] [] W (HG20.out.on hW) (HR.out.on hW) (HR.out.on hW) U8.nil U8.nil (Nat.zero_le _) (Nat.zero_le _) e3)⟩⟩ ?rest116
          case hr116 => (go_simp; try with_reducible rfl)
          try simp only [Act.put, List.setIfInBounds_toArray, List.set_cons_zero, List.set_cons_succ]
          refine wpAnyH_still (i := 24) (oi := { dst := some 35, op := Op.call { callee := Callee.value (Operand.func 11), args := #[Operand.tmp 34], argTypes := #[22] }, type := 23, pos := "outright.go:39", after := #[{ on := 23, ground := Ground.data }, { on := 21, ground := Ground.chain }, { on := 13, ground := Ground.guard }], guard := some (13, true) }) (v := .int .u32 (s : Int)) rfl (by kernel_rfl) (by kernel_rfl) (by kernel_rfl) (fun _ _ _ h => h) hS ⟨by rfl, fun W hW => ⟨_, _, ?hr117, (Of_r1 _ A 0 c s _ [] W (HG23.out.on hW) (HR.out.on hW) U8.nil (Nat.zero_le _) e2)⟩⟩ ?rest117
          case hr117 => (go_simp; try with_reducible rfl)
          try simp only [Act.put, List.setIfInBounds_toArray, List.set_cons_zero, List.set_cons_succ]
          refine wpAnyH_take (i := 25) (oi := { dst := some 36, op := Op.binOp BinOp.eql 23 (Operand.tmp 32) (Operand.tmp 35) 23, type := 4, pos := "outright.go:39", after := #[{ on := 21, ground := Ground.data }, { on := 24, ground := Ground.data }, { on := 13, ground := Ground.guard }], guard := some (13, true) }) (v := ?v118) rfl (by kernel_rfl) (by kernel_rfl) (by kernel_rfl) (fun _ _ _ h => h) (Or.inl ⟨by rfl, ?hy118⟩) hS ?rest118
          case hy118 => (intro W _hW; go_simp; try with_reducible rfl)
          try simp only [Act.put, List.setIfInBounds_toArray, List.set_cons_zero, List.set_cons_succ]
          refine wpAnyH_take (i := 26) (oi := { dst := some 37, op := Op.pick (Operand.tmp 24) (Operand.tmp 36) (Operand.const (Value.bool false)), type := 4, pos := "outright.go:39", after := #[{ on := 13, ground := Ground.data }, { on := 25, ground := Ground.data }], guard := none }) (v := ?v119) rfl (by kernel_rfl) (by kernel_rfl) (by kernel_rfl) (fun _ _ _ h => h) (Or.inl ⟨by rfl, ?hy119⟩) hS ?rest119
          case hy119 => (intro W _hW; go_simp; try with_reducible rfl)
          try simp only [Act.put, List.setIfInBounds_toArray, List.set_cons_zero, List.set_cons_succ]
          refine wpAnyH_take (i := 27) (oi := { dst := some 38, op := Op.move (Operand.tmp 37), type := 4, pos := "outright.go:39", after := #[{ on := 26, ground := Ground.data }, { on := 24, ground := Ground.chain }], guard := none }) (v := ?v120) rfl (by kernel_rfl) (by kernel_rfl) (by kernel_rfl) (fun _ _ _ h => h) (Or.inl ⟨by rfl, ?hy120⟩) hS ?rest120
          case hy120 => (intro W _hW; go_simp; try with_reducible rfl)
          try simp only [Act.put, List.setIfInBounds_toArray, List.set_cons_zero, List.set_cons_succ]
          refine wpAnyH_take (i := 28) (oi := { dst := some 39, op := Op.move (Operand.tmp 0), type := 24, pos := "outright.go:39", after := #[{ on := 27, ground := Ground.guard }], guard := some (27, true) }) (v := ?v121) rfl (by kernel_rfl) (by kernel_rfl) (by kernel_rfl) (fun _ _ _ h => h) (Or.inl ⟨by rfl, ?hy121⟩) hS ?rest121
          case hy121 => (intro W _hW; go_simp; try with_reducible rfl)
          try simp only [Act.put, List.setIfInBounds_toArray, List.set_cons_zero, List.set_cons_succ]
          refine wpAnyH_still (i := 29) (oi := { dst := some 40, op := Op.call { callee := Callee.value (Operand.func 13), args := #[Operand.const (Value.int IntKind.u32 0), Operand.tmp 39], argTypes := #[23, 24] }, type := 23, pos := "outright.go:39", after := #[{ on := 28, ground := Ground.data }, { on := 27, ground := Ground.chain }, { on := 27, ground := Ground.guard }], guard := some (27, true) }) (v := .int .u32 (s : Int)) rfl (by kernel_rfl) (by kernel_rfl) (by kernel_rfl) (fun _ _ _ h => h) hS ⟨by rfl, fun W hW => ⟨_, _, ?hr122, (On_zero s A c 0 _ [] W (HR.out.on hW) U8.nil (Nat.zero_le _) e2)⟩⟩ ?rest122
          case hr122 => (go_simp; try with_reducible rfl)
          try simp only [Act.put, List.setIfInBounds_toArray, List.set_cons_zero, List.set_cons_succ]
          refine wpAnyH_take (i := 30) (oi := { dst := some 41, op := Op.move (Operand.tmp 0), type := 24, pos := "outright.go:39", after := #[{ on := 27, ground := Ground.guard }], guard := some (27, true) }) (v := ?v123) rfl (by kernel_rfl) (by kernel_rfl) (by kernel_rfl) (fun _ _ _ h => h) (Or.inl ⟨by rfl, ?hy123⟩) hS ?rest123
          case hy123 => (intro W _hW; go_simp; try with_reducible rfl)
          try simp only [Act.put, List.setIfInBounds_toArray, List.set_cons_zero, List.set_cons_succ]
          refine wpAnyH_ready (rs := [31]) (by kernel_rfl) (by simp) ?_
          refine AllReadyH.cons (o := { dst := some 42, op := Op.buildSlice 22 1 #[(0, Operand.tmp 41)], type := 22, pos := "outright.go:39", after := #[{ on := 30, ground := Ground.data }, { on := 27, ground := Ground.guard }], guard := some (27, true) }) rfl (fun K hK => ?_) ?_
          · go_simp
            refine hK.out _ _ (hS.alloc hS.size _) (fun _ => ?_)
            clear hK K
            try simp only [Act.put, List.setIfInBounds_toArray, List.set_cons_zero, List.set_cons_succ]
            have HG31 := Lib.hid (Row.made x27 24 [.slice A 0 c])
            have bw := (Below.refl x27.heap.size x27).alloc (Nat.le_refl _) (.cells #[.slice A 0 c] 24)
            obtain ⟨x28, hX⟩ : ∃ x, x27.alloc (.cells #[.slice A 0 c] 24) = x := ⟨_, rfl⟩
            rw [hX] at bw HG31 ⊢
            clear hX
            replace HR := Lib.hid (HR.out.on bw)
            replace HG10 := Lib.hid (HG10.out.on bw)
            replace HG3 := Lib.hid (HG3.out.on bw)
            replace HG23 := Lib.hid (HG23.out.on bw)
            replace HG20 := Lib.hid (HG20.out.on bw)
            replace HB := Lib.hid (next HB.out bw)
            refine wpAnyH_narrow (T := fun V => Below x28.heap.size x28 V) (fun V hV => next bw hV) _ _ _ _ ?_
            clear bw
            have hS : Below x28.heap.size x28 x28 := Below.refl _ _
            refine wpAnyH_still (i := 32) (oi := { dst := some 43, op := Op.call { callee := Callee.value (Operand.func 11), args := #[Operand.tmp 42], argTypes := #[22] }, type := 23, pos := "outright.go:39", after := #[{ on := 31, ground := Ground.data }, { on := 29, ground := Ground.chain }, { on := 27, ground := Ground.guard }], guard := some (27, true) }) (v := .int .u32 (s : Int)) rfl (by kernel_rfl) (by kernel_rfl) (by kernel_rfl) (fun _ _ _ h => h) hS ⟨by rfl, fun W hW => ⟨_, _, ?hr124, (Of_r1 _ A 0 c s _ [] W (HG31.out.on hW) (HR.out.on hW) U8.nil (Nat.zero_le _) e2)⟩⟩ ?rest124
            case hr124 => (go_simp; try with_reducible rfl)
            try simp only [Act.put, List.setIfInBounds_toArray, List.set_cons_zero, List.set_cons_succ]
            refine wpAnyH_take (i := 33) (oi := { dst := some 44, op := Op.binOp BinOp.eql 23 (Operand.tmp 40) (Operand.tmp 43) 23, type := 4, pos := "outright.go:39", after := #[{ on := 29, ground := Ground.data }, { on := 32, ground := Ground.data }, { on := 27, ground := Ground.guard }], guard := some (27, true) }) (v := ?v125) rfl (by kernel_rfl) (by kernel_rfl) (by kernel_rfl) (fun _ _ _ h => h) (Or.inl ⟨by rfl, ?hy125⟩) hS ?rest125
            case hy125 => (intro W _hW; go_simp; try with_reducible rfl)
            try simp only [Act.put, List.setIfInBounds_toArray, List.set_cons_zero, List.set_cons_succ]
            refine wpAnyH_take (i := 34) (oi := { dst := some 45, op := Op.pick (Operand.tmp 38) (Operand.tmp 44) (Operand.const (Value.bool false)), type := 4, pos := "outright.go:39", after := #[{ on := 27, ground := Ground.data }, { on := 33, ground := Ground.data }], guard := none }) (v := ?v126) rfl (by kernel_rfl) (by kernel_rfl) (by kernel_rfl) (fun _ _ _ h => h) (Or.inl ⟨by rfl, ?hy126⟩) hS ?rest126
            case hy126 => (intro W _hW; go_simp; try with_reducible rfl)
            try simp only [Act.put, List.setIfInBounds_toArray, List.set_cons_zero, List.set_cons_succ]
            refine wpAnyH_take (i := 35) (oi := { dst := some 46, op := Op.move (Operand.tmp 45), type := 4, pos := "outright.go:39", after := #[{ on := 34, ground := Ground.data }, { on := 32, ground := Ground.chain }], guard := none }) (v := ?v127) rfl (by kernel_rfl) (by kernel_rfl) (by kernel_rfl) (fun _ _ _ h => h) (Or.inl ⟨by rfl, ?hy127⟩) hS ?rest127
            case hy127 => (intro W _hW; go_simp; try with_reducible rfl)
            try simp only [Act.put, List.setIfInBounds_toArray, List.set_cons_zero, List.set_cons_succ]
            refine wpAnyH_take (i := 36) (oi := { dst := some 47, op := Op.move (Operand.tmp 0), type := 24, pos := "outright.go:39", after := #[{ on := 35, ground := Ground.guard }], guard := some (35, true) }) (v := ?v128) rfl (by kernel_rfl) (by kernel_rfl) (by kernel_rfl) (fun _ _ _ h => h) (Or.inl ⟨by rfl, ?hy128⟩) hS ?rest128
            case hy128 => (intro W _hW; go_simp; try with_reducible rfl)
            try simp only [Act.put, List.setIfInBounds_toArray, List.set_cons_zero, List.set_cons_succ]
            refine wpAnyH_take (i := 39) (oi := { dst := some 50, op := Op.move (Operand.tmp 0), type := 24, pos := "outright.go:39", after := #[{ on := 35, ground := Ground.guard }], guard := some (35, true) }) (v := ?v129) rfl (by kernel_rfl) (by kernel_rfl) (by kernel_rfl) (fun _ _ _ h => h) (Or.inl ⟨by rfl, ?hy129⟩) hS ?rest129
            case hy129 => (intro W _hW; go_simp; try with_reducible rfl)
            try simp only [Act.put, List.setIfInBounds_toArray, List.set_cons_zero, List.set_cons_succ]
            refine wpAnyH_ready (rs := [37, 40]) (by kernel_rfl) (by simp) ?_
            refine AllReadyH.cons (o := { dst := some 48, op := Op.buildSlice 22 3 #[(0, Operand.const (Value.slice none 0 0)), (1, Operand.tmp 47), (2, Operand.const (Value.slice none 0 0))], type := 22, pos := "outright.go:39", after := #[{ on := 36, ground := Ground.data }, { on := 35, ground := Ground.guard }], guard := some (35, true) }) rfl (fun K hK => ?_) ?_
            · go_simp
              refine hK.out _ _ (hS.alloc hS.size _) (fun _ => ?_)
              clear hK K
              try simp only [Act.put, List.setIfInBounds_toArray, List.set_cons_zero, List.set_cons_succ]
              have HG37 := Lib.hid (Row.made x28 24 [.slice none 0 0, .slice A 0 c, .slice none 0 0])
              have bw := (Below.refl x28.heap.size x28).alloc (Nat.le_refl _) (.cells #[.slice none 0 0, .slice A 0 c, .slice none 0 0] 24)
              obtain ⟨x29, hX⟩ : ∃ x, x28.alloc (.cells #[.slice none 0 0, .slice A 0 c, .slice none 0 0] 24) = x := ⟨_, rfl⟩
              rw [hX] at bw HG37 ⊢
              clear hX
              replace HR := Lib.hid (HR.out.on bw)
              replace HG10 := Lib.hid (HG10.out.on bw)
              replace HG3 := Lib.hid (HG3.out.on bw)
              replace HG23 := Lib.hid (HG23.out.on bw)
              replace HG20 := Lib.hid (HG20.out.on bw)
              replace HG31 := Lib.hid (HG31.out.on bw)
              replace HB := Lib.hid (next HB.out bw)
              refine wpAnyH_narrow (T := fun V => Below x29.heap.size x29 V) (fun V hV => next bw hV) _ _ _ _ ?_
              clear bw
              have hS : Below x29.heap.size x29 x29 := Below.refl _ _
              refine wpAnyH_still (i := 38) (oi := { dst := some 49, op := Op.call { callee := Callee.value (Operand.func 11), args := #[Operand.tmp 48], argTypes := #[22] }, type := 23, pos := "outright.go:39", after := #[{ on := 37, ground := Ground.data }, { on := 35, ground := Ground.chain }, { on := 35, ground := Ground.guard }], guard := some (35, true) }) (v := .int .u32 (s : Int)) rfl (by kernel_rfl) (by kernel_rfl) (by kernel_rfl) (fun _ _ _ h => h) hS ⟨by rfl, fun W hW => ⟨_, _, ?hr130, (Of_r3 _ A 0 c s _ [] W (HG37.out.on hW) (HR.out.on hW) U8.nil (Nat.zero_le _) e2)⟩⟩ ?rest130
              case hr130 => (go_simp; try with_reducible rfl)
              try simp only [Act.put, List.setIfInBounds_toArray, List.set_cons_zero, List.set_cons_succ]
              refine wpAnyH_ready (rs := [40]) (by kernel_rfl) (by simp) ?_
              refine AllReadyH.cons (o := { dst := some 51, op := Op.buildSlice 22 1 #[(0, Operand.tmp 50)], type := 22, pos := "outright.go:39", after := #[{ on := 39, ground := Ground.data }, { on := 35, ground := Ground.guard }], guard := some (35, true) }) rfl (fun K hK => ?_) ?_
              · go_simp
                refine hK.out _ _ (hS.alloc hS.size _) (fun _ => ?_)
                clear hK K
                try simp only [Act.put, List.setIfInBounds_toArray, List.set_cons_zero, List.set_cons_succ]
                have HG40 := Lib.hid (Row.made x29 24 [.slice A 0 c])
                have bw := (Below.refl x29.heap.size x29).alloc (Nat.le_refl _) (.cells #[.slice A 0 c] 24)
                obtain ⟨x30, hX⟩ : ∃ x, x29.alloc (.cells #[.slice A 0 c] 24) = x := ⟨_, rfl⟩
                rw [hX] at bw HG40 ⊢
                clear hX
                replace HR := Lib.hid (HR.out.on bw)
                replace HG10 := Lib.hid (HG10.out.on bw)
                replace HG3 := Lib.hid (HG3.out.on bw)
                replace HG23 := Lib.hid (HG23.out.on bw)
                replace HG20 := Lib.hid (HG20.out.on bw)
                replace HG31 := Lib.hid (HG31.out.on bw)
                replace HG37 := Lib.hid (HG37.out.on bw)
                replace HB := Lib.hid (next HB.out bw)
                refine wpAnyH_narrow (T := fun V => Below x30.heap.size x30 V) (fun V hV => next bw hV) _ _ _ _ ?_
                clear bw
                have hS : Below x30.heap.size x30 x30 := Below.refl _ _
                refine wpAnyH_still (i := 41) (oi := { dst := some 52, op := Op.call { callee := Callee.value (Operand.func 11), args := #[Operand.tmp 51], argTypes := #[22] }, type := 23, pos := "outright.go:39", after := #[{ on := 40, ground := Ground.data }, { on := 38, ground := Ground.chain }, { on := 35, ground := Ground.guard }], guard := some (35, true) }) (v := .int .u32 (s : Int)) rfl (by kernel_rfl) (by kernel_rfl) (by kernel_rfl) (fun _ _ _ h => h) hS ⟨by rfl, fun W hW => ⟨_, _, ?hr131, (Of_r1 _ A 0 c s _ [] W (HG40.out.on hW) (HR.out.on hW) U8.nil (Nat.zero_le _) e2)⟩⟩ ?rest131
                case hr131 => (go_simp; try with_reducible rfl)
                try simp only [Act.put, List.setIfInBounds_toArray, List.set_cons_zero, List.set_cons_succ]
                refine wpAnyH_take (i := 42) (oi := { dst := some 53, op := Op.binOp BinOp.eql 23 (Operand.tmp 49) (Operand.tmp 52) 23, type := 4, pos := "outright.go:39", after := #[{ on := 38, ground := Ground.data }, { on := 41, ground := Ground.data }, { on := 35, ground := Ground.guard }], guard := some (35, true) }) (v := ?v132) rfl (by kernel_rfl) (by kernel_rfl) (by kernel_rfl) (fun _ _ _ h => h) (Or.inl ⟨by rfl, ?hy132⟩) hS ?rest132
                case hy132 => (intro W _hW; go_simp; try with_reducible rfl)
                try simp only [Act.put, List.setIfInBounds_toArray, List.set_cons_zero, List.set_cons_succ]
                refine wpAnyH_take (i := 43) (oi := { dst := some 54, op := Op.pick (Operand.tmp 46) (Operand.tmp 53) (Operand.const (Value.bool false)), type := 4, pos := "outright.go:39", after := #[{ on := 35, ground := Ground.data }, { on := 42, ground := Ground.data }], guard := none }) (v := ?v133) rfl (by kernel_rfl) (by kernel_rfl) (by kernel_rfl) (fun _ _ _ h => h) (Or.inl ⟨by rfl, ?hy133⟩) hS ?rest133
                case hy133 => (intro W _hW; go_simp; try with_reducible rfl)
                try simp only [Act.put, List.setIfInBounds_toArray, List.set_cons_zero, List.set_cons_succ]
                refine wpAnyH_take (i := 44) (oi := { dst := some 55, op := Op.move (Operand.tmp 54), type := 4, pos := "outright.go:39", after := #[{ on := 43, ground := Ground.data }, { on := 41, ground := Ground.chain }], guard := none }) (v := ?v134) rfl (by kernel_rfl) (by kernel_rfl) (by kernel_rfl) (fun _ _ _ h => h) (Or.inl ⟨by rfl, ?hy134⟩) hS ?rest134
                case hy134 => (intro W _hW; go_simp; try with_reducible rfl)
                try simp only [Act.put, List.setIfInBounds_toArray, List.set_cons_zero, List.set_cons_succ]
                refine wpAnyH_ready (rs := [45]) (by kernel_rfl) (by simp) ?_
                refine AllReadyH.cons (o := { dst := some 56, op := Op.call { callee := Callee.value (Operand.func 18), args := #[], argTypes := #[] }, type := 4, pos := "outright.go:39", after := #[{ on := 44, ground := Ground.chain }, { on := 44, ground := Ground.guard }], guard := some (44, true) }) rfl (fun K hK => ?_) ?_
                · go_simp
                  refine (awake_any _).mono ?_
                  rintro e wz ⟨rfl, hz⟩
                  refine hK.out _ _ hz (fun hS => ?_)
                  clear hK K
                  replace HB := Lib.hid (next HB.out hz)
                  try simp only [Act.put, List.setIfInBounds_toArray, List.set_cons_zero, List.set_cons_succ]
                  refine wpAnyH_take (i := 46) (oi := { dst := some 57, op := Op.pick (Operand.tmp 55) (Operand.tmp 56) (Operand.const (Value.bool false)), type := 4, pos := "outright.go:39", after := #[{ on := 44, ground := Ground.data }, { on := 45, ground := Ground.data }], guard := none }) (v := ?v135) rfl (by kernel_rfl) (by kernel_rfl) (by kernel_rfl) (fun _ _ _ h => h) (Or.inl ⟨by rfl, ?hy135⟩) hS ?rest135
                  case hy135 => (intro W _hW; go_simp; try with_reducible rfl)
                  try simp only [Act.put, List.setIfInBounds_toArray, List.set_cons_zero, List.set_cons_succ]
                  refine wpAnyH_take (i := 47) (oi := { dst := some 4, op := Op.assign (Operand.tmp 57), type := 4, pos := "outright.go:39", after := #[{ on := 46, ground := Ground.data }, { on := 45, ground := Ground.chain }, { on := 0, ground := Ground.phase }, { on := 1, ground := Ground.phase }, { on := 2, ground := Ground.phase }, { on := 3, ground := Ground.phase }, { on := 4, ground := Ground.phase }, { on := 5, ground := Ground.phase }, { on := 6, ground := Ground.phase }, { on := 7, ground := Ground.phase }, { on := 8, ground := Ground.phase }, { on := 9, ground := Ground.phase }, { on := 10, ground := Ground.phase }, { on := 11, ground := Ground.phase }, { on := 12, ground := Ground.phase }, { on := 13, ground := Ground.phase }, { on := 14, ground := Ground.phase }, { on := 15, ground := Ground.phase }, { on := 16, ground := Ground.phase }, { on := 17, ground := Ground.phase }, { on := 18, ground := Ground.phase }, { on := 19, ground := Ground.phase }, { on := 20, ground := Ground.phase }, { on := 21, ground := Ground.phase }, { on := 22, ground := Ground.phase }, { on := 23, ground := Ground.phase }, { on := 24, ground := Ground.phase }, { on := 25, ground := Ground.phase }, { on := 26, ground := Ground.phase }, { on := 27, ground := Ground.phase }, { on := 28, ground := Ground.phase }, { on := 29, ground := Ground.phase }, { on := 30, ground := Ground.phase }, { on := 31, ground := Ground.phase }, { on := 32, ground := Ground.phase }, { on := 33, ground := Ground.phase }, { on := 34, ground := Ground.phase }, { on := 35, ground := Ground.phase }, { on := 36, ground := Ground.phase }, { on := 37, ground := Ground.phase }, { on := 38, ground := Ground.phase }, { on := 39, ground := Ground.phase }, { on := 40, ground := Ground.phase }, { on := 41, ground := Ground.phase }, { on := 42, ground := Ground.phase }, { on := 43, ground := Ground.phase }, { on := 44, ground := Ground.phase }, { on := 45, ground := Ground.phase }, { on := 46, ground := Ground.phase }], guard := none }) (v := ?v136) rfl (by kernel_rfl) (by kernel_rfl) (by kernel_rfl) (fun _ _ _ h => h) (Or.inl ⟨by rfl, ?hy136⟩) hS ?rest136
                  case hy136 => (intro W _hW; go_simp; try with_reducible rfl)
                  try simp only [Act.put, List.setIfInBounds_toArray, List.set_cons_zero, List.set_cons_succ]
                  refine wpAnyH_done (by kernel_rfl) ?_ _
                  go_wp2
                  go_ret
                  exact ⟨rfl, HB.out⟩
                exact AllReadyH.nil
              exact AllReadyH.nil
            refine AllReadyH.cons (o := { dst := some 51, op := Op.buildSlice 22 1 #[(0, Operand.tmp 50)], type := 22, pos := "outright.go:39", after := #[{ on := 39, ground := Ground.data }, { on := 35, ground := Ground.guard }], guard := some (35, true) }) rfl (fun K hK => ?_) ?_
            · go_simp
              refine hK.out _ _ (hS.alloc hS.size _) (fun _ => ?_)
              clear hK K
              try simp only [Act.put, List.setIfInBounds_toArray, List.set_cons_zero, List.set_cons_succ]
              have HG40 := Lib.hid (Row.made x28 24 [.slice A 0 c])
              have bw := (Below.refl x28.heap.size x28).alloc (Nat.le_refl _) (.cells #[.slice A 0 c] 24)
              obtain ⟨x31, hX⟩ : ∃ x, x28.alloc (.cells #[.slice A 0 c] 24) = x := ⟨_, rfl⟩
              rw [hX] at bw HG40 ⊢
              clear hX
              replace HR := Lib.hid (HR.out.on bw)
              replace HG10 := Lib.hid (HG10.out.on bw)
              replace HG3 := Lib.hid (HG3.out.on bw)
              replace HG23 := Lib.hid (HG23.out.on bw)
              replace HG20 := Lib.hid (HG20.out.on bw)
              replace HG31 := Lib.hid (HG31.out.on bw)
              replace HB := Lib.hid (next HB.out bw)
              refine wpAnyH_narrow (T := fun V => Below x31.heap.size x31 V) (fun V hV => next bw hV) _ _ _ _ ?_
              clear bw
              have hS : Below x31.heap.size x31 x31 := Below.refl _ _
              refine wpAnyH_ready (rs := [37]) (by kernel_rfl) (by simp) ?_
              refine AllReadyH.cons (o := { dst := some 48, op := Op.buildSlice 22 3 #[(0, Operand.const (Value.slice none 0 0)), (1, Operand.tmp 47), (2, Operand.const (Value.slice none 0 0))], type := 22, pos := "outright.go:39", after := #[{ on := 36, ground := Ground.data }, { on := 35, ground := Ground.guard }], guard := some (35, true) }) rfl (fun K hK => ?_) ?_
              · go_simp
                refine hK.out _ _ (hS.alloc hS.size _) (fun _ => ?_)
                clear hK K
                try simp only [Act.put, List.setIfInBounds_toArray, List.set_cons_zero, List.set_cons_succ]
                have HG37 := Lib.hid (Row.made x31 24 [.slice none 0 0, .slice A 0 c, .slice none 0 0])
                have bw := (Below.refl x31.heap.size x31).alloc (Nat.le_refl _) (.cells #[.slice none 0 0, .slice A 0 c, .slice none 0 0] 24)
                obtain ⟨x32, hX⟩ : ∃ x, x31.alloc (.cells #[.slice none 0 0, .slice A 0 c, .slice none 0 0] 24) = x := ⟨_, rfl⟩
                rw [hX] at bw HG37 ⊢
                clear hX
                replace HR := Lib.hid (HR.out.on bw)
                replace HG10 := Lib.hid (HG10.out.on bw)
                replace HG3 := Lib.hid (HG3.out.on bw)
                replace HG23 := Lib.hid (HG23.out.on bw)
                replace HG20 := Lib.hid (HG20.out.on bw)
                replace HG31 := Lib.hid (HG31.out.on bw)
                replace HG40 := Lib.hid (HG40.out.on bw)
                replace HB := Lib.hid (next HB.out bw)
                refine wpAnyH_narrow (T := fun V => Below x32.heap.size x32 V) (fun V hV => next bw hV) _ _ _ _ ?_
                clear bw
                have hS : Below x32.heap.size x32 x32 := Below.refl _ _
                refine wpAnyH_still (i := 38) (oi := { dst := some 49, op := Op.call { callee := Callee.value (Operand.func 11), args := #[Operand.tmp 48], argTypes := #[22] }, type := 23, pos := "outright.go:39", after := #[{ on := 37, ground := Ground.data }, { on := 35, ground := Ground.chain }, { on := 35, ground := Ground.guard }], guard := some (35, true) }) (v := .int .u32 (s : Int)) rfl (by kernel_rfl) (by kernel_rfl) (by kernel_rfl) (fun _ _ _ h => h) hS ⟨by rfl, fun W hW => ⟨_, _, ?hr137, (Of_r3 _ A 0 c s _ [] W (HG37.out.on hW) (HR.out.on hW) U8.nil (Nat.zero_le _) e2)⟩⟩ ?rest137
                case hr137 => (go_simp; try with_reducible rfl)
                try simp only [Act.put, List.setIfInBounds_toArray, List.set_cons_zero, List.set_cons_succ]
                refine wpAnyH_still (i := 41) (oi := { dst := some 52, op := Op.call { callee := Callee.value (Operand.func 11), args := #[Operand.tmp 51], argTypes := #[22] }, type := 23, pos := "outright.go:39", after := #[{ on := 40, ground := Ground.data }, { on := 38, ground := Ground.chain }, { on := 35, ground := Ground.guard }], guard := some (35, true) }) (v := .int .u32 (s : Int)) rfl (by kernel_rfl) (by kernel_rfl) (by kernel_rfl) (fun _ _ _ h => h) hS ⟨by rfl, fun W hW => ⟨_, _, ?hr138, (Of_r1 _ A 0 c s _ [] W (HG40.out.on hW) (HR.out.on hW) U8.nil (Nat.zero_le _) e2)⟩⟩ ?rest138
                case hr138 => (go_simp; try with_reducible rfl)
                try simp only [Act.put, List.setIfInBounds_toArray, List.set_cons_zero, List.set_cons_succ]
                refine wpAnyH_take (i := 42) (oi := { dst := some 53, op := Op.binOp BinOp.eql 23 (Operand.tmp 49) (Operand.tmp 52) 23, type := 4, pos := "outright.go:39", after := #[{ on := 38, ground := Ground.data }, { on := 41, ground := Ground.data }, { on := 35, ground := Ground.guard }], guard := some (35, true) }) (v := ?v139) rfl (by kernel_rfl) (by kernel_rfl) (by kernel_rfl) (fun _ _ _ h => h) (Or.inl ⟨by rfl, ?hy139⟩) hS ?rest139
                case hy139 => (intro W _hW; go_simp; try with_reducible rfl)
                try simp only [Act.put, List.setIfInBounds_toArray, List.set_cons_zero, List.set_cons_succ]
                refine wpAnyH_take (i := 43) (oi := { dst := some 54, op := Op.pick (Operand.tmp 46) (Operand.tmp 53) (Operand.const (Value.bool false)), type := 4, pos := "outright.go:39", after := #[{ on := 35, ground := Ground.data }, { on := 42, ground := Ground.data }], guard := none }) (v := ?v140) rfl (by kernel_rfl) (by kernel_rfl) (by kernel_rfl) (fun _ _ _ h => h) (Or.inl ⟨by rfl, ?hy140⟩) hS ?rest140
                case hy140 => (intro W _hW; go_simp; try with_reducible rfl)
                try simp only [Act.put, List.setIfInBounds_toArray, List.set_cons_zero, List.set_cons_succ]
                refine wpAnyH_take (i := 44) (oi := { dst := some 55, op := Op.move (Operand.tmp 54), type := 4, pos := "outright.go:39", after := #[{ on := 43, ground := Ground.data }, { on := 41, ground := Ground.chain }], guard := none }) (v := ?v141) rfl (by kernel_rfl) (by kernel_rfl) (by kernel_rfl) (fun _ _ _ h => h) (Or.inl ⟨by rfl, ?hy141⟩) hS ?rest141
                case hy141 => (intro W _hW; go_simp; try with_reducible rfl)
                try simp only [Act.put, List.setIfInBounds_toArray, List.set_cons_zero, List.set_cons_succ]
                refine wpAnyH_ready (rs := [45]) (by kernel_rfl) (by simp) ?_
                refine AllReadyH.cons (o := { dst := some 56, op := Op.call { callee := Callee.value (Operand.func 18), args := #[], argTypes := #[] }, type := 4, pos := "outright.go:39", after := #[{ on := 44, ground := Ground.chain }, { on := 44, ground := Ground.guard }], guard := some (44, true) }) rfl (fun K hK => ?_) ?_
                · go_simp
                  refine (awake_any _).mono ?_
                  rintro e wz ⟨rfl, hz⟩
                  refine hK.out _ _ hz (fun hS => ?_)
                  clear hK K
                  replace HB := Lib.hid (next HB.out hz)
                  try simp only [Act.put, List.setIfInBounds_toArray, List.set_cons_zero, List.set_cons_succ]
                  refine wpAnyH_take (i := 46) (oi := { dst := some 57, op := Op.pick (Operand.tmp 55) (Operand.tmp 56) (Operand.const (Value.bool false)), type := 4, pos := "outright.go:39", after := #[{ on := 44, ground := Ground.data }, { on := 45, ground := Ground.data }], guard := none }) (v := ?v142) rfl (by kernel_rfl) (by kernel_rfl) (by kernel_rfl) (fun _ _ _ h => h) (Or.inl ⟨by rfl, ?hy142⟩) hS ?rest142
                  case hy142 => (intro W _hW; go_simp; try with_reducible rfl)
                  try simp only [Act.put, List.setIfInBounds_toArray, List.set_cons_zero, List.set_cons_succ]
                  refine wpAnyH_take (i := 47) (oi := { dst := some 4, op := Op.assign (Operand.tmp 57), type := 4, pos := "outright.go:39", after := #[{ on := 46, ground := Ground.data }, { on := 45, ground := Ground.chain }, { on := 0, ground := Ground.phase }, { on := 1, ground := Ground.phase }, { on := 2, ground := Ground.phase }, { on := 3, ground := Ground.phase }, { on := 4, ground := Ground.phase }, { on := 5, ground := Ground.phase }, { on := 6, ground := Ground.phase }, { on := 7, ground := Ground.phase }, { on := 8, ground := Ground.phase }, { on := 9, ground := Ground.phase }, { on := 10, ground := Ground.phase }, { on := 11, ground := Ground.phase }, { on := 12, ground := Ground.phase }, { on := 13, ground := Ground.phase }, { on := 14, ground := Ground.phase }, { on := 15, ground := Ground.phase }, { on := 16, ground := Ground.phase }, { on := 17, ground := Ground.phase }, { on := 18, ground := Ground.phase }, { on := 19, ground := Ground.phase }, { on := 20, ground := Ground.phase }, { on := 21, ground := Ground.phase }, { on := 22, ground := Ground.phase }, { on := 23, ground := Ground.phase }, { on := 24, ground := Ground.phase }, { on := 25, ground := Ground.phase }, { on := 26, ground := Ground.phase }, { on := 27, ground := Ground.phase }, { on := 28, ground := Ground.phase }, { on := 29, ground := Ground.phase }, { on := 30, ground := Ground.phase }, { on := 31, ground := Ground.phase }, { on := 32, ground := Ground.phase }, { on := 33, ground := Ground.phase }, { on := 34, ground := Ground.phase }, { on := 35, ground := Ground.phase }, { on := 36, ground := Ground.phase }, { on := 37, ground := Ground.phase }, { on := 38, ground := Ground.phase }, { on := 39, ground := Ground.phase }, { on := 40, ground := Ground.phase }, { on := 41, ground := Ground.phase }, { on := 42, ground := Ground.phase }, { on := 43, ground := Ground.phase }, { on := 44, ground := Ground.phase }, { on := 45, ground := Ground.phase }, { on := 46, ground := Ground.phase }], guard := none }) (v := ?v143) rfl (by kernel_rfl) (by kernel_rfl) (by kernel_rfl) (fun _ _ _ h => h) (Or.inl ⟨by rfl, ?hy143⟩) hS ?rest143
                  case hy143 => (intro W _hW; go_simp; try with_reducible rfl)
                  try simp only [Act.put, List.setIfInBounds_toArray, List.set_cons_zero, List.set_cons_succ]
                  refine wpAnyH_done (by kernel_rfl) ?_ _
                  go_wp2
                  go_ret
                  exact ⟨rfl, HB.out⟩
                exact AllReadyH.nil
              exact AllReadyH.nil
            exact AllReadyH.nil
          exact AllReadyH.nil
        exact AllReadyH.nil
      exact AllReadyH.nil
    exact AllReadyH.nil
  exact AllReadyH.nil
end Go.Proofs.Ytoodchnjikkkkaa
