/- Quote. -/
import Derived.Test.YtbhhakobkpdadaaQQuoteB
namespace Go.Proofs.Ytbhhakobkpdadaa
open Go.RowKit Go.Shelf

attribute [local go_sem] Oper.semAt_some

set_option maxRecDepth 100000 in
set_option maxHeartbeats 4000000 in
theorem Quote_in (n : Nat) (hn : 3 ≤ n) (s : ByteArray) (hs : s.size ≤ 100000) (w : World) :
    CallsIn Fence.wide n Try.prog 20 #[.string s] w (StrOut w (quoteL (bl s))) := by
  have h1 : 1 ≤ n := by omega
  have hpl := parts_len (bl s)
  rw [bl_len] at hpl
  refine callsIn_of_wp_marks Try.func20 rfl trivial ?_ rfl
  simp only [Try.ntmps20, List.size_toArray, List.length_cons, List.length_nil, Nat.reduceAdd, Nat.reduceSub, Array.replicate_succ, Array.replicate_zero, List.push_toArray, List.append_toArray, List.nil_append, List.cons_append]
  gi_wp2_with fail
  refine ⟨trivial, (callsIn_wide.2 (WriteByte_any w.heap.size w.heap.size [] 34 _ (Bd.new w) (by decide) (by simp))).mono ?_⟩
  rintro e w2 ⟨rfl, h2, b2, _⟩
  have hb2 : Below w.heap.size w w2 := ((Below.refl w.heap.size w).alloc (Nat.le_refl _) _).trans b2
  obtain ⟨b, hb⟩ : ∃ b, w.heap.size = b := ⟨_, rfl⟩
  rw [hb] at h2 hb2
  clear b2
  have hle := hb2.size
  gi_wp2_with fail
  refine ⟨trivial, (each_in (n - 1) s w2).mono ?_⟩
  rintro e w3 ⟨rfl, rfl⟩
  have bN := Boxed.new w2 9 (.string s)
  obtain ⟨w3, hw3⟩ : ∃ W, w2.alloc (.cells #[.string s] 9) = W := ⟨_, rfl⟩
  have hB3 : Below b w w3 := by rw [← hw3]; exact hb2.alloc (by omega) _
  have h3 : Bd b b [34] w3 := by
    rw [← hw3]
    exact bd_own (β := Unit) b b 0 (fun _ => [34]) () w2 _ none h2 (World.grownBy_alloc w2 _ none) (fun r e => by cases e)
  have hle3 := hB3.size
  have hlt3 : w2.heap.size < w3.heap.size := by rw [← hw3]; simp
  rw [hw3] at bN ⊢
  clear h2 hb2 hw3
  gi_wp2_with fail
  refine wpIn_rangeFunc_ownG rfl h1 (gf := 38) (lb := #[.pointer (some ⟨w2.heap.size, 0, none⟩)]) rfl trivial (enters_of Try.func38 (by kernel_rfl) rfl)
    (each_stops (n - 1) (by omega) w2.heap.size s (by omega) w3 hlt3 bN.cell) (fun _ _ => trivial) (fun _ _ _ _ _ _ _ _ => trivial) (Below.refl _ _) (fun _ => rfl)
    (fun pre W => Bd b b (34 :: qFlat (pre.map ptF)) W ∧ Below b w W)
    (fun _ _ _ => False)
    (OwnFrom.and (bd_own b b _ (fun pre : List Pt => 34 :: qFlat (pre.map ptF))) (ownFrom_below (by omega) (by omega)))
    (fun _ _ _ _ _ hs _ _ => hs)
    ⟨h3, hB3⟩
    (fun x : Pt => { tmps := #[.string s, undef, .string { data := #[] }, .pointer (some ⟨b, 0, none⟩), .string x.1.1, .int .i32 (x.1.2 : Int), .nilIface, .string s, .func (.func 38) #[] #[.pointer (some ⟨w2.heap.size, 0, none⟩)], .string x.1.1, .int .i32 (x.1.2 : Int), undef, undef, undef, undef, undef, undef, undef, undef, undef, undef, undef, undef, undef, undef, undef, undef, undef, undef, undef, undef, undef, undef, undef, undef, undef, undef, undef, undef, undef, undef, undef, undef, undef, undef, undef, undef, undef, undef, undef, undef, undef, undef, undef, undef, undef, undef, undef, undef, undef, undef, undef, undef, undef, undef], defers := [] }) ?assign ?body ?done ?stop
  case assign =>
    intro l x W K hK
    simp only [ptE]
    gi_wp2
    exact hK
  case body =>
    rintro l pre ⟨⟨p, r⟩, hx1, hx4, hx2⟩ W ⟨hW, hB⟩ hlt
    dsimp only at hx1 hx4 hx2 ⊢
    have hl : (34 :: qFlat (pre.map ptF)).length ≤ 1000000 := by
      have := qFlat_len (l := pre.map ptF) (fun y hy => by
        obtain ⟨z, _, rfl⟩ := List.mem_map.1 hy
        rw [ptF, bl_len]; exact z.2.2.1)
      rw [List.length_map] at this
      rw [List.length_cons]; omega
    have hsn : qFlat ((pre ++ [⟨(p, r), hx1, hx4, hx2⟩] : List Pt).map ptF) = qFlat (pre.map ptF) ++ qB (bl p, r) := by
      rw [List.map_append, qFlat_snoc']
      simp [ptF]
    have hWB : b ≤ W.heap.size := by have := hB.size; omega
    have HWS := Lib.hid (fun (S : ByteArray) (hS : S.size ≤ 1000000) => WriteString_any b b _ S W hW hl hS hWB)
    have HE : Hid (∀ (S : ByteArray) (W2 : World), bl S = qB (bl p, r) → Bd b b ((34 :: qFlat (pre.map ptF)) ++ bl S) W2 ∧ Below b W W2 ∧ KeepsOthers W W2 → KeepsFrom w3.heap.size W W2 ∧ True ∧ Bd b b (34 :: qFlat ((pre ++ [⟨(p, r), hx1, hx4, hx2⟩] : List Pt).map ptF)) W2 ∧ Below b w W2) := Lib.hid (fun S W2 hS h => by
      refine ⟨h.2.2.from _, trivial, ?_, hB.trans h.2.1⟩
      rw [hsn, ← hS]
      exact h.1)
    have HWX := Lib.hid (fun (C : Array Value) (S : ByteArray) (hS : S.size ≤ 1000000) => (WriteString_any b b _ S (W.alloc (.cells C 5)).drew (show Bd b b (34 :: qFlat (pre.map ptF)) (W.alloc (.cells C 5)) from bd_own (β := Unit) b b 0 (fun _ => 34 :: qFlat (pre.map ptF)) () W _ none hW (World.grownBy_alloc W _ none) (fun r e => by cases e)) hl hS (Nat.le_trans hWB (Nat.le_of_lt (by show W.heap.size < (W.heap.push _).size; rw [Array.size_push]; omega)))).mono (R' := fun e W2 => e = .returned (.tuple #[.int .i64 S.size, .nilIface]) ∧ Bd b b ((34 :: qFlat (pre.map ptF)) ++ bl S) W2 ∧ Below b W W2 ∧ KeepsOthers W W2) (fun e W2 h => ⟨h.1, h.2.1, (((Below.refl b W).alloc hWB _).drew).trans h.2.2.1, ((KeepsOthers.alloc W _).trans (KeepsOthers.drew _)).trans h.2.2.2⟩))
    clear hW hB hsn hl hlt
    have e34 : ((r : Int) == 34) = decide (r = 34) := by rw [Bool.eq_iff_iff]; simp; omega
    have e92 : ((r : Int) == 92) = decide (r = 92) := by rw [Bool.eq_iff_iff]; simp; omega
    have e10 : ((r : Int) == 10) = decide (r = 10) := by rw [Bool.eq_iff_iff]; simp; omega
    have e13 : ((r : Int) == 13) = decide (r = 13) := by rw [Bool.eq_iff_iff]; simp; omega
    have e9 : ((r : Int) == 9) = decide (r = 9) := by rw [Bool.eq_iff_iff]; simp; omega
    have e127 : ((r : Int) == 127) = decide (r = 127) := by rw [Bool.eq_iff_iff]; simp; omega
    have e32 : decide ((r : Int) < 32) = decide (r < 32) := by apply decide_eq_decide.2; omega
    have ebad : ((r : Int) == 65533) = decide (r = 65533) := by rw [Bool.eq_iff_iff]; simp; omega
    have eone : ((p.size : Int) == 1) = decide (p.size = 1) := by rw [Bool.eq_iff_iff]; simp; omega
    by_cases g2 : r = 10 ∨ r = 13 ∨ r = 9
    · clear e34 e92 e10 e13 e9 e127 e32 ebad eone
      rcases g2 with rfl | rfl | rfl
      all_goals
        gi_wp2_with fail
        refine ⟨trivial, fun h => (by cases h), (CallsIn.inRound l (callsIn_wide.2 (HWS.out _ (by decide)))).mono ?_⟩
        rintro e W2 ⟨rfl, hW2⟩
        gi_wp2
        exact HE.out _ W2 rfl hW2
    · by_cases g1 : r = 34 ∨ r = 92
      · have hadd : ∀ w, Sem.run Try.prog (Op.stringOp .add ⟨#[92]⟩ p) w = Result.ok (.string (⟨#[92]⟩ ++ p)) w := fun w => run_string_add_sum w ⟨#[92]⟩ p (by have : (⟨#[92]⟩ : ByteArray).size = 1 := rfl; omega)
        obtain ⟨S, hS⟩ : ∃ S, (⟨#[92]⟩ : ByteArray) ++ p = S := ⟨_, rfl⟩
        rw [hS] at hadd
        have HS : Hid (bl S = 92 :: bl p ∧ S.size ≤ 1000000) := Lib.hid (by
          have h := bl_append ⟨#[92]⟩ p
          rw [hS] at h
          have h' := bl_len S
          rw [h, List.length_append, bl_len, bl_len] at h'
          have : (⟨#[92]⟩ : ByteArray).size = 1 := rfl
          exact ⟨h, by omega⟩)
        clear e34 e92 e10 e13 e9 e127 e32 ebad eone hS
        rcases g1 with rfl | rfl
        all_goals
          gi_wp2_with fail
          refine ⟨trivial, fun h => (by cases h), (CallsIn.inRound l (callsIn_wide.2 (HWS.out S HS.out.2))).mono ?_⟩
          rintro e W2 ⟨rfl, hW2⟩
          gi_wp2
          exact HE.out _ W2 (by rw [HS.out.1]; rfl) hW2
      · have f34 : ((r : Int) == 34) = false := e34.trans (decide_eq_false (by omega))
        have f92 : ((r : Int) == 92) = false := e92.trans (decide_eq_false (by omega))
        have f10 : ((r : Int) == 10) = false := e10.trans (decide_eq_false (by omega))
        have f13 : ((r : Int) == 13) = false := e13.trans (decide_eq_false (by omega))
        have f9 : ((r : Int) == 9) = false := e9.trans (decide_eq_false (by omega))
        by_cases g3 : r < 32 ∨ r = 127 ∨ (r = 65533 ∧ p.size = 1)
        · obtain ⟨c, hc⟩ : ∃ c, (bl p).getD 0 0 = c := ⟨_, rfl⟩
          have hp0 : (p[0]'(by omega)).toNat = c := by rw [bl_get, hc]
          have HQ : Hid (qB (bl p, r) = [92, 120, hx (c / 16), hx (c % 16)]) := Lib.hid (by
            unfold qB
            rw [if_neg (by omega), if_neg (by omega), if_neg (by omega), if_neg (by omega), if_pos (by rw [bl_len]; omega), hc])
          rcases g3 with g3 | g3 | g3
          · have f32 := e32.trans (decide_eq_true g3)
            clear e34 e92 e10 e13 e9 e127 e32 ebad eone g1 g2 hc g3
            gi_wp2_with fail
            all_goals first
              | (rename_i h9 _; cases h9; done)
              | (refine hex_region l (n - 1 - 1) b c p W _ (by kernel_rfl) _ hx1 hp0 (fun S W2 => Bd b b ((34 :: qFlat (pre.map ptF)) ++ bl S) W2 ∧ Below b W W2 ∧ KeepsOthers W W2) (Lib.hid fun C S hS => (HWX.out C S hS)) ?_ _ _ _ _ _ _ _ _ _ _ _ _ _ _ _ _ _ _ _ _ _ _ _ _ _ _ _ _ _ _ _ _ _ _ _ _ _ _ _ _ _ _ _ _ _ _ _ _ _ _ _ _ _ _ _ _ _ _ _ _ _ _ _
                 intro a S W2 hS h
                 gi_wp2
                 exact HE.out S W2 (hS.trans HQ.out.symm) h)
          · have f32 := e32.trans (decide_eq_false (show ¬ r < 32 by omega))
            have f127 := e127.trans (decide_eq_true g3)
            clear e34 e92 e10 e13 e9 e127 e32 ebad eone g1 g2 hc g3
            gi_wp2_with fail
            all_goals first
              | (rename_i h9 _; cases h9; done)
              | (refine hex_region l (n - 1 - 1) b c p W _ (by kernel_rfl) _ hx1 hp0 (fun S W2 => Bd b b ((34 :: qFlat (pre.map ptF)) ++ bl S) W2 ∧ Below b W W2 ∧ KeepsOthers W W2) (Lib.hid fun C S hS => (HWX.out C S hS)) ?_ _ _ _ _ _ _ _ _ _ _ _ _ _ _ _ _ _ _ _ _ _ _ _ _ _ _ _ _ _ _ _ _ _ _ _ _ _ _ _ _ _ _ _ _ _ _ _ _ _ _ _ _ _ _ _ _ _ _ _ _ _ _ _
                 intro a S W2 hS h
                 gi_wp2
                 exact HE.out S W2 (hS.trans HQ.out.symm) h)
          · have f32 := e32.trans (decide_eq_false (show ¬ r < 32 by omega))
            have f127 := e127.trans (decide_eq_false (show ¬ r = 127 by omega))
            have fbad := ebad.trans (decide_eq_true g3.1)
            have fone := eone.trans (decide_eq_true g3.2)
            clear e34 e92 e10 e13 e9 e127 e32 ebad eone g1 g2 hc g3
            gi_wp2_with fail
            all_goals first
              | (rename_i h9 _; cases h9; done)
              | (refine hex_region l (n - 1 - 1) b c p W _ (by kernel_rfl) _ hx1 hp0 (fun S W2 => Bd b b ((34 :: qFlat (pre.map ptF)) ++ bl S) W2 ∧ Below b W W2 ∧ KeepsOthers W W2) (Lib.hid fun C S hS => (HWX.out C S hS)) ?_ _ _ _ _ _ _ _ _ _ _ _ _ _ _ _ _ _ _ _ _ _ _ _ _ _ _ _ _ _ _ _ _ _ _ _ _ _ _ _ _ _ _ _ _ _ _ _ _ _ _ _ _ _ _ _ _ _ _ _ _ _ _ _
                 intro a S W2 hS h
                 gi_wp2
                 exact HE.out S W2 (hS.trans HQ.out.symm) h)
        · have HQ : Hid (qB (bl p, r) = bl p) := Lib.hid (by
            unfold qB
            rw [if_neg (by omega), if_neg (by omega), if_neg (by omega), if_neg (by omega), if_neg (by rw [bl_len]; omega)])
          have f32 := e32.trans (decide_eq_false (show ¬ r < 32 by omega))
          have f127 := e127.trans (decide_eq_false (show ¬ r = 127 by omega))
          clear e34 e92 e10 e13 e9 e127 e32 g1 g2
          by_cases g4 : r = 65533
          · have fone := eone.trans (decide_eq_false (show ¬ p.size = 1 by omega))
            have fbad := ebad.trans (decide_eq_true g4)
            clear ebad eone g4 g3
            gi_wp2_with fail
            refine ⟨trivial, fun h => (by cases h), (CallsIn.inRound l (callsIn_wide.2 (HWS.out p (by omega)))).mono ?_⟩
            rintro e W2 ⟨rfl, hW2⟩
            gi_wp2
            exact HE.out _ W2 HQ.out.symm hW2
          · have fbad := ebad.trans (decide_eq_false g4)
            clear ebad eone g4 g3
            gi_wp2_with fail
            refine ⟨trivial, fun h => (by cases h), (CallsIn.inRound l (callsIn_wide.2 (HWS.out p (by omega)))).mono ?_⟩
            rintro e W2 ⟨rfl, hW2⟩
            gi_wp2
            exact HE.out _ W2 HQ.out.symm hW2
  case done =>
    rintro D ys W hD hys ⟨hW, hB⟩ hK
    have hl : (34 :: qFlat (ys.map ptF)).length ≤ 1000000 := by
      have := qFlat_len (l := ys.map ptF) (fun y hy => by
        obtain ⟨z, _, rfl⟩ := List.mem_map.1 hy
        rw [ptF, bl_len]; exact z.2.2.1)
      rw [hys] at this
      rw [List.length_cons, hys]; omega
    rw [hys] at hW hl
    have hWB : b ≤ W.heap.size := by have := hB.size; omega
    have HY := Lib.hid hys
    clear hys
    gi_wp2_with fail
    refine ⟨trivial, (callsIn_wide.2 (WriteByte_any b b _ 34 _ hW hl hWB)).mono ?_⟩
    rintro e W2 ⟨rfl, hW2, hB2, hk2⟩
    have hK2 := hk2.same D _ hK rfl
    have hWB2 : b ≤ W2.heap.size := by have := hB2.size; omega
    have hBb := hB.trans hB2
    clear hW hB hB2 hk2 hK
    gi_wp2_with fail
    refine ⟨trivial, (callsIn_wide.2 (String_any b b _ (quote_byt s) W2 (by rw [List.cons_append] at hW2; exact hW2) hWB2)).mono ?_⟩
    rintro e W3 ⟨rfl, hB3', hk3⟩
    have hK3 := hk3 D _ hK2 rfl
    have hBc := hBb.trans hB3'
    gi_wp2
    refine ⟨by simp, .inl ⟨_, _, rfl, run_takeDeferred hK3, ?_⟩⟩
    refine ⟨_, results_tmp rfl _ _ _, _, rfl, bl_ofl (quote_byt s), ?_⟩
    rw [hb]
    exact hBc.trans (belowK_b (w := w) (by omega) W3 D _ _ (by omega) hK3 rfl rfl)
  case stop =>
    rintro D c pre W _ _ h _
    exact h.elim
theorem Quote_any (s : ByteArray) (hs : s.size ≤ 100000) (w : World) :
    Calls Try.prog 20 #[.string s] w (StrOut w (quoteL (bl s))) :=
  callsIn_wide.1 (Quote_in 3 (by omega) s hs w)
end Go.Proofs.Ytbhhakobkpdadaa
