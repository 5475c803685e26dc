/- nat.Mul. -/
import Derived.Test.YtlpfcilgndbopaaDoorNMulMath
namespace Go.Proofs.YtlpfcilgndbopaaDoor
open Go.RowKit

set_option maxRecDepth 100000 in
set_option maxHeartbeats 2000000 in
theorem Mul_any (A A' : Option Addr) (n c n' c' : Nat) (a b : List Int) (w : World) (hr : Row w w.heap.size A n (ints .u32 a)) (hr' : Row w w.heap.size A' n' (ints .u32 b)) (ha : Lim a) (hb : Lim b) :
    Calls Tryd.prog 19 #[.slice A n c, .slice A' n' c'] w (AddOut w (if chk2 a b = 0 then limbs (val a * val b) else []) (chk2 a b)) := by
  obtain ⟨i0, hi, hz0, hz1, hz2⟩ := u32_parts
  have hl := hr.1
  have hl' := hr'.1
  rw [ints_len] at hl hl'
  have HC := Lib.hid (checkBoth_any A A' n c n' c' _ a b w hr hr')
  by_cases hx : chk2 a b = 0
  · have hlen := chk2_ok hx
    have hn64 : n ≤ 64 := by have := chk_len hlen.1; omega
    have hn64' : n' ≤ 64 := by have := chk_len hlen.2; omega
    rw [if_pos hx]
    rw [hx] at HC ⊢
    clear hlen hx
    have HA := Lib.hid ha
    have HB := Lib.hid hb
    have HR := Lib.hid hr
    have HR' := Lib.hid hr'
    have HLA := Lib.hid hl
    have HLB : Hid (low b n' = val b) := Lib.hid (low_all (by omega))
    clear ha hb hr hr' hl hl'
    go_enter Tryd.func19, Tryd.ntmps19
    go_wp2_with fail
    refine HC.out.mono ?_
    rintro e w' ⟨rfl, rfl⟩
    clear HC
    go_wp2_with (refine wpList_make_full _ rfl (.tmp 22) (.tmp 22) 22 rfl w.heap.size 34 i0 (.int .u32 0) 1 Tryd.underlying22 hi hz0 hz1 .i64 .i64 _ _ (n + n') rfl rfl (by omega) (by omega) (by rw [hz2]; omega) (by unfold maxLen; omega) (Nat.le_refl _) ?_)
    intro w6 hown hg6
    rw [made32, List.nil_append] at hown
    have hb6 : Below w.heap.size w w6 := (Below.refl _ _).grown hg6 (Nat.le_refl _) (by simp)
    have HRb := Lib.hid hb6
    obtain ⟨g, hg⟩ : ∃ g, g = w.heap.size := ⟨_, rfl⟩
    have HG := Lib.hid hg
    rw [← hg] at hown hb6 ⊢
    clear hg hg6
    go_wp2
    go_loopw [26] (fun i wr => ∃ (k : Nat) (P : List Int), k ≤ n ∧ i = .int .i64 k ∧ Hid (P.length = n + n' ∧ Lim P ∧ val P = low a k * val b ∧ ∀ j, k + n' ≤ j → P.getD j 0 = 0) ∧
      wr.ownsRow g 34 1 (.slice (some ⟨g, 0, none⟩) (n + n') (n + n')) (n + n') (ints .u32 P) ∧ Below g w wr) (fun i _ => n - (intOf i).toNat)
    case atStart => exact ⟨0, List.replicate (n + n') 0, Nat.zero_le _, rfl, Lib.hid ⟨List.length_replicate, Lim.zeros _, by rw [val_zeros, low_zero, Nat.zero_mul], fun j _ => getD_zeros _ _⟩, hown, hb6⟩
    case round =>
      obtain ⟨k, P, hk, rfl, HS, hown, hb⟩ := hrel
      by_cases hkn : k < n
      · have hkz : (k : Int) < (n : Int) := by omega
        have hk0 : (0 : Int) ≤ (k : Int) := by omega
        obtain ⟨x, hx⟩ : ∃ x, a.getD k 0 = x := ⟨_, rfl⟩
        have hxl := HA.out.at k
        rw [hx] at hxl
        have HXL := Lib.hid hxl
        have HX := Lib.hid hx
        have HOwn := Lib.hid hown
        have HBel := Lib.hid hb
        clear hx hxl hown hb
        go_wp2
        go_loopw [9, 31] (fun cy jj wr => ∃ (j : Nat) (cr : Int) (P' : List Int), j ≤ n' ∧ jj = .int .i64 j ∧ cy = .int .u64 cr ∧ Hid (0 ≤ cr ∧ cr ≤ 4294967295) ∧ Hid (P'.length = n + n' ∧ Lim P' ∧ val P' + 4294967296 ^ (k + j) * cr.toNat = low a k * val b + 4294967296 ^ k * (x.toNat * low b j) ∧ ∀ i, k + n' ≤ i → P'.getD i 0 = 0) ∧
          wr.ownsRow g 34 1 (.slice (some ⟨g, 0, none⟩) (n + n') (n + n')) (n + n') (ints .u32 P') ∧ Below g w wr) (fun _ jj _ => n' - (intOf jj).toNat)
        case atStart => exact ⟨0, 0, P, Nat.zero_le _, rfl, rfl, Lib.hid (by omega), Lib.hid ⟨HS.out.1, HS.out.2.1, by rw [HS.out.2.2.1, low_zero]; simp, HS.out.2.2.2⟩, HOwn.out, HBel.out⟩
        case round =>
          obtain ⟨j, cr, P', hj, rfl, rfl, HCR, HS', hown, hb⟩ := hrel
          rename World => ws
          by_cases hjm : j < n'
          · have hjz : (j : Int) < (n' : Int) := by omega
            have hj0 : (0 : Int) ≤ (j : Int) := by omega
            have hkj : (k : Int) + (j : Int) < (n : Int) + (n' : Int) := by omega
            have hkj0 : (0 : Int) ≤ (k : Int) + (j : Int) := by omega
            have hra := HR.out.below (by rw [← HG.out]; exact hb)
            have hrb := HR'.out.below (by rw [← HG.out]; exact hb)
            obtain ⟨ba, oa, rfl, -, -⟩ := hra.2 (by omega)
            obtain ⟨bb, ob, rfl, -, -⟩ := hrb.2 (by omega)
            have hcella : ws.cell? ⟨ba, oa + k, none⟩ = some (.int .u32 (a.getD k 0)) := hra.int hkn
            have hcellb : ws.cell? ⟨bb, ob + j, none⟩ = some (.int .u32 (b.getD j 0)) := hrb.int hjm
            have hcello : ws.cell? ⟨g, k + j, none⟩ = some (.int .u32 (P'.getD (k + j) 0)) := (hown.cellAt (k + j) (by omega)).trans (ints_get _ _ _ (by have := HS'.out.1; omega))
            have hfz := hown.frozenAt (k + j)
            have HM := Lib.hid (mul_step HB.out HS'.out.2.1 HXL.out.1 HCR.out.1 (by have := HS'.out.1; omega) HS'.out.2.2.1)
            have hyl := HB.out.at j
            have hol := HS'.out.2.1.at (k + j)
            obtain ⟨y, hy⟩ : ∃ y, b.getD j 0 = y := ⟨_, rfl⟩
            obtain ⟨o, ho⟩ : ∃ o, P'.getD (k + j) 0 = o := ⟨_, rfl⟩
            rw [HX.out] at hcella
            rw [hy] at hcellb HM hyl
            rw [ho] at hcello HM hol
            have hfit := mul_fits HXL.out hyl hol HCR.out
            obtain ⟨hxy0, hxy1, hxy2⟩ := hfit
            obtain ⟨hc0, hc1⟩ := HCR.out
            obtain ⟨hx0, hx1⟩ := HXL.out
            obtain ⟨hy0, hy1⟩ := hyl
            obtain ⟨ho0, ho1⟩ := hol
            have HOwn2 := Lib.hid hown
            have HB2 := Lib.hid hb
            clear hy ho hown hb hra hrb
            obtain ⟨t, ht⟩ : ∃ t, x * y + o + cr = t := ⟨_, rfl⟩
            rw [ht] at HM hxy1 hxy2
            have HTT := Lib.hid ht
            have ht0 : 0 ≤ t := by omega
            have hp0 : 0 ≤ t % 4294967296 := by omega
            have hp1 : t % 4294967296 ≤ 4294967295 := by omega
            have hq0 : 0 ≤ t / 4294967296 := by omega
            have HF : Hid (x * y + o + cr = t) := HTT
            have hf1 : x * y + o ≤ 18446744073709551615 := by omega
            have hf2 : x * y ≤ 18446744073709551615 := by omega
            have hf3 : x * y + o + cr ≤ 18446744073709551615 := by omega
            have hf4 : 0 ≤ x * y + o := by omega
            have hf5 : 0 ≤ x * y + o + cr := by omega
            clear ht
            go_wp2_with fail
            go_quiet (fail)
            rw [HF.out]
            go_wp2
            go_roundw
            case rel =>
              refine ⟨j + 1, t / 4294967296, P'.set (k + j) (t % 4294967296), by omega, by go_num, by first | rfl | simp, Lib.hid ⟨hq0, hxy2⟩, Lib.hid ⟨by rw [List.length_set]; exact HS'.out.1, HS'.out.2.1.set _ hp0 hp1, HM.out, fun i hi => by rw [getD_set_ne _ _ _ _ (by omega)]; exact HS'.out.2.2.2 i hi⟩, ?_, ?_⟩
              · have := (HOwn2.out.stored (k + j) (.int .u32 (t % 4294967296))).1
                rw [show (ints .u32 P').set (k + j) (.int .u32 (t % 4294967296)) = ints .u32 (P'.set (k + j) (t % 4294967296)) by simp [ints, List.map_set]] at this
                exact this
              · have h := (HOwn2.out.stored (k + j) (.int .u32 (t % 4294967296))).2
                exact HB2.out.grown ⟨h.os, h.tape, h.output, h.size, h.block⟩ (by have := HB2.out.size; have := HG.out; omega) (by simp)
            case measure => simp [intOf]; omega
          · obtain rfl : j = n' := by omega
            have hkj : (k : Int) + (j : Int) < (n : Int) + (j : Int) := by omega
            have hkj0 : (0 : Int) ≤ (k : Int) + (j : Int) := by omega
            have hcello : ws.cell? ⟨g, k + j, none⟩ = some (.int .u32 (P'.getD (k + j) 0)) := (hown.cellAt (k + j) (by omega)).trans (ints_get _ _ _ (by have := HS'.out.1; omega))
            have hfz := hown.frozenAt (k + j)
            rw [HS'.out.2.2.2 (k + j) (Nat.le_refl _)] at hcello
            obtain ⟨hc0, hc1⟩ := HCR.out
            have HE : Hid (val (P'.set (k + j) cr) = low a (k + 1) * val b) := Lib.hid (row_end HA.out (by have := HS'.out.1; omega) (HS'.out.2.2.2 (k + j) (Nat.le_refl _)) HLB.out (by rw [HX.out]; exact HS'.out.2.2.1))
            have HOwn2 := Lib.hid hown
            have HB2 := Lib.hid hb
            clear hown hb
            go_wp2
            go_roundw
            case rel =>
              refine ⟨k + 1, P'.set (k + j) cr, by omega, by go_num, Lib.hid ⟨by rw [List.length_set]; exact HS'.out.1, HS'.out.2.1.set _ hc0 hc1, HE.out, fun i hi => by rw [getD_set_ne _ _ _ _ (by omega)]; exact HS'.out.2.2.2 i (by omega)⟩, ?_, ?_⟩
              · have := (HOwn2.out.stored (k + j) (.int .u32 cr)).1
                rw [show (ints .u32 P').set (k + j) (.int .u32 cr) = ints .u32 (P'.set (k + j) cr) by simp [ints, List.map_set]] at this
                exact this
              · exact HB2.out.grown (HOwn2.out.stored (k + j) (.int .u32 cr)).2 (by have := HB2.out.size; have := HG.out; omega) (by simp)
            case measure => simp [intOf]; omega
      · obtain rfl : k = n := by omega
        have hv : val P = val a * val b := by rw [HS.out.2.2.1, low_all (by have := HLA.out; omega)]
        have HV := Lib.hid hv
        clear hv hkn
        obtain rfl := HG.out
        go_wp2_with fail
        refine (trim_new _ (k + n') (k + n') P w _ hown hb HS.out.2.1 (Nat.le_refl _) (by omega)).mono ?_
        rw [HV.out]
        rintro e w' ⟨A1, c1, rfl, hown1, hb1⟩
        go_wp2
        go_ret2
        exact ⟨A1, c1, rfl, hown1, hb1⟩
  · rw [if_neg hx]
    have hd : (chk2 a b == 0) = false := by simpa using hx
    clear hr hr' ha hb hx hl hl'
    generalize chk2 a b = x at *
    go_enter Tryd.func19, Tryd.ntmps19
    go_wp2_with fail
    refine HC.out.mono ?_
    rintro e w' ⟨rfl, rfl⟩
    go_wp2
    go_ret2
    exact ⟨none, 0, rfl, World.ownsRow_nil _ _ _ _, Below.refl _ _⟩
end Go.Proofs.YtlpfcilgndbopaaDoor
