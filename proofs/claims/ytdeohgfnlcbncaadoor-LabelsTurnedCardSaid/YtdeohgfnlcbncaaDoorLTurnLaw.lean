/- LabelsTurned, walked. -/
import Derived.Test.YtdeohgfnlcbncaaDoorLOrderLaw
import Derived.Test.YtdeohgfnlcbncaaDoorLTurnM
namespace Go.Proofs.YtdeohgfnlcbncaaDoor
open Go.RowKit Go.Shelf Go.Lib

theorem turn_len9 (l : List Lb) (B K j : Nat) (hj : j ≤ l.length) (hl : l.length ≤ 8) : (turnT l B K j).length ≤ 9 := by
  rw [turn_len]; split <;> omega
set_option maxRecDepth 100000 in
set_option maxHeartbeats 8000000 in
theorem LabelsTurned_walk (A0 : Option Addr) (l0 : List Int) (c0 : Nat) (by' at' : Int) (w : World)
    (hr0 : Row w w.heap.size A0 l0.length (ints .i64 l0)) (hc0 : l0.length ≤ c0) (hs0 : c0 * 8 ≤ 140737488351232) (hu0 : ∀ x ∈ l0, (Lit.int .i64 x).wf = true)
    (wb : (Lit.int .i64 by').wf = true) (wa : (Lit.int .i64 at').wf = true) (_hT : Tab w) :
    Calls Tryd.prog 6 #[.slice A0 l0.length c0, .int .i64 by', .int .i64 at'] w fun e w' => e = .returned (.bool true) ∧ Below w.heap.size w w' := by
  obtain ⟨i0, hi0, hz0, hz1, hz2⟩ := info_partsL lb_info
  have hm0 : l0.length ≤ 140737488351232 := by omega
  have HU0 := Lib.hid hu0
  have HRx := Lib.hid hr0
  obtain ⟨n0, hn0⟩ : ∃ n, l0.length = n := ⟨_, rfl⟩
  rw [hn0] at HRx hm0 ⊢
  clear hn0 hc0 hs0 hr0 hu0
  obtain ⟨l, hl⟩ : ∃ l, nearTo (vOf l0) 8 = l := ⟨_, rfl⟩
  have hl8 : l.length ≤ 8 := by rw [← hl]; exact near_len _ _
  have HNL : Hid (∀ x ∈ l, NearL x) := Lib.hid (by rw [← hl]; exact near_all l0)
  have HCK : Hid (chkL nmS l = 0) := Lib.hid (by rw [← hl]; exact near_check l0)
  have HV : Hid (∀ x ∈ l, x.2 ≠ ByteArray.empty) := Lib.hid (by
    have h := HCK.out
    unfold chkL at h
    split at h
    · next k => exact k.2.1.1
    · cases h)
  have HL := Lib.hid hl
  clear hl
  obtain ⟨n, hn⟩ : ∃ n, l.length = n := ⟨_, rfl⟩
  obtain ⟨B, hB⟩ : ∃ B : Nat, (by' % (n : Int)).toNat = B := ⟨_, rfl⟩
  obtain ⟨K, hK⟩ : ∃ K : Nat, (at' % (n : Int)).toNat = K := ⟨_, rfl⟩
  have HBr : Hid (0 < n → B < n ∧ ∀ v : World, Calls Tryd.prog 28 #[.int .i64 by', .int .i64 (n : Int)] v fun e w' => e = .returned (.int .i64 (B : Int)) ∧ v = w') := Lib.hid (fun h => by
    have h1 := Int.emod_nonneg by' (show (n : Int) ≠ 0 by omega)
    have h2 := Int.emod_lt_of_pos by' (show (0 : Int) < n by omega)
    refine ⟨by omega, fun v => ?_⟩
    have k := Bring_any by' n v wb (by omega) (by omega)
    rwa [show by' % (n : Int) = (B : Int) by omega] at k)
  have HKr : Hid (0 < n → K < n ∧ ∀ v : World, Calls Tryd.prog 28 #[.int .i64 at', .int .i64 (n : Int)] v fun e w' => e = .returned (.int .i64 (K : Int)) ∧ v = w') := Lib.hid (fun h => by
    have h1 := Int.emod_nonneg at' (show (n : Int) ≠ 0 by omega)
    have h2 := Int.emod_lt_of_pos at' (show (0 : Int) < n by omega)
    refine ⟨by omega, fun v => ?_⟩
    have k := Bring_any at' n v wa (by omega) (by omega)
    rwa [show at' % (n : Int) = (K : Int) by omega] at k)
  have HW := Lib.hid (works_any w)
  have HN := Lib.hid hn
  have hn8 : n ≤ 8 := by omega
  clear wb wa hB hK hn hl8
  go_enter Tryd.func6, Tryd.ntmps6
  go_wp2_with fail
  with_reducible refine HW.out.mono ?_
  rintro e v1 ⟨rfl, b⟩
  clear HW
  replace HRx := Lib.hid (HRx.out.on b)
  have HB1 := Lib.hid b
  clear b
  have C := near_rl A0 l0 l n0 c0 v1 HRx.out hm0 HU0.out HL
  rw [HN.out] at C
  replace C := Lib.hid C
  go_wp2_with fail
  with_reducible refine C.out.mono ?_
  rintro e v2 ⟨Al, cl, rfl, r, hnl, hcl, b⟩
  clear C HRx HU0
  have HB2 := Lib.hid (next HB1.out b)
  have HRl := Lib.hid r
  have HW2 : Hid (w.heap.size ≤ v2.heap.size) := Lib.hid HB2.out.size
  clear r b HB1
  go_wp2_with fail
  go_loopw [9, 10] (fun o p wr => ∃ (i m : Nat) (A : Option Addr) (c : Nat), i ≤ n ∧ o = .slice A m c ∧ p = .int .i64 (i : Int) ∧ Hid ((turnT l B K i).length = m) ∧ Hid (wr.ownsRow v2.heap.size 25 2 (.slice A m c) m (cL (turnT l B K i))) ∧ Hid (Below v2.heap.size v2 wr)) (fun _ p _ => n - (intOf p).toNat)
  case atStart => exact ⟨0, 0, none, 0, by omega, rfl, rfl, Lib.hid rfl, Lib.hid (World.ownsRow_nil _ _ _ _), Lib.hid (Below.refl _ _)⟩
  case round =>
    obtain ⟨i, m, A, c, hi, rfl, rfl, HM, HO, HBw⟩ := hrel
    by_cases hlt : i < n
    · have f1 : decide ((i : Int) < (n : Int)) = true := decide_eq_true (by omega)
      obtain ⟨hBn, hCB⟩ := HBr.out (by omega)
      obtain ⟨hKn, hCK⟩ := HKr.out (by omega)
      have HCB := Lib.hid hCB
      have HCK2 := Lib.hid hCK
      obtain ⟨b, off, rfl, hbB, hc⟩ := HRl.out.2 (by omega)
      obtain ⟨q, hq⟩ : ∃ q, (i + B) % n = q := ⟨_, rfl⟩
      have hqn : q < n := by rw [← hq]; exact Nat.mod_lt _ (by omega)
      obtain ⟨d1, d2⟩ := hc q hqn
      obtain ⟨x, hx⟩ : ∃ x, l.getD q noL = x := ⟨_, rfl⟩
      rw [hx] at d1 d2
      obtain ⟨x1, x2⟩ := x
      dsimp only at d1 d2
      have HD := Lib.hid (And.intro d1 d2)
      have t1 : ((i : Int) + (B : Int)).tmod (n : Int) = (q : Int) := by rw [← hq]; exact (Int.ofNat_tmod (i + B) n).symm
      have w1 : IntKind.i64.wrap ((i : Int) + (B : Int)) = (i : Int) + (B : Int) := by rw [IntKind.wrap_i64]; omega
      have w2 : IntKind.i64.wrap (q : Int) = (q : Int) := by rw [IntKind.wrap_i64]; omega
      have HT1 : Hid (turnT l B K (i + 1) = (turnT l B K i ++ if i = K then [(nmZ, ByteArray.empty)] else []) ++ [(x1, x2)]) := Lib.hid (by rw [turnT, HN.out, hq, hx])
      have hm9 : m ≤ 9 := by rw [← HM.out]; exact turn_len9 l B K i (by rw [HN.out]; omega) (by rw [HN.out]; omega)
      have g2 : (0 : Int) ≤ (q : Int) := by omega
      have g3 : (q : Int) < (n : Int) := by omega
      have n0' : ((n : Int) == 0) = false := beq_eq_false_iff_ne.2 (by omega)
      have HKi := Lib.hid hlt
      clear hCB hCK hq hx hc d1 d2 hlt hqn hBn
      go_wp2_with fail
      with_reducible refine (HCK2.out _).mono ?_
      rintro e v3 ⟨rfl, rfl⟩
      by_cases hik : i = K
      · have k1 : ((i : Int) == (K : Int)) = true := beq_iff_eq.2 (by omega)
        rw [if_pos hik] at HT1
        have hO := HO.out
        have hbs := HBw.out.size
        have hKB := Lib.hid (HBw.out.alloc hbs (.cells #[.string ⟨#[122]⟩, .string ⟨#[]⟩] 25))
        clear hik
        go_wp2_with (at_builtin; refine wpList_appLN _ rfl (.tmp 31) (.tmp 33) 22 rfl v2.heap.size 25 i0 Tryd.underlying22 hi0 hz0 hz1 hz2 _ _ _ rfl (hO.alloc _) _ _ 1 1 [(⟨#[122]⟩, ⟨#[]⟩)] rfl (RowL.one _ _ _ _) (by omega) (by simp; omega) (m + 1) rfl ?_)
        intro A3 c3 w3 o3 b3
        have HB3 := Lib.hid (hKB.out.trans b3)
        rw [← cL_app] at o3
        have HMT : Hid ((turnT l B K i ++ [((⟨#[122]⟩ : ByteArray), (⟨#[]⟩ : ByteArray))]).length = m + 1) := Lib.hid (by rw [List.length_append, HM.out]; rfl)
        replace HT1 : Hid (turnT l B K (i + 1) = turnT l B K i ++ [((⟨#[122]⟩ : ByteArray), (⟨#[]⟩ : ByteArray))] ++ [(x1, x2)]) := Lib.hid HT1.out
        have HO3 := Lib.hid o3
        have hm10 : m + 1 ≤ 10 := by omega
        clear o3 b3 hKB hO hbs
        have hc1 := HB3.out.cell (p := ⟨b, off + q * 2, none⟩) hbB
        have hc2 := HB3.out.cell (p := ⟨b, off + q * 2 + 1, none⟩) hbB
        rw [HD.out.1] at hc1
        rw [HD.out.2] at hc2
        clear HD
        go_wp2_with fail
        with_reducible refine (HCB.out _).mono ?_
        rintro e v5 ⟨rfl, rfl⟩
        have hO3 := HO3.out
        have hbs := HB3.out.size
        have hKB := Lib.hid (HB3.out.alloc hbs (.cells #[.string x1, .string x2] 25))
        go_wp2_with (at_builtin; refine wpList_appLN _ rfl (.tmp 35) (.tmp 46) 22 rfl v2.heap.size 25 i0 Tryd.underlying22 hi0 hz0 hz1 hz2 _ _ _ rfl (hO3.alloc _) _ _ 1 1 [(x1, x2)] rfl (RowL.one _ _ _ _) (by omega) (by simp; omega) ((m + 1) + 1) rfl ?_)
        intro A5 c5 w5 o5 b5
        have HB5 := Lib.hid (hKB.out.trans b5)
        have HO5 : Hid (w5.ownsRow v2.heap.size 25 2 (.slice A5 ((m + 1) + 1) c5) ((m + 1) + 1) (cL (turnT l B K (i + 1)))) := Lib.hid (by rw [HT1.out, cL_app]; exact o5)
        have HM5 : Hid ((turnT l B K (i + 1)).length = (m + 1) + 1) := Lib.hid (by rw [HT1.out, List.length_append, HMT.out]; rfl)
        clear o5 b5 hO3 hbs hKB hc1 hc2
        go_wp2_with fail
        exact ⟨⟨i + 1, (m + 1) + 1, A5, c5, HKi.out, rfl, by go_num, HM5, HO5, HB5⟩, by have := HKi.out; simp [intOf]; omega⟩
      · have k1 : ((i : Int) == (K : Int)) = false := beq_eq_false_iff_ne.2 (by omega)
        rw [if_neg hik, List.append_nil] at HT1
        have HB3 := HBw
        have HO3 := HO
        have HMT := HM
        clear hik
        have hc1 := HB3.out.cell (p := ⟨b, off + q * 2, none⟩) hbB
        have hc2 := HB3.out.cell (p := ⟨b, off + q * 2 + 1, none⟩) hbB
        rw [HD.out.1] at hc1
        rw [HD.out.2] at hc2
        clear HD
        go_wp2_with fail
        with_reducible refine (HCB.out _).mono ?_
        rintro e v5 ⟨rfl, rfl⟩
        have hO3 := HO3.out
        have hbs := HB3.out.size
        have hKB := Lib.hid (HB3.out.alloc hbs (.cells #[.string x1, .string x2] 25))
        go_wp2_with (at_builtin; refine wpList_appLN _ rfl (.tmp 35) (.tmp 46) 22 rfl v2.heap.size 25 i0 Tryd.underlying22 hi0 hz0 hz1 hz2 _ _ _ rfl (hO3.alloc _) _ _ 1 1 [(x1, x2)] rfl (RowL.one _ _ _ _) (by omega) (by simp; omega) (m + 1) rfl ?_)
        intro A5 c5 w5 o5 b5
        have HB5 := Lib.hid (hKB.out.trans b5)
        have HO5 : Hid (w5.ownsRow v2.heap.size 25 2 (.slice A5 (m + 1) c5) (m + 1) (cL (turnT l B K (i + 1)))) := Lib.hid (by rw [HT1.out, cL_app]; exact o5)
        have HM5 : Hid ((turnT l B K (i + 1)).length = m + 1) := Lib.hid (by rw [HT1.out, List.length_append, HMT.out]; rfl)
        clear o5 b5 hO3 hbs hKB hc1 hc2
        go_wp2_with fail
        exact ⟨⟨i + 1, m + 1, A5, c5, HKi.out, rfl, by go_num, HM5, HO5, HB5⟩, by have := HKi.out; simp [intOf]; omega⟩
    · obtain rfl : i = n := by omega
      have f1 : decide ((i : Int) < (i : Int)) = false := decide_eq_false (by omega)
      have hm9 : m ≤ 9 := by rw [← HM.out]; exact turn_len9 l B K i (by rw [HN.out]; omega) (by rw [HN.out]; omega)
      have HR := Lib.hid (RowL.own HO.out)
      have HRL := Lib.hid (HRl.out.on HBw.out)
      have HBa := Lib.hid (next HB2.out HBw.out)
      have HOF : Hid (ofL nmS (turnT l B K i) = (l, 0)) := Lib.hid (by
        rcases Nat.eq_zero_or_pos i with h | h
        · have e : l = [] := List.eq_nil_of_length_eq_zero (by rw [HN.out]; exact h)
          rw [h, e]; exact of_nil
        · have hb := HBr.out h
          have hk := HKr.out h
          have k := turn_of HCK.out (near_z HNL.out) (B := B) (K := K) (by rw [HN.out]; exact hb.1) (by rw [HN.out]; exact hk.1)
          rwa [HN.out] at k)
      have C := of_rl A m c _ l i 0 _ HR.out (by omega) HOF.out HN.out
      replace C := Lib.hid C
      rename World => wr
      clear HB2 HRl hlt hi
      go_wp2_with fail
      with_reducible refine C.out.mono ?_
      rintro e v6 ⟨Ap, cp, rfl, r, hnp, hcp, b⟩
      clear C
      have HO6 := Lib.hid (own_onL HO.out b)
      replace HRL := Lib.hid (HRL.out.on b)
      replace HBa := Lib.hid (next HBa.out b)
      have hv6 : v2.heap.size ≤ v6.heap.size := Nat.le_trans HBw.out.size b.size
      have HRp := Lib.hid r
      have e00 : ((0 : Int) == 0) = true := rfl
      clear r b HO HR HBw
      have C := Lib.hid (eq_yes Ap Al i cp cl l _ HRp.out HRL.out (by omega))
      go_wp2_with fail
      with_reducible refine C.out.mono ?_
      rintro e v7 ⟨rfl, b⟩
      clear C HRp
      have hv7 : v2.heap.size ≤ v7.heap.size := Nat.le_trans hv6 b.size
      replace HO6 := Lib.hid (own_onL HO6.out b)
      replace HRL := Lib.hid (HRL.out.on b)
      replace HBa := Lib.hid (next HBa.out b)
      clear b hv6
      by_cases hz : i = 0
      · have z1 : ((i : Int) == 0) = true := beq_iff_eq.2 (by omega)
        clear hz
        go_wp2_with fail
        go_ret
        exact ⟨rfl, HBa.out⟩
      · have z1 : ((i : Int) == 0) = false := beq_eq_false_iff_ne.2 (by omega)
        obtain ⟨hBn, _⟩ := HBr.out (by omega)
        obtain ⟨hKn, hCK⟩ := HKr.out (by omega)
        have HCK2 := Lib.hid hCK
        obtain ⟨b, off, rfl, hbB, hc⟩ := HRL.out.2 (by omega)
        obtain ⟨d1, d2⟩ := hc K hKn
        obtain ⟨x, hx⟩ : ∃ x, l.getD K noL = x := ⟨_, rfl⟩
        rw [hx] at d1 d2
        obtain ⟨x1, x2⟩ := x
        dsimp only at d1 d2
        have HOG : Hid (ofL nmS (turnT l B K i ++ [(x1, x2)]) = ([], 50)) := Lib.hid (by
          have k := turn_twice (B := B) (K := K) (by rw [HN.out]; exact hBn) (by rw [HN.out]; exact hKn) HV.out
          rwa [HN.out, hx] at k)
        have g2 : (0 : Int) ≤ (K : Int) := by omega
        have g3 : (K : Int) < (i : Int) := by omega
        have e50 : ((50 : Int) == 50) = true := rfl
        clear hCK hc hx hz
        go_wp2_with fail
        with_reducible refine (HCK2.out _).mono ?_
        rintro e v8 ⟨rfl, rfl⟩
        have hO6 := HO6.out
        have hKB := Lib.hid (HBa.out.alloc HBa.out.size (.cells #[.string x1, .string x2] 25))
        go_wp2_with (at_builtin; refine wpList_appLN _ rfl (.tmp 64) (.tmp 71) 22 rfl v2.heap.size 25 i0 Tryd.underlying22 hi0 hz0 hz1 hz2 _ _ _ rfl (hO6.alloc _) _ _ 1 1 [(x1, x2)] rfl (RowL.one _ _ _ _) (by omega) (by simp; omega) (m + 1) rfl ?_)
        intro A9 c9 w9 o9 b9
        rw [← cL_app] at o9
        have HR9 := Lib.hid (RowL.own o9)
        have HB9 := Lib.hid (hKB.out.trans (b9.mono HW2.out))
        clear o9 b9 hO6 hKB HO6 HRL
        have C := Lib.hid (of_rl A9 (m + 1) c9 _ [] 0 50 _ HR9.out (by omega) HOG.out rfl)
        go_wp2_with fail
        with_reducible refine C.out.mono ?_
        rintro e v10 ⟨Aq, cq, rfl, r, hnq, hcq, b⟩
        have HBz := Lib.hid (next HB9.out b)
        clear C r b
        go_wp2_with fail
        go_ret
        exact ⟨rfl, HBz.out⟩
end Go.Proofs.YtdeohgfnlcbncaaDoor
