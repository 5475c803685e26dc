/- The document's div, Div. -/
import Derived.Test.YtlpfcilgndbopaaDoorNRDivMath
import Derived.Deep.LoopGhost
namespace Go.Proofs.YtlpfcilgndbopaaDoor
open Go.RowKit

theorem limbs_le {V k : Nat} (h : V < 2 ^ (32 * k)) : (limbs V).length ≤ k := limbs_len (by rw [pow32]; exact h)

/-- What a call owns reads on, and stays its own, where a block below its own is written. -/
theorem own_over {w w' : World} {g n : Nat} {v : Value} {xs : List Value} (h : w.ownsRow (g + 1) 34 1 v n xs) (hg : w.grownBy w' (some g)) : w'.ownsRow (g + 1) 34 1 v n xs := by
  refine h.kept hg ?_
  rcases hv : v.ownBlock with _ | k
  · exact .inl rfl
  · right
    intro e
    have := (h.lt k hv).1
    injection e with e
    omega
theorem own_on {w w' : World} {base n : Nat} {v : Value} {xs : List Value} (h : w.ownsRow base 34 1 v n xs) (hb : Below w.heap.size w w') : w'.ownsRow base 34 1 v n xs :=
  h.kept (row := none) ⟨hb.os, hb.tape, hb.output, hb.size, fun j hj _ => hb.block j hj⟩ (by rcases h : v.ownBlock with _ | g <;> simp)
set_option maxRecDepth 100000 in
set_option maxHeartbeats 2000000 in
theorem rdiv_any (A A' : Option Addr) (n c n' c' B : Nat) (a b : List Int) (w : World) (hr : Row w B A n (ints .u32 a)) (hr' : Row w B A' n' (ints .u32 b)) (hB : B ≤ w.heap.size) (ha : Lim a) (hb : Lim b) (hn : n ≤ 500) (hn' : n' ≤ 500) (hD : 0 < val b) (hc : n ≤ c) (hc2 : c ≤ 9223372036854775807) (hc' : n' ≤ c') (hc2' : c' ≤ 9223372036854775807) :
    Calls Tryd.prog 57 #[.slice A n c, .slice A' n' c'] w fun e w' => ∃ A1 c1 A2 c2, e = .returned (.tuple #[.slice A1 (limbs (val a / val b)).length c1, .slice A2 (limbs (val a % val b)).length c2]) ∧
      w'.ownsRow w.heap.size 34 1 (.slice A1 (limbs (val a / val b)).length c1) (limbs (val a / val b)).length (ints .u32 (limbs (val a / val b))) ∧
      w'.ownsRow w.heap.size 34 1 (.slice A2 (limbs (val a % val b)).length c2) (limbs (val a % val b)).length (ints .u32 (limbs (val a % val b))) ∧ Below w.heap.size w w' := by
  obtain ⟨i0, hi, hz0, hz1, hz2⟩ := u32_parts
  have hla := hr.1
  rw [ints_len] at hla
  have hlb := hr'.1
  rw [ints_len] at hlb
  have hva := val_lt ha
  rw [hla, pow32] at hva
  have hvb := val_lt hb
  rw [hlb, pow32] at hvb
  have HR := Lib.hid hr
  have HR' := Lib.hid hr'
  have HA := Lib.hid ha
  have HBb := Lib.hid hb
  have hva2 := blen_bound hva
  have hvb2 := blen_bound hvb
  obtain ⟨VA, hVA⟩ : ∃ V, val a = V := ⟨_, rfl⟩
  obtain ⟨VB, hVB⟩ : ∃ V, val b = V := ⟨_, rfl⟩
  have cT1 : Hid (∀ w : World, Row w w.heap.size A n (ints .u32 a) → Calls Tryd.prog 54 #[.slice A n c] w (New w (limbs VA))) := Lib.hid (fun w h => by
    have := rtrim_any A n c w.heap.size a w h HA.out (by omega) hc hc2
    rwa [hVA] at this)
  have cT2 : Hid (∀ w : World, Row w w.heap.size A' n' (ints .u32 b) → Calls Tryd.prog 54 #[.slice A' n' c'] w (New w (limbs VB))) := Lib.hid (fun w h => by
    have := rtrim_any A' n' c' w.heap.size b w h HBb.out (by omega) hc' hc2'
    rwa [hVB] at this)
  rw [hVA, hVB]
  rw [hVA] at hva hva2
  rw [hVB] at hvb hvb2 hD
  have HRw := Lib.hid (HR.out.wide hB)
  have HRw' := Lib.hid (HR'.out.wide hB)
  have la := limbs_le hva
  have lb := limbs_le hvb
  obtain ⟨na, hna⟩ : ∃ x, (limbs VA).length = x := ⟨_, rfl⟩
  obtain ⟨nb, hnb⟩ : ∃ x, (limbs VB).length = x := ⟨_, rfl⟩
  obtain ⟨x, hx⟩ : ∃ x, blen VA = x := ⟨_, rfl⟩
  obtain ⟨y, hy⟩ : ∃ y, blen VB = y + 1 := ⟨blen VB - 1, by have := blen_pos (n := VB) (by omega); omega⟩
  rw [hx] at hva2
  rw [hy] at hvb2
  have HX := Lib.hid (And.intro hx hy)
  have HDp := Lib.hid hD
  clear hr hr' ha hb hva hvb hVA hVB hx hy hla hlb hD
  go_enter Tryd.func57, Tryd.ntmps57
  go_wp2_with (refine wpList_make_full _ rfl (.tmp 11) (.tmp 11) 22 rfl w.heap.size 34 i0 (.int .u32 0) 1 Tryd.underlying22 hi hz0 hz1 .i64 .i64 _ _ n rfl rfl (by omega) (by omega) (by rw [hz2]; omega) (by unfold maxLen; omega) (Nat.le_refl _) ?_)
  intro w1 hq1 hg1
  rw [made32] at hq1
  have hb1 : Below w.heap.size w w1 := (Below.refl _ _).grown hg1 (Nat.le_refl _) (by simp)
  obtain ⟨g, hg⟩ : ∃ g, g = w.heap.size := ⟨_, rfl⟩
  have hgw : g < w1.heap.size := by
    have := (hq1.lt w.heap.size (by simp [Value.ownBlock])).2
    omega
  have HG := Lib.hid hg
  rw [← hg] at hq1 ⊢
  clear hg hg1
  have HQ0 : Hid (([] ++ List.replicate n (0 : Int)).length = n ∧ Lim ([] ++ List.replicate n (0 : Int)) ∧ val ([] ++ List.replicate n (0 : Int)) = 0) := Lib.hid ⟨by simp, by rw [List.nil_append]; exact Lim.zeros _, by rw [List.nil_append, val_zeros]⟩
  generalize [] ++ List.replicate n (0 : Int) = q0 at *
  go_wp2_with fail
  with_reducible refine (cT1.out w1 (HRw.out.on hb1)).mono ?_
  rintro e w2 ⟨A2, c2, rfl, o2, h2⟩
  rw [hna] at o2 ⊢
  have b2 := next hb1 h2
  have hq2 := own_on hq1 h2
  have r2 := own_low o2 hgw
  have h2s := Lib.hid h2.size
  clear o2 h2 hq1
  go_wp2_with fail
  with_reducible refine (cT2.out w2 (HRw'.out.on b2)).mono ?_
  rintro e w3 ⟨A3, c3, rfl, o3, h3⟩
  rw [hnb] at o3 ⊢
  have b3 := next b2 h3
  have hq3 := own_on hq2 h3
  have r3 := own_on r2 h3
  have rb3 := own_low o3 (Nat.le_trans hgw (by have := h3.size; have := b2.size; have := hb1.size; exact (Nat.le_trans (show w1.heap.size ≤ w2.heap.size from h2s.out) (Nat.le_refl _))))
  have cB1 := rbits_any A2 na c2 w3.heap.size (limbs VA) w3 (Row.own r3) (lim_limbs VA) (limbs_top VA) (by omega)
  rw [val_limbs, HX.out.1] at cB1
  have cB2 := rbits_any A3 nb c3 w3.heap.size (limbs VB) w3 (Row.own rb3) (lim_limbs VB) (limbs_top VB) (by omega)
  rw [val_limbs, HX.out.2] at cB2
  have CB1 := Lib.hid cB1
  have CB2 := Lib.hid cB2
  have S13 : Hid (w1.heap.size ≤ w3.heap.size) := Lib.hid (Nat.le_trans h2s.out h3.size)
  clear cB1 cB2 b2 hb1 r2 hq2 h3 o3
  go_wp2_with fail
  with_reducible refine CB1.out.mono ?_
  rintro e w4 ⟨rfl, rfl⟩
  go_wp2_with fail
  with_reducible refine CB2.out.mono ?_
  rintro e w4 ⟨rfl, rfl⟩
  clear CB1 CB2
  have HST : Hid (VA % (VB * 2 ^ (x - y)) = VA ∧ VA / (VB * 2 ^ (x - y)) * 2 ^ (x - y) = 0) := Lib.hid (rdiv_first HDp.out (rdiv_start HDp.out (by rw [HX.out.1, HX.out.2]; omega)))
  have HQS : Hid (q0.length = n ∧ Lim q0 ∧ val q0 = VA / (VB * 2 ^ (x - y)) * 2 ^ (x - y)) := Lib.hid ⟨HQ0.out.1, HQ0.out.2.1, by rw [HST.out.2]; exact HQ0.out.2.2⟩
  have HRS : Hid (limbs VA = limbs (VA % (VB * 2 ^ (x - y))) ∧ (limbs (VA % (VB * 2 ^ (x - y)))).length = na) := Lib.hid (by rw [HST.out.1]; exact ⟨rfl, hna⟩)
  rw [HRS.out.1] at r3
  go_wp2_with fail
  go_loopg [7, 8, 9] (x - y) (fun m s7 s8 s9 wx => ∃ (i : Int) (Ar : Option Addr) (cr nr : Nat) (qs : List Int), s7 = .slice Ar nr cr ∧ s8 = .int .i64 i ∧ (i = (m : Int) - 1 ∨ (m = 0 ∧ i < 0)) ∧ -100000 ≤ i ∧ m ≤ x ∧ nr ≤ n ∧
    Hid ((limbs (VA % (VB * 2 ^ m))).length = nr) ∧ Hid (qs.length = n ∧ Lim qs ∧ val qs = VA / (VB * 2 ^ m) * 2 ^ m) ∧
    wx.ownsRow w.heap.size 34 1 (.slice (some ⟨g, 0, none⟩) n n) n (ints .u32 qs) ∧ wx.ownsRow (g + 1) 34 1 (.slice Ar nr cr) nr (ints .u32 (limbs (VA % (VB * 2 ^ m)))) ∧
    wx.ownsRow (g + 1) 34 1 (.slice A3 nb c3) nb (ints .u32 (limbs VB)) ∧ Below w.heap.size w wx ∧ w3.heap.size ≤ wx.heap.size)
  case atStart => exact ⟨(x : Int) - (y : Int) - 1, A2, c2, na, q0, rfl, by go_num, by omega, by omega, by omega, by omega, Lib.hid HRS.out.2, HQS, by have h0 := HG.out; rw [← h0]; exact hq3, r3, rb3, b3, Nat.le_refl _⟩
  case round =>
    obtain ⟨i, Ar, cr, nr, qs, rfl, rfl, hik, hi0, hmx, hnr, HN, HQ, ho1, ho2, ho3, hb⟩ := hrel
    rename World => wr
    obtain ⟨hb, hW3⟩ := hb
    have HW := Lib.hid hW3
    cases gk with
    | zero =>
      have hneg : i < 0 := by omega
      have HQ1 : Hid (val qs = VA / VB) := Lib.hid (by have := HQ.out.2.2; rwa [Nat.pow_zero, Nat.mul_one, Nat.mul_one] at this)
      have HT := Lib.hid (rtrim_any (some ⟨g, 0, none⟩) n n wr.heap.size qs wr (Row.own ho1) HQ.out.2.1 (by omega) (Nat.le_refl _) (by omega))
      rw [HQ1.out] at HT
      have HN0 : Hid ((limbs (VA % VB)).length = nr) := Lib.hid (by have := HN.out; rwa [Nat.pow_zero, Nat.mul_one] at this)
      rw [Nat.pow_zero, Nat.mul_one] at ho2
      have hg0 : w.heap.size ≤ g + 1 := by have := HG.out; omega
      clear hik
      go_wp2_with fail
      with_reducible refine HT.out.mono ?_
      rintro e w5 ⟨A5, c5, rfl, o5, h5⟩
      have o2 := own_low (own_on ho2 h5) hg0
      have b5 := next hb h5
      have o5' := own_low o5 hb.size
      clear o5 h5 ho2
      go_wp2
      go_ret2
      have hn0 := HN0.out
      subst hn0
      exact ⟨A5, c5, Ar, cr, rfl, o5', o2, b5⟩
    | succ m =>
      obtain rfl : i = (m : Int) := by omega
      have cT := times_any A3 nb c3 wr.heap.size m (limbs VB) wr (Row.own ho3) (Nat.le_refl _) (lim_limbs VB) (by omega) (by omega)
      rw [val_limbs] at cT
      have CT := Lib.hid cT
      have hm0 : (0 : Int) ≤ (m : Int) := by omega
      clear cT hik
      go_wp2_with fail
      with_reducible refine CT.out.mono ?_
      rintro e w5 ⟨A5, c5, rfl, o5, h5⟩
      have hML := Lib.hid (fun h => rdiv_less (A := VA) (D := VB) (k := m) (m := m + 1) HDp.out rfl h)
      have hMM := Lib.hid (fun h => rdiv_more (A := VA) (D := VB) (k := m) (m := m + 1) HDp.out rfl h)
      obtain ⟨R, hR⟩ : ∃ R, VA % (VB * 2 ^ (m + 1)) = R := ⟨_, rfl⟩
      obtain ⟨E, hE⟩ : ∃ E, VB * 2 ^ m = E := ⟨_, rfl⟩
      rw [hR] at HN hML hMM ho2
      rw [hE] at hML hMM o5 ⊢
      have HEq := Lib.hid hE
      obtain ⟨nd, hnd⟩ : ∃ x, (limbs E).length = x := ⟨_, rfl⟩
      rw [hnd] at o5 ⊢
      have r5 := own_on ho2 h5
      have q5 := own_on ho1 h5
      have rb5 := own_on ho3 h5
      have b5 := next hb h5
      have cC := cmp_any Ar A5 nr cr nd c5 w5.heap.size (limbs R) (limbs E) w5 (Row.own r5) (Row.own o5) (lim_limbs R) (lim_limbs E) (by omega)
      rw [cmpR_limbs] at cC
      have CC := Lib.hid cC
      have O5 := Lib.hid o5
      have R5 := Lib.hid r5
      have Q5 := Lib.hid q5
      have RB5 := Lib.hid rb5
      have B5 := Lib.hid b5
      have S35 : Hid (w3.heap.size ≤ w5.heap.size) := Lib.hid (Nat.le_trans HW.out h5.size)
      have S15 : Hid (w1.heap.size ≤ w5.heap.size) := Lib.hid (Nat.le_trans S13.out (Nat.le_trans HW.out h5.size))
      have HND := Lib.hid hnd
      clear ho1 ho2 ho3 hb o5 h5 r5 q5 rb5 b5 cC CT hR hE hnd
      by_cases hge : E ≤ R
      · have hz : 0 ≤ cmpI R E := by
          rw [cmpI, if_neg (by omega)]
          by_cases h2 : E < R
          · rw [if_pos h2]; decide
          · rw [if_neg h2]; decide
        have HGe := Lib.hid hge
        have HM := Lib.hid (hMM.out hge)
        generalize cmpI R E = z at *
        clear hge hML hMM
        go_wp2_with fail
        with_reducible refine CC.out.mono ?_
        rintro e w6 ⟨rfl, kk, rfl⟩
        have cS := rsub_any Ar A5 nr cr nd c5 (limbs R) (limbs E) (w5.drewN kk) (Row.own R5.out) (Row.own O5.out) (lim_limbs R) (lim_limbs E) (by omega) (by
          have h1 := val_lt (lim_limbs R)
          rw [val_limbs, HN.out] at h1
          have h2 := limbs_len (n := E) (k := nr) (by have := HGe.out; omega)
          exact low_all h2) (by rw [val_limbs, val_limbs]; exact HGe.out)
        rw [val_limbs, val_limbs] at cS
        have CS := Lib.hid cS
        clear cS
        go_wp2_with fail
        with_reducible refine CS.out.mono ?_
        rintro e w7 ⟨A7, c7, rfl, o7, h7⟩
        obtain ⟨n7, hn7⟩ : ∃ x, (limbs (R - E)).length = x := ⟨_, rfl⟩
        have hn7n : n7 ≤ nr := by
          have h1 := val_lt (lim_limbs R)
          rw [val_limbs, HN.out] at h1
          have := limbs_len (n := R - E) (k := nr) (by omega)
          omega
        rw [hn7] at o7 ⊢
        have b7 : Below w.heap.size w w7 := next B5.out ⟨h7.os, h7.tape, h7.output, h7.size, h7.block⟩
        have h57 : Below w5.heap.size w5 w7 := ⟨h7.os, h7.tape, h7.output, h7.size, h7.block⟩
        have q7 := own_on Q5.out h57
        have rb7 := own_on RB5.out h57
        have r7 := own_low o7 (show g + 1 ≤ (w5.drewN kk).heap.size from Nat.le_trans hgw (show w1.heap.size ≤ w5.heap.size from S15.out))
        obtain ⟨qi, hqi⟩ : ∃ qi, m / 32 = qi := ⟨_, rfl⟩
        obtain ⟨ri, hri⟩ : ∃ ri, m % 32 = ri := ⟨_, rfl⟩
        have hqn : qi < n := by omega
        obtain ⟨z2, hz2'⟩ : ∃ z, qs.getD qi 0 = z := ⟨_, rfl⟩
        have hcellq := (q7.cellAt qi (by omega)).trans (ints_get .u32 qs qi (by have := HQ.out.1; omega))
        rw [hz2'] at hcellq
        have hfz := q7.frozenAt qi
        have HQS2 := Lib.hid (quo_set (k := m) (c := VA / (VB * 2 ^ (m + 1))) HQ.out.2.1 (by have := HQ.out.1; omega) HQ.out.2.2 (by rw [hqi, hz2']))
        rw [hqi, hri] at HQS2
        obtain ⟨P, hP⟩ : ∃ P : Nat, 2 ^ ri = P := ⟨_, rfl⟩
        rw [hP] at HQS2
        have hz20 := HQS2.out.1
        have hz21 := HQS2.out.2.1
        have t1 : (m : Int).tdiv 32 = (qi : Int) := by rw [Int.tdiv_eq_ediv_of_nonneg (by omega)]; omega
        have t2 : (m : Int).tmod 32 = (ri : Int) := by rw [Int.tmod_eq_emod_of_nonneg (by omega)]; omega
        have t3 : (m : Int) / 32 = (qi : Int) := by omega
        have t4 : (m : Int) % 32 = (ri : Int) := by omega
        have hwq : IntKind.i64.wrap (qi : Int) = (qi : Int) := by rw [IntKind.wrap_i64]; omega
        have hwr : IntKind.i64.wrap (ri : Int) = (ri : Int) := by rw [IntKind.wrap_i64]; omega
        have hq0 : (0 : Int) ≤ (qi : Int) := by omega
        have hq1' : (qi : Int) < (n : Int) := by omega
        have hr0 : (0 : Int) ≤ (ri : Int) := by omega
        have hr1 : (ri : Int) < 32 := by omega
        have S57 := Lib.hid h57.size
        have Q7 := Lib.hid q7
        have RB7 := Lib.hid rb7
        have R7 := Lib.hid r7
        have B7 := Lib.hid b7
        have HN7 := Lib.hid hn7
        clear hP q7 rb7 r7 b7 h57 o7 h7 hn7 hz2'
        go_wp2_with fail
        go_region_with fail
        rw [HQS2.out.2.2.1]
        have st := Lib.hid (Q7.out.stored qi (.int .u32 (z2 + (P : Int))))
        go_wp2_with fail
        go_roundg m
        case rel =>
          refine ⟨(m : Int) - 1, A7, c7, n7, qs.set qi (z2 + (P : Int)), rfl, rfl, .inl rfl, by omega, by omega, by omega, Lib.hid ?_, Lib.hid ⟨by rw [List.length_set]; exact HQ.out.1, lim_set HQ.out.2.1 (Int.add_nonneg HQS2.out.1 (Int.natCast_nonneg _)) HQS2.out.2.2.2.1, ?_⟩, ?_, ?_, ?_, ?_, ?_⟩
          · rw [HEq.out, ← HM.out.1]; exact HN7.out
          · rw [HQS2.out.2.2.2.2, HQ.out.2.2, HEq.out, ← HM.out.2]
          · have h1 := st.out.1
            rw [ints_set32] at h1
            exact h1
          · rw [HEq.out, ← HM.out.1]
            have h2 := own_over R7.out st.out.2
            exact h2
          · have h2 := own_over RB7.out st.out.2
            exact h2
          · exact (B7.out.grown (row := some g) st.out.2 B7.out.size (by simp; have := HG.out; omega)).drew
          · exact Nat.le_trans S35.out (Nat.le_trans S57.out st.out.2.size)
        case measure => omega
      · have hz : cmpI R E < 0 := by rw [cmpI, if_pos (by omega)]; decide
        have hd : decide (cmpI R E ≥ 0) = false := by simp; omega
        have HM := Lib.hid (hML.out (by omega))
        generalize cmpI R E = z at *
        clear hge hML hMM
        go_wp2_with fail
        with_reducible refine CC.out.mono ?_
        rintro e w6 ⟨rfl, kk, rfl⟩
        go_wp2_with fail
        go_roundg m
        case rel =>
          refine ⟨(m : Int) - 1, Ar, cr, nr, qs, rfl, rfl, .inl rfl, by omega, by omega, hnr, Lib.hid ?_, Lib.hid ⟨HQ.out.1, HQ.out.2.1, ?_⟩, by exact Q5.out, ?_, by exact RB5.out, ⟨B5.out.os, B5.out.tape, B5.out.output, B5.out.size, B5.out.block⟩, S35.out⟩
          · rw [HEq.out, ← HM.out.1]; exact HN.out
          · rw [HEq.out, ← HM.out.2]; exact HQ.out.2.2
          · rw [HEq.out, ← HM.out.1]; exact R5.out
        case measure => omega

set_option maxRecDepth 100000 in
set_option maxHeartbeats 1000000 in
theorem rDiv_any (A A' : Option Addr) (n c n' c' : Nat) (a b : List Int) (w : World) (hr : Row w w.heap.size A n (ints .u32 a)) (hr' : Row w w.heap.size A' n' (ints .u32 b)) (ha : Lim a) (hb : Lim b) (hc : n ≤ c) (hc2 : c ≤ 9223372036854775807) (hc' : n' ≤ c') (hc2' : c' ≤ 9223372036854775807) :
    Calls Tryd.prog 31 #[.slice A n c, .slice A' n' c'] w (DivOut w (quoL a b) (restL a b) (divE a b)) := by
  have hl := hr.1
  have hl' := hr'.1
  rw [ints_len] at hl hl'
  have HC := Lib.hid (two_any A A' n c n' c' _ a b w hr hr')
  by_cases hx : chk2 a b = 0
  · have hlen := chk2_ok hx
    have hn64 : n ≤ 64 := by have := chk_len hlen.1; omega
    have hn64' : n' ≤ 64 := by have := chk_len hlen.2; omega
    by_cases h0 : n' = 0
    · have hE : divE a b = 21 := by rw [divE, if_neg (by omega), if_pos (by omega)]
      have hL : quoL a b = [] := by rw [quoL, if_neg (by omega)]
      have hL2 : restL a b = [] := by rw [restL, if_neg (by omega)]
      rw [hE, hL, hL2]
      rw [hx] at HC
      subst h0
      clear hr hr' ha hb hx hlen hl hl' hE hL hL2
      go_enter Tryd.func31, Tryd.ntmps31
      go_wp2_with fail
      with_reducible refine HC.out.mono ?_
      rintro e w' ⟨rfl, rfl⟩
      go_wp2
      go_ret3
      exact ⟨none, 0, none, 0, rfl, World.ownsRow_nil _ _ _ _, World.ownsRow_nil _ _ _ _, Below.refl _ _⟩
    · have hE : divE a b = 0 := by rw [divE, if_neg (by omega), if_neg (by omega)]
      have hL : quoL a b = limbs (val a / val b) := by rw [quoL, if_pos hE]
      have hL2 : restL a b = limbs (val a % val b) := by rw [restL, if_pos hE]
      rw [hE, hL, hL2]
      rw [hx] at HC
      have HD := Lib.hid (rdiv_any A A' n c n' c' _ a b w hr hr' (Nat.le_refl _) ha hb (by omega) (by omega) (val_pos hb hlen.2 (by omega)) hc hc2 hc' hc2')
      have hd : ((n' : Int) == 0) = false := by simp; omega
      generalize limbs (val a / val b) = q at *
      generalize limbs (val a % val b) = r at *
      clear hr hr' ha hb hx hlen hl hl' hE hL hL2
      go_enter Tryd.func31, Tryd.ntmps31
      go_wp2_with fail
      with_reducible refine HC.out.mono ?_
      rintro e w' ⟨rfl, rfl⟩
      go_wp2_with fail
      with_reducible refine HD.out.mono ?_
      rintro e w1 ⟨A1, c1, A2, c2, rfl, o1, o2, b1⟩
      go_wp2
      go_ret3
      exact ⟨A1, c1, A2, c2, rfl, o1, o2, b1⟩
  · have hE : divE a b = chk2 a b := by rw [divE, if_pos hx]
    have hL : quoL a b = [] := by rw [quoL, hE, if_neg hx]
    have hL2 : restL a b = [] := by rw [restL, hE, if_neg hx]
    rw [hE, hL, hL2]
    have hd : (chk2 a b != 0) = true := by simpa using hx
    clear hr hr' ha hb hx hl hl' hE hL hL2
    generalize chk2 a b = x at *
    go_enter Tryd.func31, Tryd.ntmps31
    go_wp2_with fail
    with_reducible refine HC.out.mono ?_
    rintro e w' ⟨rfl, rfl⟩
    go_wp2
    go_ret3
    exact ⟨none, 0, none, 0, rfl, World.ownsRow_nil _ _ _ _, World.ownsRow_nil _ _ _ _, Below.refl _ _⟩
end Go.Proofs.YtlpfcilgndbopaaDoor
