/- nat.divide. -/
import Derived.Test.YtlpfcilgndbopaaDoorNDivMath
import Derived.Deep.LoopGhost
import Derived.Deep.QuietTactic
import Derived.BigQuiet
namespace Go.Proofs.YtlpfcilgndbopaaDoor
open Go.RowKit

theorem blen_bound {n k : Nat} (h : n < 2 ^ k) : blen n ≤ k := by
  by_cases h0 : n = 0
  · subst h0; rw [blen_zero]; omega
  · have h1 := blen_le h0
    have h2 : 2 ^ (blen n - 1) < 2 ^ k := Nat.lt_of_le_of_lt h1 h
    have h3 := (Nat.pow_lt_pow_iff_right (a := 2) (by omega)).1 h2
    omega
theorem blen_limbs {a : List Int} {n : Nat} (ha : Lim a) (hn : a.length = n) : blen (val a) ≤ 32 * n := by
  have := val_lt ha
  rw [hn, pow32] at this
  exact blen_bound this
theorem quiet_of_left {P : Program} {f : FuncId} {args : Array Value} {w : World} {n : Nat} {v : Value}
    (h : Calls P f args (w.drewN n) fun e w' => e = .returned v ∧ w.drewN n = w') : Calls P f args (w.drewN n) fun e w'' => e = .returned v ∧ ∃ m, w'' = w.drewN m :=
  h.mono fun _ _ ⟨he, hm⟩ => ⟨he, n, hm.symm⟩
theorem and_bit {x : Int} (t : Nat) (h : 0 ≤ x ∧ x ≤ 4294967295) : bits .and .u32 (x / 2 ^ t) 1 = ((x.toNat / 2 ^ t % 2 : Nat) : Int) := by
  obtain ⟨v, rfl⟩ := Int.eq_ofNat_of_zero_le h.1
  have h1 : (v : Int) / 2 ^ t = ((v / 2 ^ t : Nat) : Int) := by
    rw [Int.natCast_ediv, Int.natCast_pow]; rfl
  have h2 : v / 2 ^ t < 4294967296 := Nat.lt_of_le_of_lt (Nat.div_le_self _ _) (by omega)
  have h3 := Nat.and_two_pow_sub_one_eq_mod (v / 2 ^ t) 1
  simp only [Nat.pow_one, Nat.add_one_sub_one] at h3
  rw [h1, show (1 : Int) = ((1 : Nat) : Int) from rfl, and32 _ _ h2 (by omega), Int.toNat_natCast]
  exact congrArg _ h3
theorem ints_set32 (y : List Int) (q : Nat) (v : Int) : (ints .u32 y).set q (.int .u32 v) = ints .u32 (y.set q v) := by simp [ints, List.map_set]
/-- trim of what the call owns: the world stays. -/
theorem trim_own (g n c base : Nat) (a : List Int) (w : World) (hown : w.ownsRow base 34 1 (.slice (some ⟨g, 0, none⟩) n c) n (ints .u32 a)) (hlim : Lim a) (hn : n ≤ c) (hc : c ≤ 9223372036854775807) :
    Calls Tryd.prog 45 #[.slice (some ⟨g, 0, none⟩) n c] w fun e w' => e = .returned (.slice (some ⟨g, 0, none⟩) (limbs (val a)).length c) ∧ w = w' ∧ w.ownsRow base 34 1 (.slice (some ⟨g, 0, none⟩) (limbs (val a)).length c) (limbs (val a)).length (ints .u32 (limbs (val a))) := by
  have hl := hown.1
  rw [ints_len, Nat.mul_one] at hl
  refine (trim_any g 0 n c w.heap.size a w (Row.own hown) hlim (by omega) hn hc).mono ?_
  rintro e w' ⟨rfl, ht, rfl⟩
  have hk : (limbs (val a)).length ≤ n := by
    have := congrArg List.length ht
    rw [List.length_take] at this
    omega
  refine ⟨rfl, rfl, ?_⟩
  have := own_cut hown hk
  rw [ints_take, ← ht] at this
  exact this
set_option maxRecDepth 100000 in
set_option maxHeartbeats 2000000 in
theorem divide_any (A A' : Option Addr) (n c n' c' B : Nat) (a b : List Int) (w : World) (hr : Row w B A n (ints .u32 a)) (hr' : Row w B A' n' (ints .u32 b)) (hB : B ≤ w.heap.size) (ha : Lim a) (hb : Lim b) (hta : Top a) (htb : Top b) (hn : n ≤ 1000) (hn' : n' ≤ 1000) (hD : 0 < val b) :
    Calls Tryd.prog 56 #[.slice A n c, .slice A' n' c'] w fun e w' => ∃ A1 c1 A2 c2, e = .returned (.tuple #[.slice A1 (limbs (val a / val b)).length c1, .slice A2 (limbs (val a % val b)).length c2]) ∧
      w'.ownsRow w.heap.size 34 1 (.slice A1 (limbs (val a / val b)).length c1) (limbs (val a / val b)).length (ints .u32 (limbs (val a / val b))) ∧
      w'.ownsRow w.heap.size 34 1 (.slice A2 (limbs (val a % val b)).length c2) (limbs (val a % val b)).length (ints .u32 (limbs (val a % val b))) ∧ Below w.heap.size w w' := by
  obtain ⟨i0, hi, hz0, hz1, hz2⟩ := u32_parts
  have hla := hr.1
  rw [ints_len] at hla
  have hlb := hr'.1
  rw [ints_len] at hlb
  have HR := Lib.hid hr
  have HR' := Lib.hid hr'
  have HA := Lib.hid ha
  have HBb := Lib.hid hb
  have HLA := Lib.hid hla
  have HLB := Lib.hid hlb
  have HT := Lib.hid (And.intro hta htb)
  have HDp := Lib.hid hD
  clear hr hr' ha hb hla hlb hta htb hD
  go_enter Tryd.func56, Tryd.ntmps56
  go_wp2
  go_step3
  go_wp2_with (refine wpList_make_full _ rfl (.tmp 12) (.tmp 12) 22 rfl w.heap.size 34 i0 (.int .u32 0) 1 Tryd.underlying22 hi hz0 hz1 .i64 .i64 _ _ n rfl rfl (by omega) (by omega) (by rw [hz2]; omega) (by unfold maxLen; omega) (Nat.le_refl _) ?_)
  intro w1 hq1 hg1
  rw [made32] at hq1
  have hb1 : Below w.heap.size w w1 := (Below.refl _ _).grown hg1 (Nat.le_refl _) (by simp)
  obtain ⟨g, hg⟩ : ∃ g, g = w.heap.size := ⟨_, rfl⟩
  have hgw : g < w1.heap.size := (hq1.lt w.heap.size (by simp [Value.ownBlock])).2 |> fun h => by rw [hg]; exact h
  have HG := Lib.hid hg
  rw [← hg] at hq1 ⊢
  clear hg hg1
  go_wp2_with (refine wpList_make_full _ rfl (.tmp 16) (.tmp 16) 22 rfl w.heap.size 34 i0 (.int .u32 0) 1 Tryd.underlying22 hi hz0 hz1 .i64 .i64 _ _ (n' + 1) rfl rfl (by omega) (by omega) (by rw [hz2]; omega) (by unfold maxLen; omega) hb1.size ?_)
  intro w2 hq2 hg2
  rw [made32] at hq2
  have hb2 : Below w.heap.size w w2 := hb1.grown hg2 hb1.size (by simp)
  obtain ⟨h, hh⟩ : ∃ h, h = w1.heap.size := ⟨_, rfl⟩
  have hgh : g < h := by omega
  have hq1' := hq1.kept hg2 (.inr (by simp [Value.ownBlock]))
  rw [← hh] at hq2 ⊢
  have HQ1 : Hid (w2.ownsRow w.heap.size 34 1 (.slice (some ⟨g, 0, none⟩) n n) n (ints .u32 ([] ++ List.replicate n 0))) := Lib.hid (by have h0 := HG.out; rw [← h0]; exact hq1')
  have HQ2 := Lib.hid hq2
  have hhw : w.heap.size ≤ h := by rw [hh]; exact hb1.size
  have HGle : Hid (w.heap.size ≤ g ∧ w.heap.size ≤ h) := Lib.hid ⟨Nat.le_of_eq HG.out.symm, hhw⟩
  clear hh hg2 hq1 hq1' hq2 hb1
  have HB2 := Lib.hid hb2
  obtain ⟨x, hx⟩ : ∃ x, blen (val b) = x + 1 := ⟨blen (val b) - 1, by have := blen_le (n := val b) (by have := HDp.out; omega); have := blen_pos (n := val b) (by have := HDp.out; omega); omega⟩
  obtain ⟨y, hy⟩ : ∃ y, blen (val a) = y := ⟨_, rfl⟩
  have cb : Calls Tryd.prog 76 #[.slice A' n' c'] w2 fun e w' => e = .returned (.int .i64 ((x + 1 : Nat) : Int)) ∧ w2 = w' := by
    have := bitLen_any A' n' c' B b w2 (HR'.out.below (hb2.mono hB)) HBb.out HT.out.2 (by omega)
    rwa [hx] at this
  have ca : Calls Tryd.prog 76 #[.slice A n c] w2 fun e w' => e = .returned (.int .i64 (y : Int)) ∧ w2 = w' := by
    have := bitLen_any A n c B a w2 (HR.out.below (hb2.mono hB)) HA.out HT.out.1 (by omega)
    rwa [hy] at this
  have CB := Lib.hid cb
  have CA := Lib.hid ca
  have HX := Lib.hid (And.intro hx hy)
  have hyb := blen_limbs HA.out HLA.out
  have hxb := blen_limbs HBb.out HLB.out
  rw [hy] at hyb
  rw [hx] at hxb
  have cf : Calls Tryd.prog 77 #[.slice (some ⟨h, 0, none⟩) (n' + 1) (n' + 1), .slice A n c, .int .i64 (max ((y : Int) - (x : Int)) 0)] w2 fun e w' => e = .returned (.tuple #[]) ∧ ∃ s, s.length = n' + 1 ∧ Lim s ∧ val s = val a / 2 ^ (y - x) % 4294967296 ^ (n' + 1) ∧ w'.ownsRow w.heap.size 34 1 (.slice (some ⟨h, 0, none⟩) (n' + 1) (n' + 1)) (n' + 1) (ints .u32 s) ∧ w2.grownBy w' (some h) := by
    rw [show max ((y : Int) - (x : Int)) 0 = ((y - x : Nat) : Int) by omega]
    exact fill_any h (n' + 1) (n' + 1) w.heap.size B A n c (y - x) _ a w2 HQ2.out (HR.out.below (hb2.mono hB)) hB (by have := hb2.size; omega) HGle.out.2 HA.out (by omega) (by omega)
  have CF := Lib.hid cf
  clear cb ca cf hx hy hb2
  go_wp2_with fail
  with_reducible refine CB.out.mono ?_
  rintro e w3 ⟨rfl, rfl⟩
  go_wp2_with fail
  with_reducible refine CA.out.mono ?_
  rintro e w3 ⟨rfl, rfl⟩
  go_wp2_with fail
  with_reducible refine CF.out.mono ?_
  rintro e w3 ⟨rfl, rs, hrl, hrlim, hrv, hown2, hg3⟩
  have hown1 := HQ1.out.kept hg3 (.inr (by simp [Value.ownBlock]; omega))
  have hb3 : Below w.heap.size w w3 := HB2.out.grown hg3 HB2.out.size (by simp; exact HGle.out.2)
  have hAy : Hid (val a < 2 ^ y) := Lib.hid (by have := blen_lt (val a); rwa [HX.out.2] at this)
  have HRS : Hid (rs.length = n' + 1 ∧ Lim rs ∧ val rs = val a / 2 ^ (y - x) % val b) := Lib.hid ⟨hrl, hrlim, by
    have h1 : val a < 2 ^ (y - x + (blen (val b) - 1)) := by
      rw [HX.out.1]
      exact Nat.lt_of_lt_of_le hAy.out (Nat.pow_le_pow_right (by omega) (by omega))
    have h2 := div_first HDp.out h1
    have h3 := val_lt HBb.out
    rw [HLB.out] at h3
    have h4 : 4294967296 ^ n' ≤ 4294967296 ^ (n' + 1) := Nat.pow_le_pow_right (by omega) (by omega)
    rw [hrv, Nat.mod_eq_of_lt (by omega), h2.2.1]⟩
  have HQS : Hid (([] ++ List.replicate n (0 : Int)).length = n ∧ Lim ([] ++ List.replicate n (0 : Int)) ∧ val ([] ++ List.replicate n (0 : Int)) = val a / 2 ^ (y - x) / val b * 2 ^ (y - x)) := Lib.hid ⟨by simp, by rw [List.nil_append]; exact Lim.zeros n, by
    have h1 : val a < 2 ^ (y - x + (blen (val b) - 1)) := by
      rw [HX.out.1]
      exact Nat.lt_of_lt_of_le hAy.out (Nat.pow_le_pow_right (by omega) (by omega))
    rw [(div_first HDp.out h1).2.2, List.nil_append, val_zeros]⟩
  generalize [] ++ List.replicate n (0 : Int) = qs at *
  clear hrl hrlim hrv hg3 HQ1 HQ2 HB2 CF
  go_wp2
  go_step3
  have ca3 : Calls Tryd.prog 76 #[.slice A n c] w3 fun e w' => e = .returned (.int .i64 (y : Int)) ∧ w3 = w' := by
    have := bitLen_any A n c B a w3 (HR.out.below (hb3.mono hB)) HA.out HT.out.1 (by omega)
    rwa [HX.out.2] at this
  have CA3 := Lib.hid ca3
  clear ca3
  go_wp2_with fail
  with_reducible refine CA3.out.mono ?_
  rintro e w4 ⟨rfl, rfl⟩
  clear CA3 CA CB
  go_wp2_with fail
  go_loopg [7] (y - x) (fun m s7 wx => ∃ (i : Int) (qs rs : List Int), s7 = .int .i64 i ∧ (i = (m : Int) - 1 ∨ (m = 0 ∧ i < 0)) ∧ -100000 ≤ i ∧ m ≤ y ∧
    Hid (rs.length = n' + 1 ∧ Lim rs ∧ val rs = val a / 2 ^ m % val b) ∧ Hid (qs.length = n ∧ Lim qs ∧ val qs = val a / 2 ^ m / val b * 2 ^ m) ∧
    wx.ownsRow w.heap.size 34 1 (.slice (some ⟨g, 0, none⟩) n n) n (ints .u32 qs) ∧ wx.ownsRow w.heap.size 34 1 (.slice (some ⟨h, 0, none⟩) (n' + 1) (n' + 1)) (n' + 1) (ints .u32 rs) ∧ Below w.heap.size w wx)
  case atStart => exact ⟨(y : Int) - (x : Int) - 1, qs, rs, rfl, by omega, by omega, by omega, HRS, HQS, hown1, hown2, hb3⟩
  case round =>
    obtain ⟨i, qs1, rs1, rfl, hik, hi0, hmy, HR1, HQ1, ho1, ho2, hbw⟩ := hrel
    rename World => wr
    cases gk with
    | zero =>
      have hneg : i < 0 := by omega
      have hd : decide (i ≥ 0) = false := by simp; omega
      have HR1' : Hid (val rs1 = val a % val b) := Lib.hid (by have := HR1.out.2.2; rwa [Nat.pow_zero, Nat.div_one] at this)
      have HQ1' : Hid (val qs1 = val a / val b) := Lib.hid (by have := HQ1.out.2.2; rwa [Nat.pow_zero, Nat.div_one, Nat.mul_one] at this)
      have HT1 := Lib.hid (trim_own g n n _ qs1 wr ho1 HQ1.out.2.1 (Nat.le_refl _) (by omega))
      have HT2 := Lib.hid (trim_own h (n' + 1) (n' + 1) _ rs1 wr ho2 HR1.out.2.1 (Nat.le_refl _) (by omega))
      rw [HQ1'.out] at HT1
      rw [HR1'.out] at HT2
      clear hik ho1 ho2
      go_wp2_with fail
      with_reducible refine HT1.out.mono ?_
      rintro e w5 ⟨rfl, rfl, t1⟩
      go_wp2_with fail
      with_reducible refine HT2.out.mono ?_
      rintro e w6 ⟨rfl, rfl, t2⟩
      go_wp2
      try rw [Exit.noGoto_ret]
      go_ret2
      exact ⟨_, _, _, _, rfl, t1, t2, hbw⟩
    | succ m =>
      obtain rfl : i = (m : Int) := by omega
      have hm32 : m / 32 < n := by omega
      obtain ⟨ba, oa, rfl, hbaB, hca⟩ := (HR.out.below (hbw.mono hB)).2 (by omega)
      obtain ⟨xa, hxa⟩ : ∃ xa, a.getD (m / 32) 0 = xa := ⟨_, rfl⟩
      have hcell := (hca (m / 32) hm32).trans (ints_get .u32 a (m / 32) (by have := HLA.out; omega))
      rw [hxa] at hcell
      have hxl := HA.out.at (m / 32)
      rw [hxa] at hxl
      have hbv := bit_val HA.out m
      rw [hxa] at hbv
      have HBV := Lib.hid hbv
      have hm0 : (0 : Int) ≤ (m : Int) := by omega
      have hmn : (m : Int) / 32 < (n : Int) := by omega
      have hmn0 : (0 : Int) ≤ (m : Int) / 32 := by omega
      obtain ⟨hx0, hx1⟩ := hxl
      have HB := Lib.hid hbw
      have HO1 := Lib.hid ho1
      have HO2 := Lib.hid ho2
      have cS : Calls Tryd.prog 78 #[.slice (some ⟨h, 0, none⟩) (n' + 1) (n' + 1), .int .u32 (bits .and .u32 (xa / 2 ^ (m % 32)) 1)] wr fun e w' => e = .returned (.tuple #[]) ∧ ∃ s, s.length = n' + 1 ∧ Lim s ∧ val s = 2 * (val a / 2 ^ (m + 1) % val b) + val a / 2 ^ m % 2 ∧ w'.ownsRow w.heap.size 34 1 (.slice (some ⟨h, 0, none⟩) (n' + 1) (n' + 1)) (n' + 1) (ints .u32 s) ∧ wr.grownBy w' (some h) := by
        rw [and_bit (m % 32) ⟨hx0, hx1⟩, hbv]
        have h1 : val rs1 < val b := by rw [HR1.out.2.2]; exact Nat.mod_lt _ HDp.out
        have h2 := val_lt HBb.out
        rw [HLB.out] at h2
        have h3 : 4294967296 ^ (n' + 1) = 4294967296 ^ n' * 4294967296 := Nat.pow_succ ..
        have := shift_any h (n' + 1) (n' + 1) w.heap.size rs1 ((val a / 2 ^ m % 2 : Nat) : Int) wr ho2 HR1.out.2.1 (by omega) (by omega) (by rw [Int.toNat_natCast]; omega)
        rw [Int.toNat_natCast, HR1.out.2.2] at this
        exact this
      have CS := Lib.hid cS
      clear hca hxa hbv hik ho1 ho2 hbw cS
      go_wp2_with fail
      with_reducible refine CS.out.mono ?_
      rintro e w5 ⟨rfl, s, hsl, hslim, hsv, hown5, hg5⟩
      have HO15 := Lib.hid (HO1.out.kept hg5 (.inr (by simp [Value.ownBlock]; omega)))
      have HB5 := Lib.hid (HB.out.grown hg5 HB.out.size (by simp; exact HGle.out.2))
      have HS := Lib.hid (And.intro hsl (And.intro hslim hsv))
      have HO5 := Lib.hid hown5
      clear HO1 HO2 HB hsl hslim hsv hown5 hg5 CS hcell
      have HRb : Hid (Row w5 B A' n' (ints .u32 b)) := Lib.hid (HR'.out.below (HB5.out.mono hB))
      have HBw : Hid (B ≤ w5.heap.size) := Lib.hid (Nat.le_trans hB HB5.out.size)
      have HBL : Hid (low b (n' + 1) = val b) := Lib.hid (low_all (by have := HLB.out; omega))
      have HO5q : Hid (∀ q, (w5.drewN q).ownsRow w.heap.size 34 1 (.slice (some ⟨h, 0, none⟩) (n' + 1) (n' + 1)) (n' + 1) (ints .u32 s)) := Lib.hid (fun q => HO5.out)
      have HRbq : Hid (∀ q, Row (w5.drewN q) B A' n' (ints .u32 b)) := Lib.hid (fun q => HRb.out)
      have HBwq : Hid (∀ q, B ≤ (w5.drewN q).heap.size) := Lib.hid (fun q => HBw.out)
      go_wp2_with fail
      go_loopg [8, 9, 10] (n' + 1) (fun t s8 s9 s10 wx => ∃ q : Nat, s8 = .int .i64 ((t : Int) - 1) ∧ t ≤ n' + 1 ∧ Hid (∀ u, t ≤ u → s.getD u 0 = b.getD u 0) ∧ wx = w5.drewN q)
      case atStart =>
        refine ⟨0, by go_num, Nat.le_refl _, Lib.hid (fun u hu => ?_), rfl⟩
        rw [List.getD_eq_getElem?_getD, List.getElem?_eq_none (by have := HS.out.1; omega), List.getD_eq_getElem?_getD, List.getElem?_eq_none (by have := HLB.out; omega)]
      case round =>
        obtain ⟨q, rfl, htn, HE, rfl⟩ := hrel
        cases gk with
        | zero =>
          have hge : Hid (val b ≤ val s) := Lib.hid (by
            have h1 := low_same (a := s) (b := b) (n' + 1) (fun j _ => HE.out j (Nat.zero_le _))
            rw [low_all (by have := HS.out.1; omega), low_all (by have := HLB.out; omega)] at h1
            omega)
          go_wp2_with fail
          with_reducible refine (subtract_any h (n' + 1) (n' + 1) w.heap.size B A' n' c' s b _ (HO5q.out _) (HRbq.out _) hB (HBwq.out _) HGle.out.2 HS.out.2.1 HBb.out (by omega) HBL.out hge.out).mono ?_
          rintro e w7 ⟨rfl, rs2, hl2, hlim2, hv2, hown7, hg7⟩
          have hq7 : w7.ownsRow w.heap.size 34 1 (.slice (some ⟨g, 0, none⟩) n n) n (ints .u32 qs1) := World.ownsRow.kept (w := w5) HO15.out (row := some h) ⟨hg7.os, hg7.tape, hg7.output, hg7.size, hg7.block⟩ (.inr (by simp [Value.ownBlock]; omega))
          have hb7 : Below w.heap.size w w7 := HB5.out.grown (w' := w7) (row := some h) ⟨hg7.os, hg7.tape, hg7.output, hg7.size, hg7.block⟩ HB5.out.size (by simp; exact HGle.out.2)
          obtain ⟨z, hz⟩ : ∃ z, qs1.getD (m / 32) 0 = z := ⟨_, rfl⟩
          have hcellq := (hq7.cellAt (m / 32) (by omega)).trans (ints_get .u32 qs1 (m / 32) (by have := HQ1.out.1; omega))
          rw [hz] at hcellq
          have hfz := hq7.frozenAt (m / 32)
          have HQS := Lib.hid (quo_set (k := m) (c := val a / 2 ^ (m + 1) / val b) HQ1.out.2.1 (by have := HQ1.out.1; omega) HQ1.out.2.2 hz)
          have hz0 := HQS.out.1
          have hz1 := HQS.out.2.1
          have HR2 := Lib.hid (And.intro hl2 (And.intro hlim2 hv2))
          have HO7 := Lib.hid hown7
          have HQ7 := Lib.hid hq7
          have HB7 := Lib.hid hb7
          have HM := Lib.hid (div_more (A := val a) (D := val b) (m := m + 1) (k := m) HDp.out rfl rfl (by have := hge.out; rw [HS.out.2.2] at this; exact this))
          obtain ⟨qi, hqi⟩ : ∃ qi, m / 32 = qi := ⟨_, rfl⟩
          obtain ⟨ri, hri⟩ : ∃ ri, m % 32 = ri := ⟨_, rfl⟩
          have hqn : qi < n := by omega
          have t1 : (m : Int).tdiv 32 = (qi : Int) := by rw [Int.tdiv_eq_ediv_of_nonneg (by omega)]; omega
          have t2 : (m : Int).tmod 32 = (ri : Int) := by rw [Int.tmod_eq_emod_of_nonneg (by omega)]; omega
          have t3 : (m : Int) / 32 = (qi : Int) := by omega
          have t4 : (m : Int) % 32 = (ri : Int) := by omega
          have hwq : IntKind.i64.wrap (qi : Int) = (qi : Int) := by rw [IntKind.wrap_i64]; omega
          have hwr : IntKind.i64.wrap (ri : Int) = (ri : Int) := by rw [IntKind.wrap_i64]; omega
          have hq0 : (0 : Int) ≤ (qi : Int) := by omega
          have hq1 : (qi : Int) < (n : Int) := by omega
          have hr0 : (0 : Int) ≤ (ri : Int) := by omega
          have hr1 : (ri : Int) < 32 := by omega
          rw [hqi, hri] at HQS
          obtain ⟨P, hP⟩ : ∃ P : Nat, 2 ^ ri = P := ⟨_, rfl⟩
          rw [hP] at HQS
          clear hP
          rw [hqi] at hcellq hfz
          clear hl2 hlim2 hv2 hown7 hg7 hq7 hb7 hz hmn hmn0
          go_wp2_with fail
          go_region_with fail
          rw [HQS.out.2.2.1]
          go_wp2_with fail
          go_roundg m
          case rel =>
            refine ⟨(m : Int) - 1, qs1.set qi (z + (P : Int)), rs2, rfl, .inl rfl, by omega, by omega, Lib.hid ⟨HR2.out.1, HR2.out.2.1, ?_⟩, Lib.hid ⟨by rw [List.length_set]; exact HQ1.out.1, lim_set HQ1.out.2.1 (Int.add_nonneg HQS.out.1 (Int.natCast_nonneg _)) HQS.out.2.2.2.1, ?_⟩, ?_, ?_, ?_⟩
            · rw [HR2.out.2.2, HS.out.2.2]; exact HM.out.1
            · rw [HQS.out.2.2.2.2, HQ1.out.2.2]; exact HM.out.2
            · rw [← ints_set32]; exact (HQ7.out.stored qi _).1
            · have hk := HO7.out.kept (HQ7.out.stored qi (.int .u32 (z + (P : Int)))).2 (.inr (by simp [Value.ownBlock]; omega))
              exact hk
            · exact (HB7.out.grown (row := some g) (HQ7.out.stored qi (.int .u32 (z + (P : Int)))).2 HB7.out.size (by simp; exact HGle.out.1)).drew
          case measure => omega
        | succ t =>
          rw [show (((t + 1 : Nat) : Int) - 1) = (t : Int) by omega]
          obtain ⟨xs, hxs⟩ : ∃ v, s.getD t 0 = v := ⟨_, rfl⟩
          obtain ⟨ys, hys⟩ : ∃ v, b.getD t 0 = v := ⟨_, rfl⟩
          have hcell : w5.cell? ⟨h, t, none⟩ = some (.int .u32 xs) := by
            have := (HO5.out.cellAt t (by omega)).trans (ints_get .u32 s t (by have := HS.out.1; omega))
            rw [hxs] at this
            exact this
          have HXS := Lib.hid hxs
          have HYS := Lib.hid hys
          have hrow : Row w5 B A' n' (ints .u32 b) := HR'.out.below (HB5.out.mono hB)
          have HRow := Lib.hid hrow
          have ht0 : (0 : Int) ≤ (t : Int) := by omega
          have ht1 : (t : Int) < (n' : Int) + 1 := by omega
          have cL : Calls Tryd.prog 44 #[.slice A' n' c', .int .i64 t] (w5.drewN q).drew fun e w' => e = .returned (.int .u32 ys) ∧ (w5.drewN q).drew = w' := limb_at A' n' c' B b t ys _ (by exact hrow) (by omega) HYS
          have CL := Lib.hid cL
          have htri : xs < ys ∨ ys < xs ∨ xs = ys := by omega
          clear hxs hys hrow cL
          rcases htri with hlt | hgt | heq
          · have hlt2 : Hid (val s < val b) := Lib.hid (by
              have h1 := low_less HS.out.2.1 HBb.out t (by rw [HXS.out, HYS.out]; exact hlt) (n' + 1) (by omega) (fun u hu => HE.out u (by omega))
              rw [low_all (by have := HS.out.1; omega), low_all (by have := HLB.out; omega)] at h1
              exact h1)
            have HM := Lib.hid (div_less (A := val a) (D := val b) (m := m + 1) (k := m) HDp.out rfl rfl (by have := hlt2.out; rw [HS.out.2.2] at this; exact this))
            go_wp2_with fail
            go_region_with (first
              | (go_at_call 44
                 refine CL.out.mono ?_
                 rintro e w' ⟨rfl, rfl⟩))
            all_goals
              go_wp2_with fail
              go_roundg m
              case rel =>
                refine ⟨(m : Int) - 1, qs1, s, rfl, .inl rfl, by omega, by omega, Lib.hid ⟨HS.out.1, HS.out.2.1, ?_⟩, Lib.hid ⟨HQ1.out.1, HQ1.out.2.1, ?_⟩, by exact HO15.out, by exact HO5.out, ⟨HB5.out.os, HB5.out.tape, HB5.out.output, HB5.out.size, HB5.out.block⟩⟩
                · rw [HS.out.2.2]; exact HM.out.1
                · rw [HQ1.out.2.2]; exact HM.out.2
              case measure => omega
          · have hge : Hid (val b ≤ val s) := Lib.hid (by
              have h1 := low_less HBb.out HS.out.2.1 t (by rw [HXS.out, HYS.out]; exact hgt) (n' + 1) (by omega) (fun u hu => (HE.out u (by omega)).symm)
              rw [low_all (a := b) (by have := HLB.out; omega), low_all (a := s) (by have := HS.out.1; omega)] at h1
              omega)
            go_wp2_with fail
            go_region_with (first
              | (go_at_call 44
                 refine CL.out.mono ?_
                 rintro e w' ⟨rfl, rfl⟩))
            all_goals
              go_wp2_with fail
              with_reducible refine (subtract_any h (n' + 1) (n' + 1) w.heap.size B A' n' c' s b _ (HO5q.out _) (HRbq.out _) hB (HBwq.out _) HGle.out.2 HS.out.2.1 HBb.out (by omega) HBL.out hge.out).mono ?_
              rintro e w7 ⟨rfl, rs2, hl2, hlim2, hv2, hown7, hg7⟩
              have hq7 : w7.ownsRow w.heap.size 34 1 (.slice (some ⟨g, 0, none⟩) n n) n (ints .u32 qs1) := World.ownsRow.kept (w := w5) HO15.out (row := some h) ⟨hg7.os, hg7.tape, hg7.output, hg7.size, hg7.block⟩ (.inr (by simp [Value.ownBlock]; omega))
              have hb7 : Below w.heap.size w w7 := HB5.out.grown (w' := w7) (row := some h) ⟨hg7.os, hg7.tape, hg7.output, hg7.size, hg7.block⟩ HB5.out.size (by simp; exact HGle.out.2)
              obtain ⟨z, hz⟩ : ∃ z, qs1.getD (m / 32) 0 = z := ⟨_, rfl⟩
              have hcellq := (hq7.cellAt (m / 32) (by omega)).trans (ints_get .u32 qs1 (m / 32) (by have := HQ1.out.1; omega))
              rw [hz] at hcellq
              have hfz := hq7.frozenAt (m / 32)
              have HQS := Lib.hid (quo_set (k := m) (c := val a / 2 ^ (m + 1) / val b) HQ1.out.2.1 (by have := HQ1.out.1; omega) HQ1.out.2.2 hz)
              have hz0 := HQS.out.1
              have hz1 := HQS.out.2.1
              have HR2 := Lib.hid (And.intro hl2 (And.intro hlim2 hv2))
              have HO7 := Lib.hid hown7
              have HQ7 := Lib.hid hq7
              have HB7 := Lib.hid hb7
              have HM := Lib.hid (div_more (A := val a) (D := val b) (m := m + 1) (k := m) HDp.out rfl rfl (by have := hge.out; rw [HS.out.2.2] at this; exact this))
              obtain ⟨qi, hqi⟩ : ∃ qi, m / 32 = qi := ⟨_, rfl⟩
              obtain ⟨ri, hri⟩ : ∃ ri, m % 32 = ri := ⟨_, rfl⟩
              have hqn : qi < n := by omega
              have t1 : (m : Int).tdiv 32 = (qi : Int) := by rw [Int.tdiv_eq_ediv_of_nonneg (by omega)]; omega
              have t2 : (m : Int).tmod 32 = (ri : Int) := by rw [Int.tmod_eq_emod_of_nonneg (by omega)]; omega
              have t3 : (m : Int) / 32 = (qi : Int) := by omega
              have t4 : (m : Int) % 32 = (ri : Int) := by omega
              have hwq : IntKind.i64.wrap (qi : Int) = (qi : Int) := by rw [IntKind.wrap_i64]; omega
              have hwr : IntKind.i64.wrap (ri : Int) = (ri : Int) := by rw [IntKind.wrap_i64]; omega
              have hq0 : (0 : Int) ≤ (qi : Int) := by omega
              have hq1 : (qi : Int) < (n : Int) := by omega
              have hr0 : (0 : Int) ≤ (ri : Int) := by omega
              have hr1 : (ri : Int) < 32 := by omega
              rw [hqi, hri] at HQS
              obtain ⟨P, hP⟩ : ∃ P : Nat, 2 ^ ri = P := ⟨_, rfl⟩
              rw [hP] at HQS
              clear hP
              rw [hqi] at hcellq hfz
              clear hl2 hlim2 hv2 hown7 hg7 hq7 hb7 hz hmn hmn0
              go_wp2_with fail
              go_region_with fail
              rw [HQS.out.2.2.1]
              go_wp2_with fail
              go_roundg m
              case rel =>
                refine ⟨(m : Int) - 1, qs1.set qi (z + (P : Int)), rs2, rfl, .inl rfl, by omega, by omega, Lib.hid ⟨HR2.out.1, HR2.out.2.1, ?_⟩, Lib.hid ⟨by rw [List.length_set]; exact HQ1.out.1, lim_set HQ1.out.2.1 (Int.add_nonneg HQS.out.1 (Int.natCast_nonneg _)) HQS.out.2.2.2.1, ?_⟩, ?_, ?_, ?_⟩
                · rw [HR2.out.2.2, HS.out.2.2]; exact HM.out.1
                · rw [HQS.out.2.2.2.2, HQ1.out.2.2]; exact HM.out.2
                · rw [← ints_set32]; exact (HQ7.out.stored qi _).1
                · have hk := HO7.out.kept (HQ7.out.stored qi (.int .u32 (z + (P : Int)))).2 (.inr (by simp [Value.ownBlock]; omega))
                  exact hk
                · exact (HB7.out.grown (row := some g) (HQ7.out.stored qi (.int .u32 (z + (P : Int)))).2 HB7.out.size (by simp; exact HGle.out.1)).drew
              case measure => omega
          · subst heq
            have HE2 : Hid (∀ u, t ≤ u → s.getD u 0 = b.getD u 0) := Lib.hid (fun u hu => by
              by_cases hut : u = t
              · subst hut; rw [HXS.out, HYS.out]
              · exact HE.out u (by omega))
            go_wp2_with fail
            go_region_with (first
              | (go_at_call 44
                 refine CL.out.mono ?_
                 rintro e w' ⟨rfl, rfl⟩))
            all_goals
              go_wp2_with fail
              go_roundg t
              case rel => exact ⟨q + 1, by go_num, by omega, HE2, rfl⟩
              case measure => omega
end Go.Proofs.YtlpfcilgndbopaaDoor
