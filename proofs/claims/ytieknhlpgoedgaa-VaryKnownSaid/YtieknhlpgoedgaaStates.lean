/- Both readers, whatever state they are in: each call's answer and what it leaves. -/
import Derived.Test.YtieknhlpgoedgaaRefReader
namespace Go.Proofs.Ytieknhlpgoedgaa
open Go.RowKit

theorem MU_all (g L B : Nat) (l : List Int) (w : World) (h : Rm w g L B l 0) :
    Calls Try.prog 26 #[.pointer (some ⟨g, 0, none⟩)] w (RmPost g L B w (rdU l).1 (rest l (rdU l).2.2 (rdU l).2.1) (rdU l).2.2) := by
  cases he : endAt l with
  | none =>
    have hall : ∀ x ∈ l, 128 ≤ x := by
      unfold endAt at he
      rw [List.findIdx?_eq_none_iff] at he
      intro x hx
      simpa using he x hx
    simp only [rdU, he]
    by_cases h8 : 8 ≤ l.length
    · simp only [if_pos h8]
      exact MU_long g L B l w h h8 (fun x hx => hall x (List.mem_of_mem_take hx))
    · simp only [if_neg h8]
      exact MU_short g L B l w h (by omega) hall
  | some i =>
    obtain ⟨z, hz, h128, hall⟩ := endAt_some he
    have hi : i < l.length := (List.getElem?_eq_some_iff.1 hz).1
    simp only [rdU, he]
    by_cases h8 : 8 ≤ i
    · simp only [if_pos h8]
      exact MU_long g L B l w h (by omega) (fun x hx => hall x (List.take_subset_take_left l h8 hx))
    · simp only [if_neg h8]
      by_cases h0 : 0 < i ∧ l[i]? = some 0
      · simp only [if_pos h0]
        have hz0 : z = 0 := by rw [hz] at h0; injection h0.2
        exact MU_zero g L B l w h i z hz (by omega) h128 hall h0.1 hz0
      · simp only [if_neg h0]
        by_cases hi0 : i = 0
        · by_cases hb : 18014398509481982 < val (l.take (i + 1))
          · simp only [if_pos hb]
            exact MU_one_big g L B l w h i z hz (by omega) h128 hall hi0 hb
          · simp only [if_neg hb]
            exact MU_one_good g L B l w h i z hz (by omega) h128 hall hi0 hb
        · have hz0 : (z == 0) = false := by
            have : z ≠ 0 := fun e => h0 ⟨by omega, by rw [hz, e]⟩
            simpa using this
          by_cases hb : 18014398509481982 < val (l.take (i + 1))
          · simp only [if_pos hb]
            exact MU_more_big g L B l w h i z hz (by omega) h128 hall (by omega) hz0 hb
          · simp only [if_neg hb]
            exact MU_more_good g L B l w h i z hz (by omega) h128 hall (by omega) hz0 hb

/-! ### The states: what is left, and the error -/
def uV (l : List Int) (x : Int) : Int := if x = 0 then (rdU l).1 else 0
def uL (l : List Int) (x : Int) : List Int := if x = 0 then (rdU l).2.1 else l
def uX (l : List Int) (x : Int) : Int := if x = 0 then (rdU l).2.2 else x

theorem rdU_left (l : List Int) (h : (rdU l).2.2 ≠ 0) : (rdU l).2.1 = [] := by
  unfold rdU at *
  cases he : endAt l with
  | none => simp only [he] at h ⊢; split <;> rfl
  | some i =>
    simp only [he] at h ⊢
    repeat' split
    all_goals simp_all
theorem uL_err {l : List Int} {x : Int} (h : x ≠ 0 → l = []) : uX l x ≠ 0 → uL l x = [] := by
  unfold uX uL
  by_cases hx : x = 0
  · simp only [if_pos hx]; exact rdU_left l
  · simp only [if_neg hx]; exact h
theorem uV_bd (l : List Int) (x : Int) : 0 ≤ uV l x ∧ uV l x ≤ 18014398509481982 := by
  unfold uV
  split
  · exact rdU_bd l
  · omega

theorem RU_st (g B : Nat) (l : List Int) (x : Int) (w : World) (h : Rd w g B l x) :
    Calls Try.prog 25 #[.pointer (some ⟨g, 0, none⟩)] w (RdPost g B w (uV l x) (uL l x) (uX l x)) := by
  unfold uV uL uX
  by_cases hx : x = 0
  · subst hx
    simp only [if_true]
    exact RU_all g B l w h
  · simp only [if_neg hx]
    refine (RU_err g B l x w h hx).mono ?_
    rintro e w' ⟨rfl, rfl⟩
    exact ⟨rfl, h, Only.refl _ _⟩

/-- The document's own reader beside it. -/
def MPost (g L B : Nat) (w : World) (v : Int) (l : List Int) (x : Int) (e : Ending) (w' : World) : Prop :=
  ∃ l', e = .returned (.int .i64 v) ∧ Rm w' g L B l' x ∧ (x = 0 → l' = l) ∧ Only g w w'

theorem MU_st (g L B : Nat) (l l2 : List Int) (x : Int) (w : World) (h : Rm w g L B l2 x) (he : x = 0 → l2 = l) :
    Calls Try.prog 26 #[.pointer (some ⟨g, 0, none⟩)] w (MPost g L B w (uV l x) (uL l x) (uX l x)) := by
  unfold uV uL uX
  by_cases hx : x = 0
  · obtain rfl := he hx
    subst hx
    simp only [if_true]
    refine (MU_all g L B l2 w h).mono ?_
    rintro e w' ⟨rfl, hr, ho⟩
    exact ⟨_, rfl, hr, fun h0 => by simp [rest, h0], ho⟩
  · simp only [if_neg hx]
    refine (MU_err g L B l2 x w h hx).mono ?_
    rintro e w' ⟨rfl, rfl⟩
    exact ⟨_, rfl, h, fun h0 => absurd h0 hx, Only.refl _ _⟩

set_option maxRecDepth 100000 in
theorem RS_st (g B : Nat) (l : List Int) (x : Int) (w : World) (h : Rd w g B l x) :
    Calls Try.prog 27 #[.pointer (some ⟨g, 0, none⟩)] w (RdPost g B w (unzz (uV l x)) (uL l x) (uX l x)) := by
  have hU := RU_st g B l x w h
  obtain ⟨b1, b2⟩ := uV_bd l x
  generalize uV l x = v at *
  generalize uL l x = l' at *
  generalize uX l x = y at *
  have HU := Lib.hid hU
  have ha := and_one b1 (by omega)
  clear hU
  by_cases hodd : v % 2 = 1
  case' pos => rw [hodd] at ha
  case' pos => have HV : Hid (unzz v = wrap64 (-((v + 1).tdiv 2))) := by
                unfold Hid unzz
                rw [if_pos hodd, Int.tdiv_eq_ediv_of_nonneg (by omega), IntWalk.wrap64_in _ (by omega)]
  case' neg => rw [show v % 2 = 0 by omega] at ha
  case' neg => have HV : Hid (unzz v = v / 2) := by
                unfold Hid unzz
                rw [if_neg hodd]
  all_goals
    clear hodd
    go_enter Try.func27, Try.ntmps27
    go_wp2_with fail
    refine HU.out.mono ?_
    rintro e w1 ⟨rfl, hrd, ho⟩
    go_wp2
    go_ret
    exact ⟨by rw [HV.out]; rfl, hrd, ho⟩

set_option maxRecDepth 100000 in
theorem MS_st (g L B : Nat) (l l2 : List Int) (x : Int) (w : World) (h : Rm w g L B l2 x) (he : x = 0 → l2 = l) :
    Calls Try.prog 28 #[.pointer (some ⟨g, 0, none⟩)] w (MPost g L B w (unzz (uV l x)) (uL l x) (uX l x)) := by
  have hU := MU_st g L B l l2 x w h he
  obtain ⟨b1, b2⟩ := uV_bd l x
  generalize uV l x = v at *
  generalize uL l x = l' at *
  generalize uX l x = y at *
  have HU := Lib.hid hU
  clear hU
  by_cases hodd : v % 2 = 1
  case' pos => have ha : (v % 2 == 1) = true := by simpa using hodd
  case' pos => have HV : Hid (unzz v = wrap64 (-((v + 1).tdiv 2))) := by
                unfold Hid unzz
                rw [if_pos hodd, Int.tdiv_eq_ediv_of_nonneg (by omega), IntWalk.wrap64_in _ (by omega)]
  case' neg => have ha : (v % 2 == 1) = false := by simpa using hodd
  case' neg => have HV : Hid (unzz v = v / 2) := by
                unfold Hid unzz
                rw [if_neg hodd]
  all_goals
    clear hodd
    go_enter Try.func28, Try.ntmps28
    go_wp2_with fail
    refine HU.out.mono ?_
    rintro e w1 ⟨l3, rfl, hrd, h0, ho⟩
    go_wp2
    go_ret
    exact ⟨l3, by rw [HV.out]; rfl, hrd, h0, ho⟩

/-! ### A text -/
def tV (l : List Int) (x most : Int) : List Int := if uX l x ≠ 0 ∨ most < uV l x ∨ ((uL l x).length : Int) < uV l x then [] else (uL l x).take (uV l x).toNat
def tL (l : List Int) (x most : Int) : List Int := if uX l x ≠ 0 then uL l x else if most < uV l x ∨ ((uL l x).length : Int) < uV l x then [] else (uL l x).drop (uV l x).toNat
def tX (l : List Int) (x most : Int) : Int := if uX l x ≠ 0 then uX l x else if most < uV l x then 5 else if ((uL l x).length : Int) < uV l x then 3 else 0

theorem tL_err {l : List Int} {x most : Int} (h : x ≠ 0 → l = []) : tX l x most ≠ 0 → tL l x most = [] := by
  have h1 := uL_err h
  unfold tX tL
  by_cases h2 : uX l x ≠ 0
  · simp only [if_pos h2]; exact h1
  · simp only [if_neg h2]
    by_cases h3 : most < uV l x
    · simp [h3]
    · by_cases h4 : ((uL l x).length : Int) < uV l x
      · simp [h4]
      · simp [h3, h4]

def RtPost (g B : Nat) (w : World) (v : List Int) (l : List Int) (x : Int) (e : Ending) (w' : World) : Prop :=
  e = .returned (.string (strOfNums v)) ∧ Rd w' g B l x ∧ Only g w w'
def MtPost (g L B : Nat) (w : World) (v : List Int) (l : List Int) (x : Int) (e : Ending) (w' : World) : Prop :=
  ∃ l', e = .returned (.string (strOfNums v)) ∧ Rm w' g L B l' x ∧ (x = 0 → l' = l) ∧ Only g w w'

theorem emptyStr : (Value.string ByteArray.empty) = .string (strOfNums []) := rfl

set_option maxRecDepth 100000 in
set_option maxHeartbeats 1000000 in
theorem RT_st (g B : Nat) (most : Int) (l : List Int) (x : Int) (w : World) (h : Rd w g B l x) :
    Calls Try.prog 29 #[.pointer (some ⟨g, 0, none⟩), .int .i64 most] w (RtPost g B w (tV l x most) (tL l x most) (tX l x most)) := by
  have hU := RU_st g B l x w h
  obtain ⟨b1, b2⟩ := uV_bd l x
  unfold tV tL tX
  generalize uV l x = v at *
  generalize uL l x = l' at *
  generalize uX l x = y at *
  have HU := Lib.hid hU
  clear hU
  by_cases hy : y ≠ 0
  · have hy' : (y != 0) = true := by simpa using hy
    simp only [hy, true_or, if_true, ne_eq, not_false_eq_true]
    clear hy
    go_enter Try.func29, Try.ntmps29
    go_wp2_with fail
    refine HU.out.mono ?_
    rintro e w1 ⟨rfl, hrd, ho⟩
    have hrd' := hrd
    obtain ⟨A1, c1, hblk, _⟩ := hrd'
    go_wp2_with fail
    refine (Err_made g _ _ _ hblk).mono ?_
    rintro e w' ⟨rfl, rfl⟩
    go_wp2
    go_ret
    exact ⟨rfl, hrd, ho⟩
  · obtain rfl : y = 0 := by omega
    by_cases hm : most < v
    · simp only [hm, true_or, or_true, if_true, if_false, ne_eq, not_true_eq_false]
      go_enter Try.func29, Try.ntmps29
      go_wp2_with fail
      refine HU.out.mono ?_
      rintro e w1 ⟨rfl, hrd, ho⟩
      obtain ⟨A1, c1, hblk, _, _, _, _, hB, _⟩ := hrd
      go_wp2_with fail
      refine (Err_made g _ _ _ hblk).mono ?_
      rintro e w' ⟨rfl, rfl⟩
      go_wp2_with fail
      refine (fail_made g _ _ _ _ _ hblk).mono ?_
      rintro e w2 ⟨rfl, ho2, hb2⟩
      go_wp2
      go_ret
      exact ⟨rfl, Rd.failed (Nat.le_trans hB ho2.size) hb2, ho.trans ho2⟩
    · by_cases hl : (l'.length : Int) < v
      · simp only [hm, hl, true_or, or_true, if_true, if_false, ne_eq, not_true_eq_false]
        go_enter Try.func29, Try.ntmps29
        go_wp2_with fail
        refine HU.out.mono ?_
        rintro e w1 ⟨rfl, hrd, ho⟩
        obtain ⟨A1, c1, hblk, _, _, _, _, hB, _⟩ := hrd
        have k1 : w1.cell? ⟨g, 1, none⟩ = some (.slice A1 l'.length c1) := hblk.cell 1
        go_wp2_with fail
        refine (Err_made g _ _ _ hblk).mono ?_
        rintro e w' ⟨rfl, rfl⟩
        go_wp2_with fail
        refine (fail_made g _ _ _ _ _ hblk).mono ?_
        rintro e w2 ⟨rfl, ho2, hb2⟩
        go_wp2
        go_ret
        exact ⟨rfl, Rd.failed (Nat.le_trans hB ho2.size) hb2, ho.trans ho2⟩
      · simp only [hm, hl, or_false, if_false, ne_eq, not_true_eq_false]
        obtain ⟨n, rfl⟩ := Int.eq_ofNat_of_zero_le b1
        simp only [Int.toNat_natCast]
        have hln : n ≤ l'.length := by omega
        go_enter Try.func29, Try.ntmps29
        go_wp2_with fail
        refine HU.out.mono ?_
        rintro e w1 ⟨rfl, hrd, ho⟩
        obtain ⟨A1, c1, hblk, hrow, hne, hlm, hlc, hB, hu⟩ := hrd
        have k1 : w1.cell? ⟨g, 1, none⟩ = some (.slice A1 l'.length c1) := hblk.cell 1
        have f1 := hblk.frozen 1
        go_wp2_with fail
        refine (Err_made g _ _ _ hblk).mono ?_
        rintro e w' ⟨rfl, rfl⟩
        have hcv := fun c => conv_row (P := Try.prog) (hrow.take hln) 23 9 5 Try.underlying23 Try.underlying5 Try.underlying9 c
        have hnc : n ≤ c1 := by omega
        go_wp2
        · have hc : c1 = n := by assumption
          go_ret
          exact ⟨rfl, Rd.drop hblk hrow hne hlm hB hu hln hlc _ _ (by omega) (.inl ⟨rfl, hc⟩), ho.trans ((Only.refl _ _).put _ _)⟩
        · go_ret
          exact ⟨rfl, Rd.drop hblk hrow hne hlm hB hu hln hlc _ _ rfl (.inr rfl), ho.trans ((Only.refl _ _).put _ _)⟩

set_option maxRecDepth 100000 in
set_option maxHeartbeats 1000000 in
theorem MT_st (g L B : Nat) (most : Int) (l l2 : List Int) (x : Int) (w : World) (h : Rm w g L B l2 x) (he : x = 0 → l2 = l) :
    Calls Try.prog 30 #[.pointer (some ⟨g, 0, none⟩), .int .i64 most] w (MtPost g L B w (tV l x most) (tL l x most) (tX l x most)) := by
  have hU := MU_st g L B l l2 x w h he
  obtain ⟨b1, b2⟩ := uV_bd l x
  unfold tV tL tX
  generalize uV l x = v at *
  generalize uL l x = l' at *
  generalize uX l x = y at *
  have HU := Lib.hid hU
  clear hU
  by_cases hy : y ≠ 0
  · have hy' : (y != 0) = true := by simpa using hy
    simp only [hy, true_or, if_true, ne_eq, not_false_eq_true]
    have HY := Lib.hid hy
    clear hy
    go_enter Try.func30, Try.ntmps30
    go_wp2_with fail
    refine HU.out.mono ?_
    rintro e w1 ⟨l3, rfl, hrm, h0, ho⟩
    have hrm' := hrm
    obtain ⟨A1, c1, hblk, _⟩ := hrm'
    have k1 : w1.cell? ⟨g, 1, none⟩ = some (.int .i64 y) := hblk.cell 1
    have H0 := Lib.hid h0
    clear h0
    go_wp2
    go_ret
    exact ⟨l3, rfl, hrm, H0.out, ho⟩
  · obtain rfl : y = 0 := by omega
    by_cases hm : most < v
    · simp only [hm, true_or, or_true, if_true, if_false, ne_eq, not_true_eq_false]
      go_enter Try.func30, Try.ntmps30
      go_wp2_with fail
      refine HU.out.mono ?_
      rintro e w1 ⟨l3, rfl, hrm, _, ho⟩
      have hrm' := hrm
      obtain ⟨A1, c1, hblk, _⟩ := hrm'
      have k1 : w1.cell? ⟨g, 1, none⟩ = some (.int .i64 0) := hblk.cell 1
      have f1 := hblk.frozen 1
      go_wp2
      go_ret
      exact ⟨l3, rfl, hrm.err, (fun h => absurd h (by decide)), ho.trans ((Only.refl _ _).put _ _)⟩
    · by_cases hl : (l'.length : Int) < v
      · simp only [hm, hl, true_or, or_true, if_true, if_false, ne_eq, not_true_eq_false]
        go_enter Try.func30, Try.ntmps30
        go_wp2_with fail
        refine HU.out.mono ?_
        rintro e w1 ⟨l3, rfl, hrm, h0, ho⟩
        obtain rfl := h0 rfl
        have hrm' := hrm
        obtain ⟨A1, c1, hblk, _⟩ := hrm'
        have k0 : w1.cell? ⟨g, 0, none⟩ = some (.slice A1 l3.length c1) := hblk.cell 0
        have k1 : w1.cell? ⟨g, 1, none⟩ = some (.int .i64 0) := hblk.cell 1
        have f1 := hblk.frozen 1
        clear h0
        go_wp2
        go_ret
        exact ⟨l3, rfl, hrm.err, (fun h => absurd h (by decide)), ho.trans ((Only.refl _ _).put _ _)⟩
      · simp only [hm, hl, or_false, if_false, ne_eq, not_true_eq_false]
        obtain ⟨n, rfl⟩ := Int.eq_ofNat_of_zero_le b1
        simp only [Int.toNat_natCast]
        have hln : n ≤ l'.length := by omega
        go_enter Try.func30, Try.ntmps30
        go_wp2_with fail
        refine HU.out.mono ?_
        rintro e w1 ⟨l3, rfl, hrm, h0, ho⟩
        obtain rfl := h0 rfl
        obtain ⟨A1, c1, hblk, hrow, hne, hlm, hlc, hB, hu⟩ := hrm
        have k0 : w1.cell? ⟨g, 0, none⟩ = some (.slice A1 l3.length c1) := hblk.cell 0
        have k1 : w1.cell? ⟨g, 1, none⟩ = some (.int .i64 0) := hblk.cell 1
        have f0 := hblk.frozen 0
        have hcv := fun c => conv_row (P := Try.prog) (hrow.take hln) 23 9 5 Try.underlying23 Try.underlying5 Try.underlying9 c
        have hnc : n ≤ c1 := by omega
        clear h0
        go_wp2
        · have hc : c1 = n := by assumption
          go_ret
          exact ⟨_, rfl, Rm.drop hblk hrow hne hlm hB hu hln hlc _ _ (by omega) (.inl ⟨rfl, hc⟩), fun _ => rfl, ho.trans ((Only.refl _ _).put _ _)⟩
        · go_ret
          exact ⟨_, rfl, Rm.drop hblk hrow hne hlm hB hu hln hlc _ _ rfl (.inr rfl), fun _ => rfl, ho.trans ((Only.refl _ _).put _ _)⟩
end Go.Proofs.Ytieknhlpgoedgaa
