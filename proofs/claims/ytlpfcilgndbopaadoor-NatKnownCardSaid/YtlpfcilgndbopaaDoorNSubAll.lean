/- slices.Clone of limbs; nat.Sub. -/
import Derived.Test.YtlpfcilgndbopaaDoorNSubt
import Derived.Lib.SliceRun
namespace Go.Proofs.YtlpfcilgndbopaaDoor
open Go.RowKit

theorem Clone32_any (A : Option Addr) (n c B : Nat) (a : List Int) (w : World) (hr : Row w B A n (ints .u32 a)) (hB : B ≤ w.heap.size) (hn : n ≤ 50000000000000) :
    Calls Tryd.prog 49 #[.slice A n c] w (New w a) := by
  obtain ⟨i0, hi, hz0, hz1, hz2⟩ := u32_parts
  have hl := hr.1
  rw [ints_len] at hl
  subst hl
  rcases A with _ | p
  · have hnil : a = [] := by
      rcases Nat.eq_zero_or_pos a.length with h0 | h0
      · exact List.eq_nil_of_length_eq_zero h0
      · obtain ⟨_, _, he, _⟩ := hr.2 h0
        cases he
    subst hnil
    have hq := Lib.run_eql_slice_nil (P := Tryd.prog)
    go_enter Tryd.func49, Tryd.ntmps49
    go_wp2
    go_ret
    exact ⟨none, 0, rfl, World.ownsRow_nil _ _ _ _, Below.refl _ _⟩
  · have hq := fun (w : World) (n c : Nat) => Lib.run_eql_slice_nil (P := Tryd.prog) w 22 34 (some p) n c 0 0 Tryd.underlying22
    go_enter Tryd.func49, Tryd.ntmps49
    go_wp2_with (at_builtin; refine wpList_app _ rfl (.tmp 5) (.tmp 6) 22 rfl w.heap.size 34 i0 (.int .u32 0) 4 Tryd.underlying22 hi hz0 hz1 hz2 rfl _ 0 [] rfl (World.ownsRow_made w #[] 0 (Nat.le_refl _) (by unfold maxLen; omega) rfl) _ _ _ _ _ rfl (hr.alloc hB _) (ints_one _ _) (by unfold maxLen; omega) (by omega) (by simp) ?_)
    intro v' w' hown' _ hb'
    obtain ⟨A', c', rfl⟩ := own_slice32 hown'
    go_wp2
    go_ret
    exact ⟨A', c', by simp, by simpa using hown', ((Below.refl _ _).alloc (Nat.le_refl _) _).trans hb'⟩

theorem subtract_nil (A' : Option Addr) (n' c' c : Nat) (w : World) : Calls Tryd.prog 50 #[.slice none 0 c, .slice A' n' c'] w fun e w' => e = .returned (.tuple #[]) ∧ w = w' := by
  go_enter Tryd.func50, Tryd.ntmps50
  go_wp2
  refine wp_loop_rounds 1 ?_
  rw [rounds_succ]
  go_wp2
  go_end0
  exact ⟨rfl, rfl⟩
theorem trim_nil (c : Nat) (w : World) : Calls Tryd.prog 45 #[.slice none 0 c] w fun e w' => e = .returned (.slice none 0 c) ∧ w = w' := by
  go_enter Tryd.func45, Tryd.ntmps45
  go_wp2
  refine wp_loop_rounds 1 ?_
  rw [rounds_succ]
  go_wp2
  go_ret
  exact ⟨rfl, rfl⟩
theorem own_forms {w : World} {base n c : Nat} {A : Option Addr} {xs : List Value} (h : w.ownsRow base 34 1 (.slice A n c) n xs) : (A = none ∧ n = 0 ∧ c = 0) ∨ ∃ g, A = some ⟨g, 0, none⟩ ∧ base ≤ g ∧ g < w.heap.size := by
  rcases h.2 with ⟨hv, hn⟩ | ⟨g, cap, cur, hv, h1, h2, _⟩
  · injection hv with h1 h2 h3
    exact .inl ⟨h1, h2, h3⟩
  · injection hv with h3 _ _
    refine .inr ⟨g, h3, h1, ?_⟩
    rcases Nat.lt_or_ge g w.heap.size with h | h
    · exact h
    · rw [Array.getElem?_eq_none h] at h2; cases h2

/-- What Sub answers: the error, the limbs. -/
def subE (a b : List Int) : Int := if chk2 a b ≠ 0 then chk2 a b else if val a < val b then 9 else 0
def subL (a b : List Int) : List Int := if subE a b = 0 then limbs (val a - val b) else []
theorem limbs_of {a : List Int} (h : chk a = 0) (hl : Lim a) : limbs (val a) = a := limbs_val hl (chk_ok.1 h).2
theorem low_canon {a b : List Int} {n : Nat} (ha : Lim a) (hb : Lim b) (hn : a.length = n) (hc : chk b = 0) (hle : val b ≤ val a) : low b n = val b := by
  have h1 := val_lt ha
  rw [hn] at h1
  have := limbs_len (n := val b) (k := n) (by omega)
  rw [limbs_of hc hb] at this
  exact low_all this

theorem cmpI_lt (x y : Nat) : decide (cmpI x y < 0) = decide (x < y) := by
  unfold cmpI
  by_cases h : x < y
  · rw [if_pos h]; simp [h]
  · rw [if_neg h]
    by_cases h2 : y < x
    · rw [if_pos h2]; simp [h]
    · rw [if_neg h2]; simp [h]

set_option maxRecDepth 100000 in
set_option maxHeartbeats 1000000 in
theorem Sub_any (A A' : Option Addr) (n c n' c' : Nat) (a b : List Int) (w : World) (hr : Row w w.heap.size A n (ints .u32 a)) (hr' : Row w w.heap.size A' n' (ints .u32 b)) (ha : Lim a) (hb : Lim b) :
    Calls Tryd.prog 17 #[.slice A n c, .slice A' n' c'] w (AddOut w (subL a b) (subE a b)) := by
  have hl := hr.1
  have hl' := hr'.1
  rw [ints_len] at hl hl'
  have HC := Lib.hid (checkBoth_any A A' n c n' c' _ a b w hr hr')
  by_cases hx : chk2 a b = 0
  · have hlen := chk2_ok hx
    have hn64 : n ≤ 64 := by have := chk_len hlen.1; omega
    have hn64' : n' ≤ 64 := by have := chk_len hlen.2; omega
    have HM := Lib.hid (compare_any A A' n c n' c' _ a b w hr hr' ha hb (by omega) (by omega))
    by_cases hlt : val a < val b
    · have hE : subE a b = 9 := by rw [subE, if_neg (by omega), if_pos hlt]
      have hL : subL a b = [] := by rw [subL, if_neg (by omega)]
      rw [hE, hL]
      rw [hx] at HC
      have hd : cmpI (val a) (val b) < 0 := by rw [cmpI, if_pos hlt]; decide
      clear hr hr' ha hb hx hlen hl hl' hlt hE hL
      generalize cmpI (val a) (val b) = x at *
      go_enter Tryd.func17, Tryd.ntmps17
      go_wp2_with fail
      refine HC.out.mono ?_
      rintro e w' ⟨rfl, rfl⟩
      go_wp2_with fail
      refine HM.out.mono ?_
      rintro e w' ⟨rfl, rfl⟩
      go_wp2
      go_ret2
      exact ⟨none, 0, rfl, World.ownsRow_nil _ _ _ _, Below.refl _ _⟩
    · have hE : subE a b = 0 := by rw [subE, if_neg (by omega), if_neg hlt]
      have hL : subL a b = limbs (val a - val b) := by rw [subL, if_pos hE]
      rw [hE, hL]
      rw [hx] at HC
      have hd : 0 ≤ cmpI (val a) (val b) := by
        rw [cmpI, if_neg hlt]
        by_cases h2 : val b < val a
        · rw [if_pos h2]; decide
        · rw [if_neg h2]; decide
      have HCl := Lib.hid (Clone32_any A n c _ a w hr (Nat.le_refl _) (by omega))
      have HLow := Lib.hid (low_canon ha hb hl hlen.2 (by omega))
      have HR' := Lib.hid hr'
      have HA := Lib.hid ha
      have HB := Lib.hid hb
      have HLe : Hid (val b ≤ val a) := Lib.hid (by omega)
      subst hl
      clear hr hr' ha hb hx hlen hl' hlt hE hL
      generalize cmpI (val a) (val b) = x at *
      go_enter Tryd.func17, Tryd.ntmps17
      go_wp2_with fail
      refine HC.out.mono ?_
      rintro e w' ⟨rfl, rfl⟩
      go_wp2_with fail
      refine HM.out.mono ?_
      rintro e w' ⟨rfl, rfl⟩
      go_wp2_with fail
      refine HCl.out.mono ?_
      rintro e w1 ⟨A1, c1, rfl, hown, hb1⟩
      rcases own_forms hown with ⟨rfl, h0, rfl⟩ | ⟨g, rfl, hbg, hgl⟩
      · obtain rfl : a = [] := List.eq_nil_of_length_eq_zero h0
        have HV : Hid (limbs (val ([] : List Int) - val b) = []) := by unfold Hid; simp [val, limbs_zero]
        go_wp2_with fail
        refine (subtract_nil _ _ _ _ w1).mono ?_
        rintro e w' ⟨rfl, rfl⟩
        go_wp2_with fail
        refine (trim_nil _ w1).mono ?_
        rintro e w' ⟨rfl, rfl⟩
        have hfin : AddOut w (limbs (val ([] : List Int) - val b)) 0 (.returned (.tuple #[.slice none 0 0, .int .i64 0])) w1 := by
          rw [HV.out]
          exact ⟨none, 0, rfl, World.ownsRow_nil _ _ _ _, hb1⟩
        replace hfin := Lib.hid hfin
        go_wp2
        go_ret2
        exact hfin.out
      · have hcap := own_cap32 hown
        go_wp2_with fail
        refine (subtract_any g a.length c1 w.heap.size w.heap.size A' n' c' a b w1 hown (HR'.out.below hb1) (Nat.le_refl _) hb1.size hbg HA.out HB.out (by omega) HLow.out HLe.out).mono ?_
        rintro e w2 ⟨rfl, s, hs1, hs2, hs3, hown2, hg2⟩
        have hb2 : Below w.heap.size w w2 := hb1.grown hg2 hb1.size (fun k hk => by injection hk with hk; omega)
        have HV := Lib.hid hs3
        have HS2 := Lib.hid hs2
        clear hs3 hs2 hs1 hown hg2
        go_wp2_with fail
        refine (trim_new g a.length c1 s w w2 hown2 hb2 HS2.out hcap.1 hcap.2).mono ?_
        rw [HV.out]
        rintro e w' ⟨A3, c3, rfl, hown3, hb3⟩
        go_wp2
        go_ret2
        exact ⟨A3, c3, rfl, hown3, hb3⟩
  · have hE : subE a b = chk2 a b := by rw [subE, if_pos hx]
    have hL : subL a b = [] := by rw [subL, hE, if_neg hx]
    rw [hE, hL]
    have hd : (chk2 a b == 0) = false := by simpa using hx
    clear hr hr' ha hb hx hl hl' hE hL
    generalize chk2 a b = x at *
    go_enter Tryd.func17, Tryd.ntmps17
    go_wp2_with fail
    refine HC.out.mono ?_
    rintro e w' ⟨rfl, rfl⟩
    go_wp2
    go_ret2
    exact ⟨none, 0, rfl, World.ownsRow_nil _ _ _ _, Below.refl _ _⟩
end Go.Proofs.YtlpfcilgndbopaaDoor
