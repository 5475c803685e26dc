/- The document's cmp and Eq. -/
import Derived.Test.YtlpfcilgndbopaaDoorNCmp
namespace Go.Proofs.YtlpfcilgndbopaaDoor
open Go.RowKit

/-- What the document's cmp answers of any lists: of unlike lengths by these alone. -/
def cmpR (a b : List Int) : Int := if a.length < b.length then -1 else if b.length < a.length then 1 else cmpI (val a) (val b)
theorem cmpR_limbs (x y : Nat) : cmpR (limbs x) (limbs y) = cmpI x y := by
  unfold cmpR
  by_cases h : (limbs x).length < (limbs y).length
  · have h1 := limbs_long h
    have h2 : x < 4294967296 ^ (limbs x).length := by have := val_lt (lim_limbs x); rwa [val_limbs] at this
    rw [if_pos h, cmpI, if_pos (by omega)]
  · rw [if_neg h]
    by_cases h' : (limbs y).length < (limbs x).length
    · have h1 := limbs_long h'
      have h2 : y < 4294967296 ^ (limbs y).length := by have := val_lt (lim_limbs y); rwa [val_limbs] at this
      rw [if_pos h', cmpI, if_neg (by omega), if_pos (by omega)]
    · rw [if_neg h', val_limbs, val_limbs]

theorem drew3 (w : World) (a b c : Nat) : ((w.drewN a).drewN b).drewN c = w.drewN (a + b + c) := by rw [World.drewN_drewN, World.drewN_drewN, Nat.add_assoc]

theorem cmp_len (A A' : Option Addr) (n c n' c' : Nat) (w : World) (hne : n ≠ n') :
    Calls Tryd.prog 51 #[.slice A n c, .slice A' n' c'] w fun e w' => e = .returned (.int .i64 (if n < n' then -1 else 1)) ∧ w = w' := by
  have h1 : ((n : Int) == (n' : Int)) = false := beq_eq_false_iff_ne.2 (by omega)
  have h2 : ((n : Int) != (n' : Int)) = true := by simp [bne, h1]
  by_cases h : n < n'
  · have hz : (n : Int) < (n' : Int) := by omega
    rw [if_pos h]
    go_enter Tryd.func51, Tryd.ntmps51
    go_wp2
    go_ret
    exact ⟨rfl, rfl⟩
  · have hz : ((n' : Int)) ≤ (n : Int) := by omega
    rw [if_neg h]
    go_enter Tryd.func51, Tryd.ntmps51
    go_wp2
    go_ret
    exact ⟨rfl, rfl⟩

set_option maxHeartbeats 400000 in
theorem cmp_walk (A A' : Option Addr) (n c c' B : Nat) (a b : List Int) (w : World) (hr : Row w B A n (ints .u32 a)) (hr' : Row w B A' n (ints .u32 b)) (ha : Lim a) (hb : Lim b) (hn : n ≤ 140737488351232) :
    Calls Tryd.prog 51 #[.slice A n c, .slice A' n c'] w fun e w' => e = .returned (.int .i64 (cmpI (val a) (val b))) ∧ ∃ k, w' = w.drewN k := by
  have hl := hr.1
  have hl' := hr'.1
  rw [ints_len] at hl hl'
  have HA := Lib.hid ha
  have HB := Lib.hid hb
  have HLa : Hid (low a n = val a ∧ low b n = val b) := Lib.hid ⟨low_all (by omega), low_all (by omega)⟩
  have HLn : Hid (a.length ≤ n ∧ b.length ≤ n) := Lib.hid (by omega)
  clear ha hb hl hl'
  go_enter Tryd.func51, Tryd.ntmps51
  go_wp2
  go_loopw [5] (fun i wr => ∃ k q : Nat, k ≤ n ∧ i = .int .i64 ((k : Int) - 1) ∧ Hid (∀ j, k ≤ j → j < n → a.getD j 0 = b.getD j 0) ∧ wr = w.drewN q) (fun i _ => (intOf i + 1).toNat)
  case atStart => exact ⟨n, 0, Nat.le_refl _, rfl, Lib.hid (fun j h1 h2 => by omega), rfl⟩
  case round =>
    obtain ⟨k, q, hk, rfl, HE, rfl⟩ := hrel
    by_cases h0 : 0 < k
    · obtain ⟨i, rfl⟩ : ∃ i, k = i + 1 := ⟨k - 1, by omega⟩
      have hi0 : (0 : Int) ≤ (i : Int) := by omega
      have hin : (i : Int) < (n : Int) := by omega
      rw [show ((i + 1 : Nat) : Int) - 1 = (i : Int) by omega] at *
      obtain ⟨ba, oa, rfl, _, _⟩ := hr.2 (by omega)
      obtain ⟨bb, ob, rfl, _, _⟩ := hr'.2 (by omega)
      have gx := hr.int (j := i) (by omega)
      have gy := hr'.int (j := i) (by omega)
      obtain ⟨x, hx⟩ : ∃ x, a.getD i 0 = x := ⟨_, rfl⟩
      obtain ⟨y, hy⟩ : ∃ y, b.getD i 0 = y := ⟨_, rfl⟩
      rw [hx] at gx
      rw [hy] at gy
      have HX := Lib.hid hx
      have HY := Lib.hid hy
      clear hx hy hr hr'
      have HT : Hid (∀ j, i < j → a.getD j 0 = b.getD j 0) := Lib.hid (fun j hj => by
        by_cases hjm : j < n
        · exact HE.out j (by omega) hjm
        · rw [List.getD_eq_getElem?_getD, List.getD_eq_getElem?_getD, List.getElem?_eq_none (by have := HLn.out; omega), List.getElem?_eq_none (by have := HLn.out; omega)])
      rcases Int.lt_trichotomy x y with h | h | h
      · have HC : Hid (cmpI (val a) (val b) = -1) := Lib.hid (by
          have := low_less HA.out HB.out i (by rw [HX.out, HY.out]; exact h) n (by omega) HT.out
          rw [HLa.out.1, HLa.out.2] at this
          rw [cmpI, if_pos this])
        go_wp2_with fail
        go_quiet (fail)
        go_wp2
        go_ret
        exact ⟨ret_int HC.out.symm, _, World.drewN_drewN _ _ _⟩
      · subst h
        have HE2 : Hid (∀ j, i ≤ j → j < n → a.getD j 0 = b.getD j 0) := Lib.hid (fun j h1 h2 => by
          by_cases hji : j = i
          · rw [hji, HX.out, HY.out]
          · exact HE.out j (by omega) h2)
        go_wp2_with fail
        go_quiet (fail)
        go_wp2_with fail
        go_quiet (fail)
        go_wp2
        go_roundw
        case rel => exact ⟨i, _, by omega, rfl, HE2, rfl⟩
        case measure => simp [intOf]
      · have HC : Hid (cmpI (val a) (val b) = 1) := Lib.hid (by
          have := low_less HB.out HA.out i (by rw [HX.out, HY.out]; exact h) n (by omega) (fun j hj => (HT.out j hj).symm)
          rw [HLa.out.1, HLa.out.2] at this
          rw [cmpI, if_neg (by omega), if_pos this])
        go_wp2_with fail
        go_quiet (fail)
        go_wp2_with fail
        go_quiet (fail)
        go_wp2
        go_ret
        exact ⟨ret_int HC.out.symm, _, drew3 _ _ _ _⟩
    · obtain rfl : k = 0 := by omega
      have HC : Hid (cmpI (val a) (val b) = 0) := Lib.hid (by
        have := low_same n (fun j hj => HE.out j (by omega) hj)
        rw [HLa.out.1, HLa.out.2] at this
        rw [cmpI, this, if_neg (by omega), if_neg (by omega)])
      clear HE hr hr'
      go_wp2
      go_ret
      exact ⟨ret_int HC.out.symm, _, rfl⟩
theorem cmp_any (A A' : Option Addr) (n c n' c' B : Nat) (a b : List Int) (w : World) (hr : Row w B A n (ints .u32 a)) (hr' : Row w B A' n' (ints .u32 b)) (ha : Lim a) (hb : Lim b) (hn : n ≤ 140737488351232) :
    Calls Tryd.prog 51 #[.slice A n c, .slice A' n' c'] w fun e w' => e = .returned (.int .i64 (cmpR a b)) ∧ ∃ k, w' = w.drewN k := by
  have hl := hr.1
  have hl' := hr'.1
  rw [ints_len] at hl hl'
  by_cases hne : n = n'
  · subst hne
    refine (cmp_walk A A' n c c' B a b w hr hr' ha hb hn).mono ?_
    rintro e w' ⟨rfl, h⟩
    exact ⟨ret_int (by rw [cmpR, if_neg (by omega), if_neg (by omega)]), h⟩
  · refine (cmp_len A A' n c n' c' w hne).mono ?_
    rintro e w' ⟨rfl, rfl⟩
    refine ⟨ret_int ?_, 0, rfl⟩
    unfold cmpR
    by_cases h : n < n'
    · rw [if_pos h, if_pos (by omega)]
    · rw [if_neg h, if_neg (by omega), if_pos (by omega)]
theorem Eq_any (A A' : Option Addr) (n c n' c' B : Nat) (a b : List Int) (w : World) (hr : Row w B A n (ints .u32 a)) (hr' : Row w B A' n' (ints .u32 b)) (ha : Lim a) (hb : Lim b) (hn : n ≤ 140737488351232) :
    Calls Tryd.prog 21 #[.slice A n c, .slice A' n' c'] w fun e w' => e = .returned (.bool (cmpR a b == 0)) ∧ ∃ k, w' = w.drewN k := by
  have HC := Lib.hid (cmp_any A A' n c n' c' B a b w hr hr' ha hb hn)
  clear hr hr' ha hb
  generalize cmpR a b = x at *
  go_enter Tryd.func21, Tryd.ntmps21
  go_wp2_with fail
  refine HC.out.mono ?_
  rintro e w' ⟨rfl, k, rfl⟩
  go_wp2
  go_ret
  exact ⟨rfl, k, rfl⟩
/-- Two lists without noughts at the end: just if their values are the same. -/
theorem Eq_limbs (A A' : Option Addr) (n c n' c' B x y : Nat) (w : World) (hr : Row w B A n (ints .u32 (limbs x))) (hr' : Row w B A' n' (ints .u32 (limbs y))) (hn : n ≤ 140737488351232) :
    Calls Tryd.prog 21 #[.slice A n c, .slice A' n' c'] w fun e w' => e = .returned (.bool (decide (x = y))) ∧ ∃ k, w' = w.drewN k := by
  have := Eq_any A A' n c n' c' B _ _ w hr hr' (lim_limbs x) (lim_limbs y) hn
  have e : (cmpR (limbs x) (limbs y) == 0) = decide (x = y) := by
    rw [cmpR_limbs, cmpI]
    rcases Nat.lt_trichotomy x y with h | h | h
    · rw [if_pos h]; simp; omega
    · subst h; simp
    · rw [if_neg (by omega), if_pos h]; simp; omega
  rwa [e] at this
end Go.Proofs.YtlpfcilgndbopaaDoor
