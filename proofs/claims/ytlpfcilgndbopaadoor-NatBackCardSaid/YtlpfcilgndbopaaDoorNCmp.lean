/- nat: compare; the document's cmp, Eq; the law's same. -/
import Derived.Test.YtlpfcilgndbopaaDoorNTrim
namespace Go.Proofs.YtlpfcilgndbopaaDoor
open Go.RowKit

def cmpI (x y : Nat) : Int := if x < y then -1 else if y < x then 1 else 0

theorem compare_loop (A A' : Option Addr) (n c n' c' B M : Nat) (a b : List Int) (w : World) (hr : Row w B A n (ints .u32 a)) (hr' : Row w B A' n' (ints .u32 b)) (ha : Lim a) (hb : Lim b) (hn : n ≤ 140737488351232) (hn' : n' ≤ 140737488351232)
    (hM : (n < n' ∧ M = n') ∨ (n' ≤ n ∧ M = n)) :
    Calls Tryd.prog 48 #[.slice A n c, .slice A' n' c'] w fun e w' => e = .returned (.int .i64 (cmpI (val a) (val b))) ∧ w = w' := by
  have hl := hr.1
  have hl' := hr'.1
  rw [ints_len] at hl hl'
  have HA := Lib.hid ha
  have HB := Lib.hid hb
  have HR := Lib.hid hr
  have HR' := Lib.hid hr'
  have HLa : Hid (low a M = val a ∧ low b M = val b) := Lib.hid ⟨low_all (by omega), low_all (by omega)⟩
  have hMb : M ≤ 140737488351232 := by omega
  have HLn : Hid (a.length ≤ M ∧ b.length ≤ M) := Lib.hid (by omega)
  clear ha hb hr hr' hl hl'
  rcases hM with ⟨h1, rfl⟩ | ⟨h1, rfl⟩
  case' inl => have h1z : (n : Int) < (M : Int) := by omega
  case' inr => have h1z : (n' : Int) ≤ (M : Int) := by omega
  all_goals
    clear h1
    go_enter Tryd.func48, Tryd.ntmps48
    go_wp2
    go_loopw [5] (fun i wr => ∃ k : Nat, k ≤ M ∧ i = .int .i64 ((k : Int) - 1) ∧ Hid (∀ j, k ≤ j → j < M → a.getD j 0 = b.getD j 0) ∧ w = wr) (fun i _ => (intOf i + 1).toNat)
    case atStart => exact ⟨M, Nat.le_refl _, by first | rfl | go_num | (simp; omega), Lib.hid (fun j h1 h2 => by omega), rfl⟩
    case round =>
      obtain ⟨k, hk, rfl, HE, rfl⟩ := hrel
      by_cases h0 : 0 < k
      · obtain ⟨i, rfl⟩ : ∃ i, k = i + 1 := ⟨k - 1, by omega⟩
        have hi0 : (0 : Int) ≤ (i : Int) := by omega
        rw [show ((i + 1 : Nat) : Int) - 1 = (i : Int) by omega] at *
        obtain ⟨x, hx⟩ : ∃ x, a.getD i 0 = x := ⟨_, rfl⟩
        obtain ⟨y, hy⟩ : ∃ y, b.getD i 0 = y := ⟨_, rfl⟩
        have HX := Lib.hid hx
        have HY := Lib.hid hy
        clear hx hy
        have HT : Hid (∀ j, i < j → a.getD j 0 = b.getD j 0) := Lib.hid (fun j hj => by
          by_cases hjm : j < M
          · exact HE.out j (by omega) hjm
          · rw [List.getD_eq_getElem?_getD, List.getD_eq_getElem?_getD, List.getElem?_eq_none (by have := HLn.out; omega), List.getElem?_eq_none (by have := HLn.out; omega)])
        go_wp2_with fail
        refine (limb_at _ _ _ B a i x w HR.out (by omega) HX).mono ?_
        rintro e w' ⟨rfl, rfl⟩
        go_wp2_with fail
        refine (limb_at _ _ _ B b i y w HR'.out (by omega) HY).mono ?_
        rintro e w' ⟨rfl, rfl⟩
        rcases Int.lt_trichotomy x y with h | h | h
        · have HC : Hid (cmpI (val a) (val b) = -1) := Lib.hid (by
            have := low_less HA.out HB.out i (by rw [HX.out, HY.out]; exact h) M (by omega) HT.out
            rw [HLa.out.1, HLa.out.2] at this
            rw [cmpI, if_pos this])
          go_wp2
          go_ret
          exact ⟨ret_int HC.out.symm, rfl⟩
        · subst h
          have HE2 : Hid (∀ j, i ≤ j → j < M → a.getD j 0 = b.getD j 0) := Lib.hid (fun j h1 h2 => by
            by_cases hji : j = i
            · rw [hji, HX.out, HY.out]
            · exact HE.out j (by omega) h2)
          go_wp2
          go_roundw
          case rel => exact ⟨i, by omega, rfl, HE2, trivial⟩
          case measure => simp [intOf]
        · have HC : Hid (cmpI (val a) (val b) = 1) := Lib.hid (by
            have := low_less HB.out HA.out i (by rw [HX.out, HY.out]; exact h) M (by omega) (fun j hj => (HT.out j hj).symm)
            rw [HLa.out.1, HLa.out.2] at this
            rw [cmpI, if_neg (by omega), if_pos this])
          go_wp2
          go_ret
          exact ⟨ret_int HC.out.symm, rfl⟩
      · obtain rfl : k = 0 := by omega
        have HC : Hid (cmpI (val a) (val b) = 0) := Lib.hid (by
          have := low_same M (fun j hj => HE.out j (by omega) hj)
          rw [HLa.out.1, HLa.out.2] at this
          rw [cmpI, this, if_neg (by omega), if_neg (by omega)])
        clear HE
        go_wp2
        go_ret
        exact ⟨ret_int HC.out.symm, rfl⟩
theorem compare_any (A A' : Option Addr) (n c n' c' B : Nat) (a b : List Int) (w : World) (hr : Row w B A n (ints .u32 a)) (hr' : Row w B A' n' (ints .u32 b)) (ha : Lim a) (hb : Lim b) (hn : n ≤ 140737488351232) (hn' : n' ≤ 140737488351232) :
    Calls Tryd.prog 48 #[.slice A n c, .slice A' n' c'] w fun e w' => e = .returned (.int .i64 (cmpI (val a) (val b))) ∧ w = w' := by
  rcases Nat.lt_or_ge n n' with h | h
  · exact compare_loop A A' n c n' c' B n' a b w hr hr' ha hb hn hn' (.inl ⟨h, rfl⟩)
  · exact compare_loop A A' n c n' c' B n a b w hr hr' ha hb hn hn' (.inr ⟨h, rfl⟩)
end Go.Proofs.YtlpfcilgndbopaaDoor
