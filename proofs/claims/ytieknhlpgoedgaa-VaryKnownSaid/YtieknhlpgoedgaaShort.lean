/- The law VaryShort, walked. -/
import Derived.Test.YtieknhlpgoedgaaAwake
import Derived.Deep.RegionWith
import Derived.StillTailTactics
namespace Go.Proofs.Ytieknhlpgoedgaa
open Go.RowKit

theorem Row.take {w : World} {B n k : Nat} {A : Option Addr} {k0 : IntKind} {zs : List Int} (h : Row w B A n (ints k0 zs)) (hk : k ≤ n) : Row w B A k (ints k0 (zs.take k)) := by
  have hl := h.1
  rw [ints_len] at hl
  refine ⟨by rw [ints_len, List.length_take]; omega, fun hn => ?_⟩
  obtain ⟨b, off, e, hb, hcell⟩ := h.2 (by omega)
  refine ⟨b, off, e, hb, fun j hj => ?_⟩
  rw [hcell j (by omega), ← ints_take, List.getElem?_take, if_pos hj]

theorem neq_int (a b : Int) (h : a ≠ b) : (a == b) = false := by simpa using h

set_option maxRecDepth 100000 in
theorem Short_bad (m n : Int) (w : World) (h : uErr m ≠ 0 ∨ uErr n ≠ 0 ∨ m = n) :
    Calls Try.prog 7 #[.int .i64 m, .int .i64 n] w fun e w' => e = .returned (.bool true) ∧ Below w.heap.size w w' := by
  have hm := Lib.hid (U_any m w)
  have hn := fun w => U_any n w
  have HN := Lib.hid hn
  clear hn
  have cases : (uErr m = 0 ∧ uErr n = 0 ∧ (m == n) = true) ∨ (uErr m = 0 ∧ (uErr n != 0) = true) ∨ (uErr m != 0) = true := by
    by_cases h1 : uErr m = 0
    · by_cases h2 : uErr n = 0
      · refine .inl ⟨h1, h2, ?_⟩
        rcases h with h | h | h
        · exact absurd h1 h
        · exact absurd h2 h
        · simpa using h
      · exact .inr (.inl ⟨h1, by simpa using h2⟩)
    · exact .inr (.inr (by simpa using h1))
  rcases cases with ⟨h1, h2, h3⟩ | ⟨h1, h2⟩ | h1
  all_goals
    clear h
    go_enter Try.func7, Try.ntmps7
    go_wp2_with fail
    refine hm.out.mono ?_
    rintro e w1 ⟨A1, c1, rfl, o1, b1⟩
    go_wp2_with fail
    refine (HN.out w1).mono ?_
    rintro e w2 ⟨A2, c2, rfl, o2, b2⟩
    go_wp2_with fail
    refine (awake_any w2).mono ?_
    rintro e w3 ⟨rfl, b3⟩
    go_wp2
    go_ret
    exact ⟨rfl, next (next b1 b2) b3⟩

set_option maxRecDepth 100000 in
set_option maxHeartbeats 1000000 in
theorem Short_good (m n : Nat) (w : World) (hm : m ≤ 18014398509481982) (hn : n ≤ 18014398509481982) (h : m ≠ n) :
    Calls Try.prog 7 #[.int .i64 m, .int .i64 n] w fun e w' => e = .returned (.bool true) ∧ Below w.heap.size w w' := by
  have um := U_any m w
  have un := fun w => U_any n w
  have em : uErr m = 0 := by rw [uErr, if_neg (by omega)]
  have en : uErr n = 0 := by rw [uErr, if_neg (by omega)]
  have om : uOut m = leb m := by rw [uOut, if_neg (by omega)]; simp
  have on : uOut n = leb n := by rw [uOut, if_neg (by omega)]; simp
  rw [em, om] at um
  rw [en, on] at un
  have UM := Lib.hid um
  have UN := Lib.hid un
  have l1 := leb_len8 hm
  have l2 := leb_len8 hn
  have mono1 : n < m → (leb n).length ≤ (leb m).length := fun h => leb_mono 8 n m (by omega) (by omega)
  have mono2 : m < n → (leb m).length ≤ (leb n).length := fun h => leb_mono 8 m n (by omega) (by omega)
  have ap : (leb m).take (min (leb m).length (leb n).length) ≠ (leb n).take (min (leb m).length (leb n).length) := fun he => h (leb_apart 8 n m (by omega) (by omega) he)
  clear um un em en om on hm hn
  generalize leb m = x at *
  generalize leb n = y at *
  have hne := neq_int (m : Int) (n : Int) (by omega)
  have tri : (y.length < x.length ∧ n < m) ∨ (x.length < y.length ∧ m < n) ∨ (x.length = y.length ∧ n < m) ∨ (x.length = y.length ∧ m < n) := by omega
  rcases tri with ⟨h1, h2⟩ | ⟨h1, h2⟩ | ⟨h1, h2⟩ | ⟨h1, h2⟩
  · have d1 : decide ((x.length : Int) < (y.length : Int)) = false := by simp; omega
    have hd : decide (x.take y.length = y.take y.length) = false := by
      have e : min x.length y.length = y.length := by omega
      rw [e] at ap
      simpa using ap
    have HK := Lib.hid hd
    have ka : y.length ≤ x.length := by omega
    have kb : y.length ≤ y.length := by omega
    clear mono1 mono2 ap hd
    go_enter Try.func7, Try.ntmps7
    go_wp2_with fail
    refine UM.out.mono ?_
    rintro e w1 ⟨A1, c1, rfl, o1, b1⟩
    go_wp2_with fail
    refine (UN.out w1).mono ?_
    rintro e w2 ⟨A2, c2, rfl, o2, b2⟩
    have t2 := (Row.own o2).take kb
    have t1 := ((Row.own o1).on b2).take ka
    have k1 := own_cap o1
    have k2 := own_cap o2
    have b12 : Below w.heap.size w w2.drew := (next b1 b2).drew
    go_wp2_with fail
    have k1' : y.length ≤ c1 := by omega
    have k2' : y.length ≤ c2 := by omega
    go_still_tail 6, (by kernel_rfl)
    change wpList _ _ _ _ _ w2.drew
    have t1' : Row w2.drew _ _ _ _ := t1
    have t2' : Row w2.drew _ _ _ _ := t2
    clear t1 t2 b1 b2 o1 o2
    generalize w2.drew = w3 at *
    go_wp2_with fail
    refine (eq_any _ _ _ _ _ _ _ _ _ _ _ t1' t2' (by omega)).mono ?_
    rintro e w4 ⟨rfl, b4⟩
    rw [HK.out]
    go_wp2_with fail
    refine (awake_any _).mono ?_
    rintro e w5 ⟨rfl, b5⟩
    go_wp2
    go_ret
    exact ⟨rfl, next (next b12 b4) b5⟩
  · have d1 : decide ((y.length : Int) < (x.length : Int)) = false := by simp; omega
    have hd : decide (x.take x.length = y.take x.length) = false := by
      have e : min x.length y.length = x.length := by omega
      rw [e] at ap
      simpa using ap
    have HK := Lib.hid hd
    have ka : x.length ≤ x.length := by omega
    have kb : x.length ≤ y.length := by omega
    clear mono1 mono2 ap hd
    go_enter Try.func7, Try.ntmps7
    go_wp2_with fail
    refine UM.out.mono ?_
    rintro e w1 ⟨A1, c1, rfl, o1, b1⟩
    go_wp2_with fail
    refine (UN.out w1).mono ?_
    rintro e w2 ⟨A2, c2, rfl, o2, b2⟩
    have t2 := (Row.own o2).take kb
    have t1 := ((Row.own o1).on b2).take ka
    have k1 := own_cap o1
    have k2 := own_cap o2
    have b12 : Below w.heap.size w w2.drew := (next b1 b2).drew
    go_wp2_with fail
    have k1' : x.length ≤ c1 := by omega
    have k2' : x.length ≤ c2 := by omega
    go_still_tail 6, (by kernel_rfl)
    change wpList _ _ _ _ _ w2.drew
    have t1' : Row w2.drew _ _ _ _ := t1
    have t2' : Row w2.drew _ _ _ _ := t2
    clear t1 t2 b1 b2 o1 o2
    generalize w2.drew = w3 at *
    go_wp2_with fail
    refine (eq_any _ _ _ _ _ _ _ _ _ _ _ t1' t2' (by omega)).mono ?_
    rintro e w4 ⟨rfl, b4⟩
    rw [HK.out]
    go_wp2_with fail
    refine (awake_any _).mono ?_
    rintro e w5 ⟨rfl, b5⟩
    go_wp2
    go_ret
    exact ⟨rfl, next (next b12 b4) b5⟩
  · have h1a : x.length ≤ y.length := by omega
    have h1b : y.length ≤ x.length := by omega
    have d1 : decide ((x.length : Int) < (y.length : Int)) = false := by simp; omega
    clear h1
    have hd : decide (x.take x.length = y.take x.length) = false := by
      have e : min x.length y.length = x.length := by omega
      rw [e] at ap
      simpa using ap
    have HK := Lib.hid hd
    have ka : x.length ≤ x.length := by omega
    have kb : x.length ≤ y.length := by omega
    clear mono1 mono2 ap hd
    go_enter Try.func7, Try.ntmps7
    go_wp2_with fail
    refine UM.out.mono ?_
    rintro e w1 ⟨A1, c1, rfl, o1, b1⟩
    go_wp2_with fail
    refine (UN.out w1).mono ?_
    rintro e w2 ⟨A2, c2, rfl, o2, b2⟩
    have t2 := (Row.own o2).take kb
    have t1 := ((Row.own o1).on b2).take ka
    have k1 := own_cap o1
    have k2 := own_cap o2
    have b12 : Below w.heap.size w w2.drew := (next b1 b2).drew
    go_wp2_with fail
    have k1' : x.length ≤ c1 := by omega
    have k2' : x.length ≤ c2 := by omega
    go_still_tail 6, (by kernel_rfl)
    change wpList _ _ _ _ _ w2.drew
    have t1' : Row w2.drew _ _ _ _ := t1
    have t2' : Row w2.drew _ _ _ _ := t2
    clear t1 t2 b1 b2 o1 o2
    generalize w2.drew = w3 at *
    go_wp2_with fail
    refine (eq_any _ _ _ _ _ _ _ _ _ _ _ t1' t2' (by omega)).mono ?_
    rintro e w4 ⟨rfl, b4⟩
    rw [HK.out]
    go_wp2_with fail
    refine (awake_any _).mono ?_
    rintro e w5 ⟨rfl, b5⟩
    go_wp2
    go_ret
    exact ⟨rfl, next (next b12 b4) b5⟩
  · have h1a : x.length ≤ y.length := by omega
    have h1b : y.length ≤ x.length := by omega
    have d1 : decide ((y.length : Int) < (x.length : Int)) = false := by simp; omega
    clear h1
    have hd : decide (x.take x.length = y.take x.length) = false := by
      have e : min x.length y.length = x.length := by omega
      rw [e] at ap
      simpa using ap
    have HK := Lib.hid hd
    have ka : x.length ≤ x.length := by omega
    have kb : x.length ≤ y.length := by omega
    clear mono1 mono2 ap hd
    go_enter Try.func7, Try.ntmps7
    go_wp2_with fail
    refine UM.out.mono ?_
    rintro e w1 ⟨A1, c1, rfl, o1, b1⟩
    go_wp2_with fail
    refine (UN.out w1).mono ?_
    rintro e w2 ⟨A2, c2, rfl, o2, b2⟩
    have t2 := (Row.own o2).take kb
    have t1 := ((Row.own o1).on b2).take ka
    have k1 := own_cap o1
    have k2 := own_cap o2
    have b12 : Below w.heap.size w w2.drew := (next b1 b2).drew
    go_wp2_with fail
    have k1' : x.length ≤ c1 := by omega
    have k2' : x.length ≤ c2 := by omega
    go_still_tail 6, (by kernel_rfl)
    change wpList _ _ _ _ _ w2.drew
    have t1' : Row w2.drew _ _ _ _ := t1
    have t2' : Row w2.drew _ _ _ _ := t2
    clear t1 t2 b1 b2 o1 o2
    generalize w2.drew = w3 at *
    go_wp2_with fail
    refine (eq_any _ _ _ _ _ _ _ _ _ _ _ t1' t2' (by omega)).mono ?_
    rintro e w4 ⟨rfl, b4⟩
    rw [HK.out]
    go_wp2_with fail
    refine (awake_any _).mono ?_
    rintro e w5 ⟨rfl, b5⟩
    go_wp2
    go_ret
    exact ⟨rfl, next (next b12 b4) b5⟩
theorem Short_walk (m n : Int) (w : World) (_h1 : (Lit.int .i64 m).wf = true) (_h2 : (Lit.int .i64 n).wf = true) :
    Calls Try.prog 7 #[.int .i64 m, .int .i64 n] w fun e w' => e = .returned (.bool true) ∧ Below w.heap.size w w' := by
  by_cases h : uErr m ≠ 0 ∨ uErr n ≠ 0 ∨ m = n
  · exact Short_bad m n w h
  · have hm : ¬ (m < 0 ∨ 18014398509481982 < m) := fun hh => h (.inl (by simp [uErr, hh]))
    have hn : ¬ (n < 0 ∨ 18014398509481982 < n) := fun hh => h (.inr (.inl (by simp [uErr, hh])))
    obtain ⟨a, rfl⟩ := Int.eq_ofNat_of_zero_le (a := m) (by omega)
    obtain ⟨b, rfl⟩ := Int.eq_ofNat_of_zero_le (a := n) (by omega)
    exact Short_good a b w (by omega) (by omega) (fun e => h (.inr (.inr (by rw [e]))))
end Go.Proofs.Ytieknhlpgoedgaa
