/- R.EqBytes: true just where both slices read as the same numbers. -/
import Derived.Test.YtoodchnjikkkkaaBase
import Derived.Deep.QuietTactic
import Derived.BigQuiet
import Derived.WalkSpells
namespace Go.Proofs.Ytoodchnjikkkkaa
open Go.RowKit

theorem ret_bool {a b : Bool} (h : a = b) : Ending.returned (.bool a) = .returned (.bool b) := by rw [h]
theorem take_succ_eq {xs ys : List Int} {k : Nat} (h : xs.take k = ys.take k) (hx : k < xs.length) (hy : k < ys.length) (he : xs.getD k 0 = ys.getD k 0) : xs.take (k + 1) = ys.take (k + 1) := by
  rw [List.take_add_one, List.take_add_one, h]
  simp only [List.getD_eq_getElem?_getD, List.getElem?_eq_getElem hx, List.getElem?_eq_getElem hy, Option.getD_some] at he
  rw [List.getElem?_eq_getElem hx, List.getElem?_eq_getElem hy, he]

theorem eq_len (A A' : Option Addr) (n m cap cap' : Nat) (w : World) (hne : n ≠ m) :
    Calls Try.prog 15 #[.slice A n cap, .slice A' m cap'] w fun e w' => e = .returned (.bool false) ∧ w = w' := by
  have h1 : ((n : Int) == (m : Int)) = false := beq_eq_false_iff_ne.2 (by omega)
  have h2 : ((n : Int) != (m : Int)) = true := by simp [bne, h1]
  go_enter Try.func15, Try.ntmps15
  go_wp2
  go_ret
  exact ⟨rfl, rfl⟩

set_option maxHeartbeats 400000 in
theorem eq_walk (b b' off off' n cap cap' : Nat) (xs ys : List Int) (w : World) (hx : xs.length = n) (hy : ys.length = n) (hn : n ≤ 9223372036854775807)
    (hcx : ∀ j, j < n → w.cell? ⟨b, off + j, none⟩ = some (.int .u8 (xs.getD j 0))) (hcy : ∀ j, j < n → w.cell? ⟨b', off' + j, none⟩ = some (.int .u8 (ys.getD j 0))) :
    Calls Try.prog 15 #[.slice (some ⟨b, off, none⟩) n cap, .slice (some ⟨b', off', none⟩) n cap'] w fun e w' => e = .returned (.bool (decide (xs = ys))) ∧ ∃ k, w' = w.drewN k := by
  go_enter Try.func15, Try.ntmps15
  go_wp2
  go_loopw [5] (fun i wr => ∃ k q : Nat, k ≤ n ∧ i = .int .i64 k ∧ xs.take k = ys.take k ∧ wr = w.drewN q) (fun i _ => n - (intOf i).toNat)
  case atStart => exact ⟨0, 0, Nat.zero_le _, rfl, rfl, rfl⟩
  case round =>
    obtain ⟨k, q, hk, rfl, ht, rfl⟩ := hrel
    by_cases hlt : k < n
    · have gx := hcx k hlt
      have hlx : k < xs.length := by omega
      have hly : k < ys.length := by omega
      have gy := hcy k hlt
      have hlt' : (k : Int) < (n : Int) := by omega
      have HT := Lib.hid ht
      clear ht hcx hcy
      go_wp2_with fail
      go_quiet (fail)
      go_wp2
      · have hne : (xs[k] != ys[k]) = true := by assumption
        go_ret
        refine ⟨ret_bool ?_, _, World.drewN_drewN _ _ _⟩
        simp only [Bool.false_eq, decide_eq_false_iff_not]
        rintro rfl
        simp at hne
      · have he : (xs[k] != ys[k]) = false := by assumption
        go_roundw
        case rel => exact ⟨k + 1, q + _, by omega, by go_num, take_succ_eq HT.out (by omega) (by omega) (by simpa [hlx, hly] using he), rfl⟩
        case measure => simp [intOf]; omega
    · have hkn : k = n := by omega
      have hxy : xs = ys := by
        subst hkn
        rw [List.take_of_length_le (by omega), List.take_of_length_le (by omega)] at ht
        exact ht
      have HT := Lib.hid hxy
      clear ht hxy hcx hcy hkn
      go_wp2
      go_ret
      exact ⟨ret_bool (by simp [HT.out]), _, rfl⟩

/-- R.EqBytes: the two slices, whatever they lie in. -/
theorem eq_any (A A' : Option Addr) (n m cap cap' B B' : Nat) (xs ys : List Int) (w : World) (hx : Row w B A n (ints .u8 xs)) (hy : Row w B' A' m (ints .u8 ys)) (hn : n ≤ 9223372036854775807) :
    Calls Try.prog 15 #[.slice A n cap, .slice A' m cap'] w fun e w' => e = .returned (.bool (decide (xs = ys))) ∧ Below w.heap.size w w' := by
  have lx : xs.length = n := by simpa [ints] using hx.1
  have ly : ys.length = m := by simpa [ints] using hy.1
  by_cases hne : n = m
  · subst hne
    by_cases h0 : n = 0
    · subst h0
      have e1 : xs = [] := List.eq_nil_of_length_eq_zero lx
      have e2 : ys = [] := List.eq_nil_of_length_eq_zero ly
      subst e1; subst e2
      go_enter Try.func15, Try.ntmps15
      go_wp2
      refine wp_loop_rounds 1 ?_
      rw [rounds_succ]
      go_wp2
      go_ret
      exact ⟨rfl, Below.refl _ _⟩
    · obtain ⟨b, off, rfl, _, hc⟩ := hx.2 (by omega)
      obtain ⟨b', off', rfl, _, hc'⟩ := hy.2 (by omega)
      refine (eq_walk b b' off off' n cap cap' xs ys w lx ly hn (fun j hj => (hc j hj).trans (ints_get _ _ _ (by omega))) (fun j hj => (hc' j hj).trans (ints_get _ _ _ (by omega)))).mono ?_
      rintro e w' ⟨rfl, k, rfl⟩
      exact ⟨rfl, ⟨rfl, rfl, rfl, Nat.le_refl _, fun _ _ => rfl⟩⟩
  · refine (eq_len A A' n m cap cap' w hne).mono ?_
    rintro e w' ⟨rfl, rfl⟩
    refine ⟨ret_bool ?_, Below.refl _ _⟩
    simp only [Bool.false_eq, decide_eq_false_iff_not]
    rintro rfl
    omega
end Go.Proofs.Ytoodchnjikkkkaa
