/- The law's near; Cmp. -/
import Derived.Test.YtlpfcilgndbopaaDoorNRMul
namespace Go.Proofs.YtlpfcilgndbopaaDoor
open Go.RowKit

set_option maxRecDepth 100000 in
set_option maxHeartbeats 1000000 in
/-- near: of the first sixteen at most, without noughts at the end, in new memory. -/
theorem near_walk (A : Option Addr) (n m c B : Nat) (a : List Int) (w : World) (hm : (n < 16 ∧ m = n) ∨ (n = 16 ∧ m = 16) ∨ (16 < n ∧ m = 16)) (hr : Row w B A n (ints .u32 a)) (hlim : Lim a) (hn : n ≤ 50000000000000) (hc : n ≤ c) (hc2 : c ≤ 9223372036854775807) :
    Calls Tryd.prog 38 #[.slice A n c] w (New w (limbs (val (a.take m)))) := by
  obtain ⟨i0, hi, hz0, hz1, hz2⟩ := u32_parts
  have hl := hr.1
  rw [ints_len] at hl
  have hmn : m ≤ n := by omega
  have hm16 : m ≤ 16 := by omega
  have HM := Lib.hid (hlim.take m)
  have HL : Hid ((a.take m).length = m) := Lib.hid (by rw [List.length_take]; omega)
  replace hr := hr.takeI hmn
  clear hl hlim
  generalize a.take m = d at *
  have hmnz : (m : Int) ≤ (n : Int) := by omega
  rcases hm with ⟨hm1, he⟩ | ⟨hm1, he⟩ | ⟨hm1, he⟩
  case' inl => have hz : (n : Int) < 16 := by omega
  case' inr.inl => have hz : (n : Int) = 16 := by omega
  case' inr.inr => have hz : (16 : Int) < n := by omega
  all_goals
    have HE := Lib.hid he
    clear hm1 he
    go_enter Tryd.func38, Tryd.ntmps38
    go_wp2
    go_loopw [3] (fun i wr => ∃ k : Nat, k ≤ m ∧ i = .int .i64 k ∧ Hid (val (d.take k) = val d) ∧ w = wr) (fun i _ => (intOf i).toNat)
    case atStart => exact ⟨m, Nat.le_refl _, by (have := HE.out; subst this; rfl), Lib.hid (by rw [List.take_of_length_le (by have := HL.out; omega)]), rfl⟩
    case round =>
      obtain ⟨k, hk, rfl, HV, rfl⟩ := hrel
      have tail : (h0 : Bool) → (k = 0 ∨ (0 < k ∧ d.getD (k - 1) 0 ≠ 0)) → limbs (val d) = d.take k := by
        intro _ h
        rcases h with rfl | ⟨h1, h2⟩
        · rw [← HV.out]; simp [val, limbs_zero]
        · exact limbs_take HM.out HL.out h1 hk h2 HV.out
      by_cases h0 : 0 < k
      · obtain ⟨b, off, rfl, _, _⟩ := hr.2 (by omega)
        have hcell : w.cell? ⟨b, off + (k - 1), none⟩ = some (.int .u32 (d.getD (k - 1) 0)) := hr.int (by omega)
        have h1 : (1 : Int) ≤ k := by omega
        have h2 : (k : Int) ≤ m := by omega
        have h3 : (k : Int) ≤ n := by omega
        by_cases hx : d.getD (k - 1) 0 = 0
        · rw [hx] at hcell
          have HV2 : Hid (val (d.take (k - 1)) = val d) := Lib.hid (val_take_zero HL.out h0 hk hx HV.out)
          clear hx HV tail
          go_wp2
          go_roundw
          case rel => exact ⟨k - 1, by omega, by go_num, HV2, by first | rfl | trivial⟩
          case measure => simp [intOf]; omega
        · have HT : Hid (limbs (val d) = d.take k) := Lib.hid (tail true (.inr ⟨h0, hx⟩))
          obtain ⟨x, hxx⟩ : ∃ x, d.getD (k - 1) 0 = x := ⟨_, rfl⟩
          rw [hxx] at hcell hx
          have hd : (x == 0) = false := by simpa using hx
          have hrt := hr.takeI hk
          clear hx hxx HV tail hr
          have hkc : (k : Int) ≤ c := by omega
          go_wp2_with (at_builtin; refine wpList_app _ rfl (.const (.slice none 0 0)) (.tmp 21) 22 rfl w.heap.size 34 i0 (.int .u32 0) 4 Tryd.underlying22 hi hz0 hz1 hz2 rfl _ 0 [] rfl (World.ownsRow_nil _ _ _ _) _ _ _ _ _ rfl hrt (ints_one _ _) (by unfold maxLen; omega) (by omega) (Nat.le_refl _) ?_)
          intro v' w1 hown _ hb
          obtain ⟨A1, c1, rfl⟩ := own_slice32 hown
          have HK : Hid ((limbs (val d)).length = k) := Lib.hid (by rw [HT.out, List.length_take]; have := HL.out; omega)
          go_wp2
          go_ret
          rw [← HT.out] at hown
          exact ⟨A1, c1, by rw [HK.out]; rfl, by rw [HK.out]; exact hown, hb⟩
      · obtain rfl : k = 0 := by omega
        have HT : Hid (limbs (val d) = []) := Lib.hid (by rw [tail true (.inl rfl)]; simp)
        have hrt := hr.takeI (Nat.zero_le m)
        clear HV tail hr
        have hkc : (0 : Int) ≤ c := by omega
        go_wp2_with (at_builtin; refine wpList_app _ rfl (.const (.slice none 0 0)) (.tmp 21) 22 rfl w.heap.size 34 i0 (.int .u32 0) 4 Tryd.underlying22 hi hz0 hz1 hz2 rfl _ 0 [] rfl (World.ownsRow_nil _ _ _ _) _ _ _ _ _ rfl hrt (ints_one _ _) (by unfold maxLen; omega) (by omega) (Nat.le_refl _) ?_)
        intro v' w1 hown _ hb
        obtain ⟨A1, c1, rfl⟩ := own_slice32 hown
        go_wp2
        go_ret
        rw [New, HT.out]
        exact ⟨A1, c1, rfl, hown, hb⟩

theorem near_any (A : Option Addr) (n c B : Nat) (a : List Int) (w : World) (hr : Row w B A n (ints .u32 a)) (hlim : Lim a) (hn : n ≤ 50000000000000) (hc : n ≤ c) (hc2 : c ≤ 9223372036854775807) :
    Calls Tryd.prog 38 #[.slice A n c] w (New w (limbs (val (a.take 16)))) := by
  have hl := hr.1
  rw [ints_len] at hl
  by_cases h : n < 16
  · have := near_walk A n n c B a w (.inl ⟨h, rfl⟩) hr hlim hn hc hc2
    rwa [List.take_of_length_le (by omega), ← List.take_of_length_le (l := a) (i := 16) (by omega)] at this
  · exact near_walk A n 16 c B a w (by omega) hr hlim hn hc hc2

def cmpE (a b : List Int) : Int := if chk2 a b = 0 then cmpI (val a) (val b) else 0
theorem Cmp_any (A A' : Option Addr) (n c n' c' B : Nat) (a b : List Int) (w : World) (hr : Row w B A n (ints .u32 a)) (hr' : Row w B A' n' (ints .u32 b)) (ha : Lim a) (hb : Lim b) :
    Calls Tryd.prog 26 #[.slice A n c, .slice A' n' c'] w fun e w' => e = .returned (.int .i64 (cmpE a b)) ∧ w = w' := by
  have hl := hr.1
  have hl' := hr'.1
  rw [ints_len] at hl hl'
  have HC := Lib.hid (checkBoth_any A A' n c n' c' _ a b w hr hr')
  unfold cmpE
  by_cases hx : chk2 a b = 0
  · have hlen := chk2_ok hx
    have HM := Lib.hid (compare_any A A' n c n' c' _ a b w hr hr' ha hb (by have := chk_len hlen.1; omega) (by have := chk_len hlen.2; omega))
    rw [if_pos hx]
    rw [hx] at HC
    clear hr hr' ha hb hx hlen hl hl'
    generalize cmpI (val a) (val b) = x at *
    go_enter Tryd.func26, Tryd.ntmps26
    go_wp2_with fail
    refine HC.out.mono ?_
    rintro e w' ⟨rfl, rfl⟩
    go_wp2_with fail
    refine HM.out.mono ?_
    rintro e w' ⟨rfl, rfl⟩
    go_wp2
    go_ret
    exact ⟨rfl, rfl⟩
  · rw [if_neg hx]
    have hd : (chk2 a b == 0) = false := by simpa using hx
    clear hr hr' ha hb hx hl hl'
    generalize chk2 a b = x at *
    go_enter Tryd.func26, Tryd.ntmps26
    go_wp2_with fail
    refine HC.out.mono ?_
    rintro e w' ⟨rfl, rfl⟩
    go_wp2
    go_ret
    exact ⟨rfl, rfl⟩
theorem rCmp_any (A A' : Option Addr) (n c n' c' B : Nat) (a b : List Int) (w : World) (hr : Row w B A n (ints .u32 a)) (hr' : Row w B A' n' (ints .u32 b)) (ha : Lim a) (hb : Lim b) :
    Calls Tryd.prog 27 #[.slice A n c, .slice A' n' c'] w fun e w' => e = .returned (.int .i64 (cmpE a b)) ∧ ∃ k, w' = w.drewN k := by
  have hl := hr.1
  have hl' := hr'.1
  rw [ints_len] at hl hl'
  have HC := Lib.hid (two_any A A' n c n' c' _ a b w hr hr')
  unfold cmpE
  by_cases hx : chk2 a b = 0
  · have hlen := chk2_ok hx
    have HM := cmp_any A A' n c n' c' _ a b w hr hr' ha hb (by have := chk_len hlen.1; omega)
    rw [cmpR_canon ha hb hlen.1 hlen.2] at HM
    replace HM := Lib.hid HM
    rw [if_pos hx]
    rw [hx] at HC
    clear hr hr' ha hb hx hlen hl hl'
    generalize cmpI (val a) (val b) = x at *
    go_enter Tryd.func27, Tryd.ntmps27
    go_wp2_with fail
    refine HC.out.mono ?_
    rintro e w' ⟨rfl, rfl⟩
    go_wp2_with fail
    refine HM.out.mono ?_
    rintro e w' ⟨rfl, k, rfl⟩
    go_wp2
    go_ret
    exact ⟨rfl, k, rfl⟩
  · rw [if_neg hx]
    have hd : (chk2 a b == 0) = false := by simpa using hx
    clear hr hr' ha hb hx hl hl'
    generalize chk2 a b = x at *
    go_enter Tryd.func27, Tryd.ntmps27
    go_wp2_with fail
    refine HC.out.mono ?_
    rintro e w' ⟨rfl, rfl⟩
    go_wp2
    go_ret
    exact ⟨rfl, 0, rfl⟩
end Go.Proofs.YtlpfcilgndbopaaDoor
