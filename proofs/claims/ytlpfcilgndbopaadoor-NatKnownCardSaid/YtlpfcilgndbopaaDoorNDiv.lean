/- nat.Div. -/
import Derived.Test.YtlpfcilgndbopaaDoorNDivide
namespace Go.Proofs.YtlpfcilgndbopaaDoor
open Go.RowKit

/-- What Div answers: the error, the quotient, the rest. -/
def divE (a b : List Int) : Int := if chk2 a b ≠ 0 then chk2 a b else if b.length = 0 then 21 else 0
def quoL (a b : List Int) : List Int := if divE a b = 0 then limbs (val a / val b) else []
def restL (a b : List Int) : List Int := if divE a b = 0 then limbs (val a % val b) else []
/-- What a call that answers two rows of limbs and an error leaves behind. -/
def DivOut (w : World) (q r : List Int) (err : Int) (e : Ending) (w' : World) : Prop :=
  ∃ A1 c1 A2 c2, e = .returned (.tuple #[.slice A1 q.length c1, .slice A2 r.length c2, .int .i64 err]) ∧
    w'.ownsRow w.heap.size 34 1 (.slice A1 q.length c1) q.length (ints .u32 q) ∧ w'.ownsRow w.heap.size 34 1 (.slice A2 r.length c2) r.length (ints .u32 r) ∧ Below w.heap.size w w'
theorem val_pos {b : List Int} (hb : Lim b) (hc : chk b = 0) (h : b.length ≠ 0) : 0 < val b := by
  rcases Nat.eq_zero_or_pos (val b) with h0 | h0
  · have := limbs_of hc hb
    rw [h0, limbs_zero] at this
    rw [← this] at h
    exact absurd rfl h
  · exact h0

set_option maxRecDepth 100000 in
set_option maxHeartbeats 1000000 in
theorem Div_any (A A' : Option Addr) (n c n' c' : Nat) (a b : List Int) (w : World) (hr : Row w w.heap.size A n (ints .u32 a)) (hr' : Row w w.heap.size A' n' (ints .u32 b)) (ha : Lim a) (hb : Lim b) :
    Calls Tryd.prog 30 #[.slice A n c, .slice A' n' c'] w (DivOut w (quoL a b) (restL a b) (divE a b)) := by
  have hl := hr.1
  have hl' := hr'.1
  rw [ints_len] at hl hl'
  have HC := Lib.hid (checkBoth_any A A' n c n' c' _ a b w hr hr')
  by_cases hx : chk2 a b = 0
  · have hlen := chk2_ok hx
    have hn64 : n ≤ 64 := by have := chk_len hlen.1; omega
    have hn64' : n' ≤ 64 := by have := chk_len hlen.2; omega
    by_cases h0 : n' = 0
    · have hE : divE a b = 21 := by rw [divE, if_neg (by omega), if_pos (by omega)]
      have hL : quoL a b = [] := by rw [quoL, if_neg (by omega)]
      have hL2 : restL a b = [] := by rw [restL, if_neg (by omega)]
      rw [hE, hL, hL2]
      rw [hx] at HC
      subst h0
      clear hr hr' ha hb hx hlen hl hl' hE hL hL2
      go_enter Tryd.func30, Tryd.ntmps30
      go_wp2_with fail
      with_reducible refine HC.out.mono ?_
      rintro e w' ⟨rfl, rfl⟩
      go_wp2
      go_ret3
      exact ⟨none, 0, none, 0, rfl, World.ownsRow_nil _ _ _ _, World.ownsRow_nil _ _ _ _, Below.refl _ _⟩
    · have hE : divE a b = 0 := by rw [divE, if_neg (by omega), if_neg (by omega)]
      have hL : quoL a b = limbs (val a / val b) := by rw [quoL, if_pos hE]
      have hL2 : restL a b = limbs (val a % val b) := by rw [restL, if_pos hE]
      rw [hE, hL, hL2]
      rw [hx] at HC
      have HD := Lib.hid (divide_any A A' n c n' c' _ a b w hr hr' (Nat.le_refl _) ha hb (chk_ok.1 hlen.1).2 (chk_ok.1 hlen.2).2 (by omega) (by omega) (val_pos hb hlen.2 (by omega)))
      have hd : ((n' : Int) == 0) = false := by simp; omega
      generalize limbs (val a / val b) = q at *
      generalize limbs (val a % val b) = r at *
      clear hr hr' ha hb hx hlen hl hl' hE hL hL2
      go_enter Tryd.func30, Tryd.ntmps30
      go_wp2_with fail
      with_reducible refine HC.out.mono ?_
      rintro e w' ⟨rfl, rfl⟩
      go_wp2_with fail
      with_reducible refine HD.out.mono ?_
      rintro e w1 ⟨A1, c1, A2, c2, rfl, o1, o2, b1⟩
      go_wp2
      go_ret3
      exact ⟨A1, c1, A2, c2, rfl, o1, o2, b1⟩
  · have hE : divE a b = chk2 a b := by rw [divE, if_pos hx]
    have hL : quoL a b = [] := by rw [quoL, hE, if_neg hx]
    have hL2 : restL a b = [] := by rw [restL, hE, if_neg hx]
    rw [hE, hL, hL2]
    have hd : (chk2 a b == 0) = false := by simpa using hx
    clear hr hr' ha hb hx hl hl' hE hL hL2
    generalize chk2 a b = x at *
    go_enter Tryd.func30, Tryd.ntmps30
    go_wp2_with fail
    with_reducible refine HC.out.mono ?_
    rintro e w' ⟨rfl, rfl⟩
    go_wp2
    go_ret3
    exact ⟨none, 0, none, 0, rfl, World.ownsRow_nil _ _ _ _, World.ownsRow_nil _ _ _ _, Below.refl _ _⟩
end Go.Proofs.YtlpfcilgndbopaaDoor
