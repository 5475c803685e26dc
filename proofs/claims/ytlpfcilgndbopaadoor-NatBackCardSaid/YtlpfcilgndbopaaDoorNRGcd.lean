/- The document's Gcd. -/
import Derived.Test.YtlpfcilgndbopaaDoorNRDiv
import Derived.Deep.LoopGhost
namespace Go.Proofs.YtlpfcilgndbopaaDoor
open Go.RowKit

def gcdL (a b : List Int) : List Int := if chk2 a b = 0 then limbs (Nat.gcd (val a) (val b)) else []

set_option maxRecDepth 100000 in
set_option maxHeartbeats 1000000 in
theorem rGcd_any (A A' : Option Addr) (n c n' c' : Nat) (a b : List Int) (w : World) (hr : Row w w.heap.size A n (ints .u32 a)) (hr' : Row w w.heap.size A' n' (ints .u32 b)) (ha : Lim a) (hb : Lim b) (hc : n ≤ c) (hc2 : c ≤ 9223372036854775807) (hc' : n' ≤ c') (hc2' : c' ≤ 9223372036854775807) :
    Calls Tryd.prog 33 #[.slice A n c, .slice A' n' c'] w (AddOut w (gcdL a b) (chk2 a b)) := by
  have hl := hr.1
  have hl' := hr'.1
  rw [ints_len] at hl hl'
  have HC := Lib.hid (two_any A A' n c n' c' _ a b w hr hr')
  by_cases hx : chk2 a b = 0
  · have hlen := chk2_ok hx
    have hn64 : n ≤ 64 := by have := chk_len hlen.1; omega
    have hn64' : n' ≤ 64 := by have := chk_len hlen.2; omega
    have hL : gcdL a b = limbs (Nat.gcd (val a) (val b)) := by rw [gcdL, if_pos hx]
    rw [hL, hx]
    rw [hx] at HC
    have hva := val_lt ha
    rw [hl] at hva
    have hvb := val_lt hb
    rw [hl'] at hvb
    have lna := limbs_len hva
    have lnb := limbs_len hvb
    have HR := Lib.hid hr
    have HR' := Lib.hid hr'
    have HA := Lib.hid ha
    have HB := Lib.hid hb
    have cT1 : Hid (∀ w : World, Row w w.heap.size A n (ints .u32 a) → Calls Tryd.prog 54 #[.slice A n c] w (New w (limbs (val a)))) := Lib.hid (fun w h => rtrim_any A n c w.heap.size a w h HA.out (by omega) hc hc2)
    have cT2 : Hid (∀ w : World, Row w w.heap.size A' n' (ints .u32 b) → Calls Tryd.prog 54 #[.slice A' n' c'] w (New w (limbs (val b)))) := Lib.hid (fun w h => rtrim_any A' n' c' w.heap.size b w h HB.out (by omega) hc' hc2')
    clear hr hr' ha hb hx hlen hl hl' hL hva hvb
    generalize val a = VA at *
    generalize val b = VB at *
    obtain ⟨na, hna⟩ : ∃ x, (limbs VA).length = x := ⟨_, rfl⟩
    obtain ⟨nb, hnb⟩ : ∃ x, (limbs VB).length = x := ⟨_, rfl⟩
    rw [hna] at lna
    rw [hnb] at lnb
    have HNA := Lib.hid (And.intro hna hnb)
    go_enter Tryd.func33, Tryd.ntmps33
    go_wp2_with fail
    with_reducible refine HC.out.mono ?_
    rintro e w' ⟨rfl, rfl⟩
    go_wp2_with fail
    with_reducible refine (cT1.out w HR.out).mono ?_
    rintro e w2 ⟨A2, c2, rfl, o2, b2⟩
    rw [hna] at o2 ⊢
    go_wp2_with fail
    with_reducible refine (cT2.out w2 (HR'.out.on b2)).mono ?_
    rintro e w3 ⟨A3, c3, rfl, o3, h3⟩
    rw [hnb] at o3 ⊢
    have o2' := own_on o2 h3
    have o3' := own_low o3 b2.size
    have b3 := next b2 h3
    clear o2 o3 b2 h3 hna hnb
    go_wp2_with fail
    go_loopg [7, 8, 9, 10] VB (fun Y s7 s8 s9 s10 wx => ∃ (X : Nat) (Ax : Option Addr) (cx nx : Nat) (Ay : Option Addr) (cy ny : Nat), s7 = .slice Ax nx cx ∧ s8 = .slice Ay ny cy ∧ nx ≤ 64 ∧ ny ≤ 64 ∧ Hid ((limbs X).length = nx ∧ (limbs Y).length = ny) ∧ Hid (Nat.gcd X Y = Nat.gcd VA VB) ∧
      wx.ownsRow w.heap.size 34 1 (.slice Ax nx cx) nx (ints .u32 (limbs X)) ∧ wx.ownsRow w.heap.size 34 1 (.slice Ay ny cy) ny (ints .u32 (limbs Y)) ∧ Below w.heap.size w wx)
    case atStart => exact ⟨VA, A2, c2, na, A3, c3, nb, rfl, rfl, by omega, by omega, HNA, Lib.hid rfl, o2', o3', b3⟩
    case round =>
      obtain ⟨X, Ax, cx, nx, Ay, cy, ny, rfl, rfl, hnx, hny, HN, HG, ox, oy, hb⟩ := hrel
      rename World => ws
      by_cases h0 : ny = 0
      · have hY : gk = 0 := by
          have h1 := HN.out.2
          have h2 := val_lt (lim_limbs gk)
          rw [val_limbs, h1, h0] at h2
          simpa using h2
        subst hY
        have HX : Hid (X = Nat.gcd VA VB) := Lib.hid (by have := HG.out; rwa [Nat.gcd_zero_right] at this)
        subst h0
        have hnn := HN.out.1
        go_wp2
        go_ret2
        rw [← HX.out]
        subst hnn
        exact ⟨Ax, cx, rfl, ox, hb⟩
      · have hYp : 0 < gk := by
          rcases Nat.eq_zero_or_pos gk with h | h
          · exfalso
            apply h0
            rw [← HN.out.2, h, limbs_zero]
            rfl
          · exact h
        have k1 := own_cap32 ox
        have k2 := own_cap32 oy
        have cD := rdiv_any Ax Ay nx cx ny cy ws.heap.size (limbs X) (limbs gk) ws (Row.own ox) (Row.own oy) (Nat.le_refl _) (lim_limbs X) (lim_limbs gk) (by omega) (by omega) (by rw [val_limbs]; exact hYp) k1.1 k1.2 k2.1 k2.2
        rw [val_limbs, val_limbs] at cD
        have CD := Lib.hid cD
        have HBb := Lib.hid hb
        have HBs := Lib.hid hb.size
        have hny0 : (0 : Int) < (ny : Int) := by omega
        have hml : (limbs (X % gk)).length ≤ 64 := by
          have h1 := val_lt (lim_limbs gk)
          rw [val_limbs, HN.out.2] at h1
          have h2 := Nat.mod_lt X hYp
          have := limbs_len (n := X % gk) (k := ny) (by omega)
          omega
        have HGn : Hid (Nat.gcd gk (X % gk) = Nat.gcd VA VB) := Lib.hid (by rw [← HG.out, Nat.gcd_comm X gk, Nat.gcd_rec gk X, Nat.gcd_comm])
        have HMl := Lib.hid (Nat.mod_lt X hYp)
        clear k1 k2 cD ox hb
        go_wp2_with fail
        with_reducible refine CD.out.mono ?_
        rintro e w5 ⟨A5, c5, A6, c6, rfl, o5, o6, b6⟩
        have oy' := own_on oy b6
        have o6' := own_low o6 HBs.out
        have b7 := next HBb.out b6
        clear o5 o6 b6 CD oy
        go_wp2_with fail
        go_roundg (X % gk)
        case rel => exact ⟨gk, Ay, cy, ny, A6, c6, _, rfl, rfl, hny, hml, Lib.hid ⟨HN.out.2, rfl⟩, HGn, oy', o6', b7⟩
        case measure => exact HMl.out
  · have hL : gcdL a b = [] := by rw [gcdL, if_neg hx]
    rw [hL]
    have hd : (chk2 a b != 0) = true := by simpa using hx
    clear hr hr' ha hb hx hl hl' hL
    generalize chk2 a b = x at *
    go_enter Tryd.func33, Tryd.ntmps33
    go_wp2_with fail
    with_reducible refine HC.out.mono ?_
    rintro e w' ⟨rfl, rfl⟩
    go_wp2
    go_ret2
    exact ⟨none, 0, rfl, World.ownsRow_nil _ _ _ _, Below.refl _ _⟩
end Go.Proofs.YtlpfcilgndbopaaDoor
