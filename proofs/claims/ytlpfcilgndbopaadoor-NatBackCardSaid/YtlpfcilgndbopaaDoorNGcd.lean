/- nat.Gcd. -/
import Derived.Test.YtlpfcilgndbopaaDoorNRGcd
import Derived.Deep.LoopGhost
namespace Go.Proofs.YtlpfcilgndbopaaDoor
open Go.RowKit

/-- word, of at most two limbs. -/
theorem word_at (A : Option Addr) (n c B Z : Nat) (w : World) (hr : Row w B A n (ints .u32 (limbs Z))) (hn : (limbs Z).length = n) (h2 : n ≤ 2) :
    Calls Tryd.prog 41 #[.slice A n c] w fun e w' => e = .returned (.int .u64 (Z : Int)) ∧ w = w' := by
  have := word_any A n c B (limbs Z) w hr (lim_limbs Z)
  rwa [low_all (by omega), val_limbs] at this
theorem two_lt {Z n : Nat} (hn : (limbs Z).length = n) (h2 : n ≤ 2) : Z < 18446744073709551616 := by
  have h1 := val_lt (lim_limbs Z)
  rw [val_limbs, hn] at h1
  have h3 : 4294967296 ^ n ≤ 4294967296 ^ 2 := Nat.pow_le_pow_right (by omega) h2
  omega
set_option maxRecDepth 100000 in
set_option maxHeartbeats 2000000 in
theorem Gcd_any (A A' : Option Addr) (n c n' c' : Nat) (a b : List Int) (w : World) (hr : Row w w.heap.size A n (ints .u32 a)) (hr' : Row w w.heap.size A' n' (ints .u32 b)) (ha : Lim a) (hb : Lim b) :
    Calls Tryd.prog 32 #[.slice A n c, .slice A' n' c'] w (AddOut w (gcdL a b) (chk2 a b)) := by
  have hl := hr.1
  have hl' := hr'.1
  rw [ints_len] at hl hl'
  have HC := Lib.hid (checkBoth_any A A' n c n' c' _ a b w hr hr')
  by_cases hx : chk2 a b = 0
  · have hlen := chk2_ok hx
    have hn64 : n ≤ 64 := by have := chk_len hlen.1; omega
    have hn64' : n' ≤ 64 := by have := chk_len hlen.2; omega
    have hL : gcdL a b = limbs (Nat.gcd (val a) (val b)) := by rw [gcdL, if_pos hx]
    have hla := limbs_of hlen.1 ha
    have hlb := limbs_of hlen.2 hb
    rw [hL, hx]
    rw [hx] at HC
    have HR := Lib.hid hr
    have HR' := Lib.hid hr'
    have HE := Lib.hid (And.intro hla hlb)
    have HNA := Lib.hid (And.intro hl hl')
    clear hr hr' ha hb hx hlen hL hla hlb
    obtain ⟨VA, hVA⟩ : ∃ V, val a = V := ⟨_, rfl⟩
    obtain ⟨VB, hVB⟩ : ∃ V, val b = V := ⟨_, rfl⟩
    rw [hVA, hVB] at HE ⊢
    clear hVA hVB
    subst hl
    subst hl'
    go_enter Tryd.func32, Tryd.ntmps32
    go_wp2_with fail
    with_reducible refine HC.out.mono ?_
    rintro e w' ⟨rfl, rfl⟩
    go_wp2_with fail
    with_reducible refine (Clone32_any A a.length c _ a w HR.out (Nat.le_refl _) (by omega)).mono ?_
    rintro e w2 ⟨A2, c2, rfl, o2, b2⟩
    go_wp2_with fail
    with_reducible refine (Clone32_any A' b.length c' _ b w2 (HR'.out.on b2) (Nat.le_refl _) (by omega)).mono ?_
    rintro e w3 ⟨A3, c3, rfl, o3, h3⟩
    have o2' := own_on o2 h3
    have o3' := own_low o3 b2.size
    have b3 := next b2 h3
    obtain ⟨na, hna⟩ : ∃ x, a.length = x := ⟨_, rfl⟩
    obtain ⟨nb, hnb⟩ : ∃ x, b.length = x := ⟨_, rfl⟩
    rw [hna] at o2' hn64 ⊢
    rw [hnb] at o3' hn64' ⊢
    have HN0 : Hid ((limbs VA).length = na ∧ (limbs VB).length = nb) := Lib.hid ⟨by rw [HE.out.1]; exact hna, by rw [HE.out.2]; exact hnb⟩
    rw [← HE.out.1] at o2'
    rw [← HE.out.2] at o3'
    clear o2 o3 b2 h3 hna hnb HE
    go_wp2_with fail
    go_loopg [0, 1, 7, 8] VB (fun Y s0 s1 s7 s8 wx => ∃ (X : Nat) (Ax : Option Addr) (cx nx : Nat) (Ay : Option Addr) (cy ny : Nat), s0 = .slice Ax nx cx ∧ s1 = .slice Ay ny cy ∧ nx ≤ 64 ∧ ny ≤ 64 ∧ Hid ((limbs X).length = nx ∧ (limbs Y).length = ny) ∧ Hid (Nat.gcd X Y = Nat.gcd VA VB) ∧
      wx.ownsRow w.heap.size 34 1 (.slice Ax nx cx) nx (ints .u32 (limbs X)) ∧ wx.ownsRow w.heap.size 34 1 (.slice Ay ny cy) ny (ints .u32 (limbs Y)) ∧ Below w.heap.size w wx)
    case atStart => exact ⟨VA, A2, c2, na, A3, c3, nb, rfl, rfl, hn64, hn64', HN0, Lib.hid rfl, o2', o3', b3⟩
    case round =>
      obtain ⟨X, Ax, cx, nx, Ay, cy, ny, rfl, rfl, hnx, hny, HN, HG, ox, oy, hb⟩ := hrel
      rename World => ws
      by_cases h2 : 2 < ny
      · have hYp : 0 < gk := by
          rcases Nat.eq_zero_or_pos gk with h | h
          · exfalso
            have := HN.out.2
            rw [h, limbs_zero] at this
            simp at this
            omega
          · exact h
        have cD := divide_any Ax Ay nx cx ny cy ws.heap.size (limbs X) (limbs gk) ws (Row.own ox) (Row.own oy) (Nat.le_refl _) (lim_limbs X) (lim_limbs gk) (limbs_top X) (limbs_top gk) (by omega) (by omega) (by rw [val_limbs]; exact hYp)
        rw [val_limbs, val_limbs] at cD
        have CD := Lib.hid cD
        have HBb := Lib.hid hb
        have HBs := Lib.hid hb.size
        have hny0 : (2 : Int) < (ny : Int) := by omega
        have hml : (limbs (X % gk)).length ≤ 64 := by
          have h1 := val_lt (lim_limbs gk)
          rw [val_limbs, HN.out.2] at h1
          have h2 := Nat.mod_lt X hYp
          have := limbs_len (n := X % gk) (k := ny) (by omega)
          omega
        have HGn : Hid (Nat.gcd gk (X % gk) = Nat.gcd VA VB) := Lib.hid (by rw [← HG.out, Nat.gcd_comm X gk, Nat.gcd_rec gk X, Nat.gcd_comm])
        have HMl := Lib.hid (Nat.mod_lt X hYp)
        clear cD ox hb
        go_wp2_with fail
        with_reducible refine CD.out.mono ?_
        rintro e w5 ⟨A5, c5, A6, c6, rfl, o5, o6, b6⟩
        have oy' := own_on oy b6
        have o6' := own_low o6 HBs.out
        have b7 := next HBb.out b6
        clear o5 o6 b6 CD oy
        go_wp2_with fail
        go_roundg (X % gk)
        case rel => exact ⟨gk, Ay, cy, ny, A6, c6, _, rfl, rfl, hny, hml, Lib.hid ⟨HN.out.2, rfl⟩, HGn, oy', o6', b7⟩
        case measure => exact HMl.out
      · by_cases h0 : ny = 0
        · have hY : gk = 0 := by
            have h1 := HN.out.2
            have h2 := val_lt (lim_limbs gk)
            rw [val_limbs, h1, h0] at h2
            simpa using h2
          subst hY
          have HX : Hid (X = Nat.gcd VA VB) := Lib.hid (by have := HG.out; rwa [Nat.gcd_zero_right] at this)
          subst h0
          have hnn := HN.out.1
          go_wp2
          go_ret2
          rw [← HX.out]
          subst hnn
          exact ⟨Ax, cx, rfl, ox, hb⟩
        · have hny2 : ny ≤ 2 := by omega
          have hgk0 : 0 < gk := by
            rcases Nat.eq_zero_or_pos gk with h | h
            · exfalso
              apply h0
              rw [← HN.out.2, h, limbs_zero]
              rfl
            · exact h
          have hd2 : ((ny : Int) == 0) = false := by simp; omega
          have hd3 : (ny : Int) ≤ 2 := by omega
          by_cases hx2 : 2 < nx
          · have cD := divide_any Ax Ay nx cx ny cy ws.heap.size (limbs X) (limbs gk) ws (Row.own ox) (Row.own oy) (Nat.le_refl _) (lim_limbs X) (lim_limbs gk) (limbs_top X) (limbs_top gk) (by omega) (by omega) (by rw [val_limbs]; exact hgk0)
            rw [val_limbs, val_limbs] at cD
            have CD := Lib.hid cD
            have HBb := Lib.hid hb
            have HBs := Lib.hid hb.size
            have hnx0 : (2 : Int) < (nx : Int) := by omega
            have hml2 : (limbs (X % gk)).length ≤ 2 := by
              have h1 := val_lt (lim_limbs gk)
              rw [val_limbs, HN.out.2] at h1
              have h2 := Nat.mod_lt X hgk0
              have := limbs_len (n := X % gk) (k := ny) (by omega)
              omega
            have HG2 : Hid (Nat.gcd gk (X % gk) = Nat.gcd VA VB) := Lib.hid (by rw [← HG.out, Nat.gcd_comm X gk, Nat.gcd_rec gk X, Nat.gcd_comm])
            obtain ⟨nz, hnz⟩ : ∃ z, (limbs (X % gk)).length = z := ⟨_, rfl⟩
            have HNz : Hid ((limbs gk).length = ny ∧ (limbs (X % gk)).length = nz) := Lib.hid ⟨HN.out.2, hnz⟩
            rw [hnz] at hml2
            rw [hnz] at CD
            clear cD ox hb hnz
            go_wp2_with fail
            with_reducible refine CD.out.mono ?_
            rintro e w5 ⟨A5, c5, A6, c6, rfl, o5, o6, b6⟩
            have oy' := own_on oy b6
            have o6' := own_low o6 HBs.out
            have b7 := next HBb.out b6
            clear o5 o6 b6 CD oy
            generalize X % gk = Z at *


            have WU := Lib.hid (word_at Ay ny cy w5.heap.size gk w5 (Row.own oy') HNz.out.1 (by omega))
            have WV := Lib.hid (word_at A6 nz c6 w5.heap.size Z w5 (Row.own o6') HNz.out.2 (by omega))
            have lU := two_lt HNz.out.1 (by omega)
            have lV := two_lt HNz.out.2 (by omega)
            have HBx := Lib.hid b7
            clear oy' o6' b7
            go_wp2_with fail
            with_reducible refine WU.out.mono ?_
            rintro e w8 ⟨rfl, rfl⟩
            go_wp2_with fail
            with_reducible refine WV.out.mono ?_
            rintro e w8 ⟨rfl, rfl⟩
            go_wp2_with fail
            go_loopg [11, 12] (Z) (fun v s11 s12 wx => ∃ u : Nat, s11 = .int .u64 (u : Int) ∧ s12 = .int .u64 (v : Int) ∧ u < 18446744073709551616 ∧ v < 18446744073709551616 ∧ Hid (Nat.gcd u v = Nat.gcd VA VB) ∧ ∃ q : Nat, wx = w5.drewN q)
            case atStart => exact ⟨gk, rfl, rfl, lU, lV, HG2, 0, rfl⟩
            case round =>
              obtain ⟨u, rfl, rfl, hu, hv, HGu, q, rfl⟩ := hrel
              by_cases hv0 : gk = 0
              · subst hv0
                have HUe : Hid (u = Nat.gcd VA VB) := Lib.hid (by have := HGu.out; rwa [Nat.gcd_zero_right] at this)
                have HBx2 : Below w.heap.size w (w5.drewN q) := ⟨HBx.out.os, HBx.out.tape, HBx.out.output, HBx.out.size, HBx.out.block⟩
                have cO := Of_any (u : Int) (w5.drewN q) (by omega) (by omega)
                rw [Int.toNat_natCast] at cO
                have CO := Lib.hid cO
                clear cO
                go_wp2_with fail
                with_reducible refine CO.out.mono ?_
                rintro e w9 ⟨A9, c9, rfl, o9, h9⟩
                go_wp2
                go_ret2
                rw [← HUe.out]
                exact ⟨A9, c9, rfl, own_low o9 HBx2.size, next HBx2 h9⟩
              · have hvp : (0 : Int) < (gk : Int) := by omega
                have hu0 : (0 : Int) ≤ (u : Int) := by omega
                have hmod : (u : Int).tmod (gk : Int) = ((u % gk : Nat) : Int) := by rw [Int.tmod_eq_emod_of_nonneg (by omega)]; rfl
                have hmod2 : (u : Int) % (gk : Int) = ((u % gk : Nat) : Int) := by rfl
                have HGr : Hid (Nat.gcd gk (u % gk) = Nat.gcd VA VB) := Lib.hid (by rw [← HGu.out, Nat.gcd_comm u gk, Nat.gcd_rec gk u, Nat.gcd_comm])
                have hml := Nat.mod_lt u (show gk > 0 by omega)
                have HMl := Lib.hid hml
                generalize u % gk = t at *
                go_wp2_with fail
                go_region_with fail
                all_goals
                  go_wp2_with fail
                  go_roundg t
                  case rel => exact ⟨gk, rfl, by first | rfl | (congr 1), hv, by omega, HGr, q + 1, rfl⟩
                  case measure => exact HMl.out
          · have hx3 : (nx : Int) ≤ 2 := by omega
            have HG2 := HG
            have WU := Lib.hid (word_at Ax nx cx ws.heap.size X ws (Row.own ox) HN.out.1 (by omega))
            have WV := Lib.hid (word_at Ay ny cy ws.heap.size gk ws (Row.own oy) HN.out.2 (by omega))
            have lU := two_lt HN.out.1 (by omega)
            have lV := two_lt HN.out.2 (by omega)
            have HBx := Lib.hid hb
            clear ox oy hb
            go_wp2_with fail
            with_reducible refine WU.out.mono ?_
            rintro e w8 ⟨rfl, rfl⟩
            go_wp2_with fail
            with_reducible refine WV.out.mono ?_
            rintro e w8 ⟨rfl, rfl⟩
            go_wp2_with fail
            go_loopg [11, 12] (gk) (fun v s11 s12 wx => ∃ u : Nat, s11 = .int .u64 (u : Int) ∧ s12 = .int .u64 (v : Int) ∧ u < 18446744073709551616 ∧ v < 18446744073709551616 ∧ Hid (Nat.gcd u v = Nat.gcd VA VB) ∧ ∃ q : Nat, wx = ws.drewN q)
            case atStart => exact ⟨X, rfl, rfl, lU, lV, HG2, 0, rfl⟩
            case round =>
              obtain ⟨u, rfl, rfl, hu, hv, HGu, q, rfl⟩ := hrel
              by_cases hv0 : gk = 0
              · subst hv0
                have HUe : Hid (u = Nat.gcd VA VB) := Lib.hid (by have := HGu.out; rwa [Nat.gcd_zero_right] at this)
                have HBx2 : Below w.heap.size w (ws.drewN q) := ⟨HBx.out.os, HBx.out.tape, HBx.out.output, HBx.out.size, HBx.out.block⟩
                have cO := Of_any (u : Int) (ws.drewN q) (by omega) (by omega)
                rw [Int.toNat_natCast] at cO
                have CO := Lib.hid cO
                clear cO
                go_wp2_with fail
                with_reducible refine CO.out.mono ?_
                rintro e w9 ⟨A9, c9, rfl, o9, h9⟩
                go_wp2
                go_ret2
                rw [← HUe.out]
                exact ⟨A9, c9, rfl, own_low o9 HBx2.size, next HBx2 h9⟩
              · have hvp : (0 : Int) < (gk : Int) := by omega
                have hu0 : (0 : Int) ≤ (u : Int) := by omega
                have hmod : (u : Int).tmod (gk : Int) = ((u % gk : Nat) : Int) := by rw [Int.tmod_eq_emod_of_nonneg (by omega)]; rfl
                have hmod2 : (u : Int) % (gk : Int) = ((u % gk : Nat) : Int) := by rfl
                have HGr : Hid (Nat.gcd gk (u % gk) = Nat.gcd VA VB) := Lib.hid (by rw [← HGu.out, Nat.gcd_comm u gk, Nat.gcd_rec gk u, Nat.gcd_comm])
                have hml := Nat.mod_lt u (show gk > 0 by omega)
                have HMl := Lib.hid hml
                generalize u % gk = t at *
                go_wp2_with fail
                go_region_with fail
                all_goals
                  go_wp2_with fail
                  go_roundg t
                  case rel => exact ⟨gk, rfl, by first | rfl | (congr 1), hv, by omega, HGr, q + 1, rfl⟩
                  case measure => exact HMl.out
  · have hL : gcdL a b = [] := by rw [gcdL, if_neg hx]
    rw [hL]
    have hd : (chk2 a b == 0) = false := by simpa using hx
    clear hr hr' ha hb hx hl hl' hL
    generalize chk2 a b = x at *
    go_enter Tryd.func32, Tryd.ntmps32
    go_wp2_with fail
    with_reducible refine HC.out.mono ?_
    rintro e w' ⟨rfl, rfl⟩
    go_wp2
    go_ret2
    exact ⟨none, 0, rfl, World.ownsRow_nil _ _ _ _, Below.refl _ _⟩
end Go.Proofs.YtlpfcilgndbopaaDoor
