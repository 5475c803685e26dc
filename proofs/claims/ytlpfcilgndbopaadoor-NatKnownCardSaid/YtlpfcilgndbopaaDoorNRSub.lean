/- The document's sub, Sub. -/
import Derived.Test.YtlpfcilgndbopaaDoorNSubAll
namespace Go.Proofs.YtlpfcilgndbopaaDoor
open Go.RowKit

set_option maxRecDepth 100000 in
set_option maxHeartbeats 1000000 in
theorem rsub_any (A A' : Option Addr) (n c n' c' : Nat) (a b : List Int) (w : World) (hr : Row w w.heap.size A n (ints .u32 a)) (hr' : Row w w.heap.size A' n' (ints .u32 b)) (ha : Lim a) (hb : Lim b) (hn : n ≤ 1000000000) (hbl : low b n = val b) (hle : val b ≤ val a) :
    Calls Tryd.prog 52 #[.slice A n c, .slice A' n' c'] w (New w (limbs (val a - val b))) := by
  obtain ⟨i0, hi, hz0, hz1, hz2⟩ := u32_parts
  have hl := hr.1
  have hl' := hr'.1
  rw [ints_len] at hl hl'
  have HA := Lib.hid ha
  have HB := Lib.hid hb
  have HL := Lib.hid hl
  have HL' := Lib.hid hl'
  have HR := Lib.hid hr
  have HR' := Lib.hid hr'
  have HE := Lib.hid (And.intro hbl hle)
  clear ha hb hl hl' hr' hbl hle
  go_enter Tryd.func52, Tryd.ntmps52
  go_wp2_with (at_builtin; refine wpList_app _ rfl (.const (.slice none 0 0)) (.tmp 9) 22 rfl w.heap.size 34 i0 (.int .u32 0) 4 Tryd.underlying22 hi hz0 hz1 hz2 rfl _ 0 [] rfl (World.ownsRow_nil _ _ _ _) _ _ _ _ _ rfl hr (ints_one _ _) (by unfold maxLen; omega) (by omega) (Nat.le_refl _) ?_)
  intro v' w1 hown _ hb1
  obtain ⟨A1, c1, rfl⟩ := own_slice32 hown
  clear hr
  go_wp2
  go_loopw [6, 7] (fun cy i wr => ∃ (k : Nat) (z : Int) (s : List Int), k ≤ n ∧ i = .int .i64 k ∧ cy = .int .i64 z ∧ Hid (0 ≤ z ∧ z ≤ 1) ∧ Hid (s.length = k ∧ Lim s ∧ val s + low b k = low a k + 4294967296 ^ k * z.toNat) ∧
    wr.ownsRow w.heap.size 34 1 (.slice A1 n c1) n (ints .u32 (s ++ a.drop k)) ∧ Below w.heap.size w wr) (fun _ i _ => n - (intOf i).toNat)
  case atStart => exact ⟨0, 0, [], Nat.zero_le _, rfl, rfl, Lib.hid (by omega), Lib.hid ⟨rfl, Lim.nil, by rw [low_zero, low_zero]; rfl⟩, hown, hb1⟩
  case round =>
    obtain ⟨k, z, s, hk, rfl, rfl, HZ, HS, hown, hb⟩ := hrel
    rename World => ws
    by_cases hkn : k < n
    · have hkz : (k : Int) < (n : Int) := by omega
      have hk0 : (0 : Int) ≤ (k : Int) := by omega
      rcases own_forms hown with ⟨rfl, h0, rfl⟩ | ⟨g, rfl, hbg, hgl⟩
      · omega
      have hcell0 := (hown.cellAt k (by omega)).trans (drop_at HS.out.1 HL.out hkn)
      have hfz := hown.frozenAt k
      have HQ := Lib.hid (fun q hq => sub_step (q := q) HA.out HB.out HZ.out HS.out.1 hq HS.out.2.2)
      have hxl := HA.out.at k
      have hyl := HB.out.at k
      have hra := HR.out.below hb
      have hrb := HR'.out.below hb
      have H0b : Hid (n' ≤ k → b.getD k 0 = 0) := Lib.hid fun h => by rw [List.getD_eq_getElem?_getD, List.getElem?_eq_none (by have := HL'.out; omega)]; rfl
      obtain ⟨ba, oa, rfl, -, -⟩ := hra.2 (by omega)
      have hcella : ws.cell? ⟨ba, oa + k, none⟩ = some (.int .u32 (a.getD k 0)) := hra.int hkn
      have hcb : k < n' → ∃ bb ob, A' = some ⟨bb, ob, none⟩ ∧ ws.cell? ⟨bb, ob + k, none⟩ = some (.int .u32 (b.getD k 0)) := fun h => by
        obtain ⟨bb, ob, rfl, -, -⟩ := hrb.2 (by omega)
        exact ⟨bb, ob, rfl, hrb.int h⟩
      obtain ⟨x, hx⟩ : ∃ x, a.getD k 0 = x := ⟨_, rfl⟩
      obtain ⟨y, hy⟩ : ∃ y, b.getD k 0 = y := ⟨_, rfl⟩
      rw [hx] at hxl hcell0 hcella
      rw [hy] at hyl hcb H0b
      have HX := Lib.hid hx
      have HY := Lib.hid hy
      obtain ⟨hx0, hx1⟩ := hxl
      obtain ⟨hy0, hy1⟩ := hyl
      obtain ⟨hz0, hz1⟩ := HZ.out
      have hcell : ws.cell? ⟨g, k, none⟩ = some (.int .u32 x) := hcell0
      have HOwn := Lib.hid hown
      have Hra := Lib.hid hra
      clear hx hy hown hcell0 hra hrb
      by_cases hkb : k < n'
      · by_cases hneg : x - z - y < 0
        · obtain ⟨bb, ob, rfl, hcellb⟩ := hcb hkb
          have hkbz : (k : Int) < (n' : Int) := by omega
          have hs : x - z - y < 0 := by omega
          clear hcb hkb hneg
          have HS2 : Hid ((s ++ [(x - z - y + 4294967296)]).length = k + 1 ∧ Lim (s ++ [(x - z - y + 4294967296)]) ∧ val (s ++ [(x - z - y + 4294967296)]) + low b (k + 1) = low a (k + 1) + 4294967296 ^ (k + 1) * (1 : Int).toNat) := Lib.hid (by
            refine ⟨by rw [List.length_append, HS.out.1]; rfl, HS.out.2.1.app (Lim.one (by omega) (by omega)), ?_⟩
            have := HQ.out 1 (by rw [HX.out, HY.out]; rw [if_pos (by omega)])
            rw [HX.out, HY.out, show (x - y - z) % 4294967296 = (x - z - y + 4294967296) by omega] at this
            exact this)
          go_wp2
          go_roundw
          case rel =>
            refine ⟨k + 1, 1, s ++ [(x - z - y + 4294967296)], by omega, by go_num, rfl, Lib.hid (by omega), HS2, ?_, hb.grown (HOwn.out.stored k _).2 (by have := hb.size; omega) (fun j hj => by injection hj with hj; omega)⟩
            have := (HOwn.out.stored k (.int .u32 (x - z - y + 4294967296))).1
            rw [set_drop (x - z - y + 4294967296) HS.out.1 HL.out hkn] at this
            exact this
          case measure => simp [intOf]; omega
        · obtain ⟨bb, ob, rfl, hcellb⟩ := hcb hkb
          have hkbz : (k : Int) < (n' : Int) := by omega
          have hs : 0 ≤ x - z - y := by omega
          clear hcb hkb hneg
          have HS2 : Hid ((s ++ [(x - z - y)]).length = k + 1 ∧ Lim (s ++ [(x - z - y)]) ∧ val (s ++ [(x - z - y)]) + low b (k + 1) = low a (k + 1) + 4294967296 ^ (k + 1) * (0 : Int).toNat) := Lib.hid (by
            refine ⟨by rw [List.length_append, HS.out.1]; rfl, HS.out.2.1.app (Lim.one (by omega) (by omega)), ?_⟩
            have := HQ.out 0 (by rw [HX.out, HY.out]; rw [if_neg (by omega)])
            rw [HX.out, HY.out, show (x - y - z) % 4294967296 = (x - z - y) by omega] at this
            exact this)
          go_wp2
          go_roundw
          case rel =>
            refine ⟨k + 1, 0, s ++ [(x - z - y)], by omega, by go_num, rfl, Lib.hid (by omega), HS2, ?_, hb.grown (HOwn.out.stored k _).2 (by have := hb.size; omega) (fun j hj => by injection hj with hj; omega)⟩
            have := (HOwn.out.stored k (.int .u32 (x - z - y))).1
            rw [set_drop (x - z - y) HS.out.1 HL.out hkn] at this
            exact this
          case measure => simp [intOf]; omega
      · by_cases hneg : x - z < 0
        · have hkbz : (n' : Int) ≤ (k : Int) := by omega
          obtain rfl : y = 0 := H0b.out (by omega)
          have hs : x - z < 0 := by omega
          clear hcb hkb hneg
          have HS2 : Hid ((s ++ [(x - z + 4294967296)]).length = k + 1 ∧ Lim (s ++ [(x - z + 4294967296)]) ∧ val (s ++ [(x - z + 4294967296)]) + low b (k + 1) = low a (k + 1) + 4294967296 ^ (k + 1) * (1 : Int).toNat) := Lib.hid (by
            refine ⟨by rw [List.length_append, HS.out.1]; rfl, HS.out.2.1.app (Lim.one (by omega) (by omega)), ?_⟩
            have := HQ.out 1 (by rw [HX.out, HY.out]; rw [if_pos (by omega)])
            rw [HX.out, HY.out, show (x - 0 - z) % 4294967296 = (x - z + 4294967296) by omega] at this
            exact this)
          go_wp2
          go_roundw
          case rel =>
            refine ⟨k + 1, 1, s ++ [(x - z + 4294967296)], by omega, by go_num, rfl, Lib.hid (by omega), HS2, ?_, hb.grown (HOwn.out.stored k _).2 (by have := hb.size; omega) (fun j hj => by injection hj with hj; omega)⟩
            have := (HOwn.out.stored k (.int .u32 (x - z + 4294967296))).1
            rw [set_drop (x - z + 4294967296) HS.out.1 HL.out hkn] at this
            exact this
          case measure => simp [intOf]; omega
        · have hkbz : (n' : Int) ≤ (k : Int) := by omega
          obtain rfl : y = 0 := H0b.out (by omega)
          have hs : 0 ≤ x - z := by omega
          clear hcb hkb hneg
          have HS2 : Hid ((s ++ [(x - z)]).length = k + 1 ∧ Lim (s ++ [(x - z)]) ∧ val (s ++ [(x - z)]) + low b (k + 1) = low a (k + 1) + 4294967296 ^ (k + 1) * (0 : Int).toNat) := Lib.hid (by
            refine ⟨by rw [List.length_append, HS.out.1]; rfl, HS.out.2.1.app (Lim.one (by omega) (by omega)), ?_⟩
            have := HQ.out 0 (by rw [HX.out, HY.out]; rw [if_neg (by omega)])
            rw [HX.out, HY.out, show (x - 0 - z) % 4294967296 = (x - z) by omega] at this
            exact this)
          go_wp2
          go_roundw
          case rel =>
            refine ⟨k + 1, 0, s ++ [(x - z)], by omega, by go_num, rfl, Lib.hid (by omega), HS2, ?_, hb.grown (HOwn.out.stored k _).2 (by have := hb.size; omega) (fun j hj => by injection hj with hj; omega)⟩
            have := (HOwn.out.stored k (.int .u32 (x - z))).1
            rw [set_drop (x - z) HS.out.1 HL.out hkn] at this
            exact this
          case measure => simp [intOf]; omega
    · obtain rfl : k = n := by omega
      have hv := sub_end HS.out.1 HS.out.2.1 HL.out HE.out.1 HE.out.2 HZ.out HS.out.2.2
      rw [List.drop_eq_nil_of_le (by have := HL.out; omega), List.append_nil] at hown
      have HV := Lib.hid hv
      have hcap := own_cap32 hown
      clear hkn hv
      go_wp2_with fail
      refine (rtrim_any A1 k c1 _ s ws (Row.own hown) HS.out.2.1 (by omega) hcap.1 hcap.2).mono ?_
      rw [HV.out]
      rintro e w' hN
      obtain ⟨A2, c2, rfl, hown2, hb2⟩ := New.from hb hN
      go_wp2
      go_ret
      exact ⟨A2, c2, rfl, hown2, hb2⟩

theorem Below.ofDrewN {w w' : World} {k : Nat} (h : Below (w.drewN k).heap.size (w.drewN k) w') : Below w.heap.size w w' := ⟨h.os, h.tape, h.output, h.size, h.block⟩
theorem cmpR_canon {a b : List Int} (ha : Lim a) (hb : Lim b) (hca : chk a = 0) (hcb : chk b = 0) : cmpR a b = cmpI (val a) (val b) := by
  have := cmpR_limbs (val a) (val b)
  rwa [limbs_of hca ha, limbs_of hcb hb] at this

set_option maxRecDepth 100000 in
set_option maxHeartbeats 1000000 in
theorem rSub_any (A A' : Option Addr) (n c n' c' : Nat) (a b : List Int) (w : World) (hr : Row w w.heap.size A n (ints .u32 a)) (hr' : Row w w.heap.size A' n' (ints .u32 b)) (ha : Lim a) (hb : Lim b) :
    Calls Tryd.prog 18 #[.slice A n c, .slice A' n' c'] w (AddOut w (subL a b) (subE a b)) := by
  have hl := hr.1
  have hl' := hr'.1
  rw [ints_len] at hl hl'
  have HC := Lib.hid (two_any A A' n c n' c' _ a b w hr hr')
  by_cases hx : chk2 a b = 0
  · have hlen := chk2_ok hx
    have hn64 : n ≤ 64 := by have := chk_len hlen.1; omega
    have HM := cmp_any A A' n c n' c' _ a b w hr hr' ha hb (by omega)
    rw [cmpR_canon ha hb hlen.1 hlen.2] at HM
    replace HM := Lib.hid HM
    rw [hx] at HC
    by_cases hlt : val a < val b
    · have hE : subE a b = 9 := by rw [subE, if_neg (by omega), if_pos hlt]
      have hL : subL a b = [] := by rw [subL, if_neg (by omega)]
      rw [hE, hL]
      have hd : cmpI (val a) (val b) < 0 := by rw [cmpI, if_pos hlt]; decide
      clear hr hr' ha hb hx hlen hl hl' hlt hE hL
      generalize cmpI (val a) (val b) = x at *
      go_enter Tryd.func18, Tryd.ntmps18
      go_wp2_with fail
      refine HC.out.mono ?_
      rintro e w' ⟨rfl, rfl⟩
      go_wp2_with fail
      refine HM.out.mono ?_
      rintro e w' ⟨rfl, k, rfl⟩
      go_wp2
      go_ret2
      exact ⟨none, 0, rfl, World.ownsRow_nil _ _ _ _, ⟨rfl, rfl, rfl, Nat.le_refl _, fun _ _ => rfl⟩⟩
    · have hE : subE a b = 0 := by rw [subE, if_neg (by omega), if_neg hlt]
      have hL : subL a b = limbs (val a - val b) := by rw [subL, if_pos hE]
      rw [hE, hL]
      have hd : 0 ≤ cmpI (val a) (val b) := by
        rw [cmpI, if_neg hlt]
        by_cases h2 : val b < val a
        · rw [if_pos h2]; decide
        · rw [if_neg h2]; decide
      have HS : Hid (∀ k, Calls Tryd.prog 52 #[.slice A n c, .slice A' n' c'] (w.drewN k) (New (w.drewN k) (limbs (val a - val b)))) :=
        Lib.hid fun k => rsub_any A A' n c n' c' a b (w.drewN k) hr hr' ha hb (by omega) (low_canon ha hb hl hlen.2 (by omega)) (by omega)
      clear hr hr' ha hb hx hlen hl hl' hlt hE hL
      generalize cmpI (val a) (val b) = x at *
      go_enter Tryd.func18, Tryd.ntmps18
      go_wp2_with fail
      refine HC.out.mono ?_
      rintro e w' ⟨rfl, rfl⟩
      go_wp2_with fail
      refine HM.out.mono ?_
      rintro e w' ⟨rfl, k, rfl⟩
      go_wp2_with fail
      refine (HS.out k).mono ?_
      rintro e w' ⟨A1, c1, rfl, hown, hb1⟩
      go_wp2
      go_ret2
      exact ⟨A1, c1, rfl, hown, Below.ofDrewN hb1⟩
  · have hE : subE a b = chk2 a b := by rw [subE, if_pos hx]
    have hL : subL a b = [] := by rw [subL, hE, if_neg hx]
    rw [hE, hL]
    have hd : (chk2 a b == 0) = false := by simpa using hx
    clear hr hr' ha hb hx hl hl' hE hL
    generalize chk2 a b = x at *
    go_enter Tryd.func18, Tryd.ntmps18
    go_wp2_with fail
    refine HC.out.mono ?_
    rintro e w' ⟨rfl, rfl⟩
    go_wp2
    go_ret2
    exact ⟨none, 0, rfl, World.ownsRow_nil _ _ _ _, Below.refl _ _⟩
end Go.Proofs.YtlpfcilgndbopaaDoor
