/- The document's Check, two, add, Add. -/
import Derived.Test.YtlpfcilgndbopaaDoorNAdd
namespace Go.Proofs.YtlpfcilgndbopaaDoor
open Go.RowKit

theorem rCheck_any (A : Option Addr) (n c B : Nat) (a : List Int) (w : World) (hr : Row w B A n (ints .u32 a)) :
    Calls Tryd.prog 25 #[.slice A n c] w fun e w' => e = .returned (.int .i64 (chk a)) ∧ w = w' := by
  have hl := hr.1
  rw [ints_len] at hl
  have HL := Lib.hid hl
  by_cases h64 : 64 < n
  · have HC : Hid (chk a = 5) := by unfold Hid chk; rw [if_pos (by omega)]
    clear hl hr
    go_enter Tryd.func25, Tryd.ntmps25
    go_wp2
    go_ret
    exact ⟨ret_int HC.out.symm, rfl⟩
  · by_cases h0 : 0 < n
    · obtain ⟨b, off, rfl, hb, hc⟩ := hr.2 h0
      have hcell : w.cell? ⟨b, off + (n - 1), none⟩ = some (.int .u32 (a.getD (n - 1) 0)) := hr.int (by omega)
      have HC : Hid (chk a = if a.getD (n - 1) 0 = 0 then 2 else 0) := by
        unfold Hid chk
        rw [if_neg (by omega), getLast_at hl h0]
        simp
      have h1 : (1 : Int) ≤ n := by omega
      have h2 : (n : Int) ≤ 64 := by omega
      clear hl hr hc h64
      generalize a.getD (n - 1) 0 = x at *
      by_cases hx : x = 0
      · subst hx
        go_enter Tryd.func25, Tryd.ntmps25
        go_wp2
        go_ret
        exact ⟨ret_int (by rw [HC.out]; rfl), rfl⟩
      · have hd : (x == 0) = false := by simpa using hx
        have HX := Lib.hid hx
        clear hx
        go_enter Tryd.func25, Tryd.ntmps25
        go_wp2
        go_ret
        exact ⟨ret_int (by rw [HC.out, if_neg HX.out]), rfl⟩
    · obtain rfl : n = 0 := by omega
      obtain rfl : a = [] := List.eq_nil_of_length_eq_zero hl
      clear hr HL h64 h0
      go_enter Tryd.func25, Tryd.ntmps25
      go_wp2
      go_ret
      exact ⟨rfl, rfl⟩
theorem two_any (A A' : Option Addr) (n c n' c' B : Nat) (a b : List Int) (w : World) (hr : Row w B A n (ints .u32 a)) (hr' : Row w B A' n' (ints .u32 b)) :
    Calls Tryd.prog 46 #[.slice A n c, .slice A' n' c'] w fun e w' => e = .returned (.int .i64 (chk2 a b)) ∧ w = w' := by
  have HC := Lib.hid (show chk2 a b = if chk a ≠ 0 then chk a else chk b from rfl)
  have H1 := Lib.hid (rCheck_any A n c B a w hr)
  have H2 := Lib.hid (rCheck_any A' n' c' B b w hr')
  clear hr hr'
  generalize chk a = x at *
  generalize chk b = y at *
  by_cases hx : x = 0
  · subst hx
    go_enter Tryd.func46, Tryd.ntmps46
    go_wp2_with fail
    refine H1.out.mono ?_
    rintro e w' ⟨rfl, rfl⟩
    go_wp2_with fail
    refine H2.out.mono ?_
    rintro e w' ⟨rfl, rfl⟩
    go_wp2
    go_ret
    exact ⟨ret_int (by rw [HC.out]; rfl), rfl⟩
  · have hd : (x == 0) = false := by simpa using hx
    have HX := Lib.hid hx
    clear hx
    go_enter Tryd.func46, Tryd.ntmps46
    go_wp2_with fail
    refine H1.out.mono ?_
    rintro e w' ⟨rfl, rfl⟩
    go_wp2
    go_ret
    exact ⟨ret_int (by rw [HC.out, if_pos HX.out]), rfl⟩


set_option maxRecDepth 100000 in
set_option maxHeartbeats 1000000 in
theorem radd_any (A A' : Option Addr) (n c n' c' : Nat) (a b : List Int) (w : World) (hr : Row w w.heap.size A n (ints .u32 a)) (hr' : Row w w.heap.size A' n' (ints .u32 b)) (ha : Lim a) (hb : Lim b) (hn : n ≤ 1000000000) (hn' : n' ≤ 1000000000) :
    Calls Tryd.prog 47 #[.slice A n c, .slice A' n' c'] w (New w (limbs (val a + val b))) := by
  obtain ⟨i0, hi, hz0, hz1, hz2⟩ := u32_parts
  have hl := hr.1
  have hl' := hr'.1
  rw [ints_len] at hl hl'
  have HA := Lib.hid ha
  have HB := Lib.hid hb
  have HR := Lib.hid hr
  have HR' := Lib.hid hr'
  have HL := Lib.hid (And.intro hl hl')
  clear ha hb hr hr' hl hl'
  go_enter Tryd.func47, Tryd.ntmps47
  go_wp2
  go_loopw [5, 6, 7] (fun o cy i wr => ∃ (k : Nat) (cr : Int) (s : List Int) (A1 : Option Addr) (c1 : Nat), k ≤ n + n' + 1 ∧ i = .int .i64 k ∧ cy = .int .u64 cr ∧ 0 ≤ cr ∧ cr ≤ 1 ∧ o = .slice A1 k c1 ∧ Hid (s.length = k ∧ Lim s ∧ val s + 4294967296 ^ k * cr.toNat = low a k + low b k ∧ (k ≤ n ∨ k ≤ n' ∨ cr = 0)) ∧
    wr.ownsRow w.heap.size 34 1 (.slice A1 k c1) k (ints .u32 s) ∧ Below w.heap.size w wr) (fun _ _ i _ => n + n' + 1 - (intOf i).toNat)
  case atStart => exact ⟨0, 0, [], none, 0, Nat.zero_le _, rfl, rfl, by omega, by omega, rfl, Lib.hid ⟨rfl, Lim.nil, by rw [low_zero, low_zero]; rfl, .inl (Nat.zero_le _)⟩, World.ownsRow_nil _ _ _ _, Below.refl _ _⟩
  case round =>
    obtain ⟨k, cr, s, A1, c1, hk, rfl, rfl, hc0, hc1, rfl, HS, hown, hb⟩ := hrel
    have hk0 : (0 : Int) ≤ (k : Int) := by omega
    have hra := HR.out.below hb
    have hrb := HR'.out.below hb
    have hxl := HA.out.at k
    have hyl := HB.out.at k
    have H0a : Hid (n ≤ k → a.getD k 0 = 0) := Lib.hid fun h => by rw [List.getD_eq_getElem?_getD, List.getElem?_eq_none (by have := HL.out; omega)]; rfl
    have H0b : Hid (n' ≤ k → b.getD k 0 = 0) := Lib.hid fun h => by rw [List.getD_eq_getElem?_getD, List.getElem?_eq_none (by have := HL.out; omega)]; rfl
    have HSTEP := Lib.hid (add_step HA.out HB.out hc0 HS.out.1 HS.out.2.2.1)
    obtain ⟨x, hx⟩ : ∃ x, a.getD k 0 = x := ⟨_, rfl⟩
    obtain ⟨y, hy⟩ : ∃ y, b.getD k 0 = y := ⟨_, rfl⟩
    have hca : k < n → ∃ ba oa, A = some ⟨ba, oa, none⟩ ∧ wr.cell? ⟨ba, oa + k, none⟩ = some (.int .u32 x) := fun h => by
      obtain ⟨ba, oa, rfl, _, _⟩ := hra.2 (by omega)
      exact ⟨ba, oa, rfl, by rw [← hx]; exact hra.int h⟩
    have hcb : k < n' → ∃ ba oa, A' = some ⟨ba, oa, none⟩ ∧ wr.cell? ⟨ba, oa + k, none⟩ = some (.int .u32 y) := fun h => by
      obtain ⟨ba, oa, rfl, _, _⟩ := hrb.2 (by omega)
      exact ⟨ba, oa, rfl, by rw [← hy]; exact hrb.int h⟩
    rw [hx] at hxl
    rw [hy] at hyl
    obtain ⟨hx0, hx1⟩ := hxl
    obtain ⟨hy0, hy1⟩ := hyl
    rw [hx, hy] at HSTEP
    rw [hx] at H0a
    rw [hy] at H0b
    clear hx hy hra hrb
    by_cases hka : k < n
    · by_cases hkb : k < n'
      · obtain ⟨ba, oa, rfl, hcella⟩ := hca hka
        have hkaz : (k : Int) < (n : Int) := by omega
        obtain ⟨bb, ob, rfl, hcellb⟩ := hcb hkb
        have hkbz : (k : Int) < (n' : Int) := by omega
        clear hca hcb hka hkb
        have hp0 : 0 ≤ (cr + x + y) % 4294967296 := by omega
        have hp1 : (cr + x + y) % 4294967296 ≤ 4294967295 := by omega
        have hq0 : 0 ≤ (cr + x + y) / 4294967296 := by omega
        have hq1 : (cr + x + y) / 4294967296 ≤ 1 := by omega
        have HS2 : Hid ((s ++ [(cr + x + y) % 4294967296]).length = k + 1 ∧ Lim (s ++ [(cr + x + y) % 4294967296]) ∧ val (s ++ [(cr + x + y) % 4294967296]) + 4294967296 ^ (k + 1) * ((cr + x + y) / 4294967296).toNat = low a (k + 1) + low b (k + 1) ∧ (k + 1 ≤ n ∨ k + 1 ≤ n' ∨ (cr + x + y) / 4294967296 = 0)) := Lib.hid (by
          refine ⟨by rw [List.length_append, HS.out.1]; rfl, HS.out.2.1.app (Lim.one hp0 hp1), ?_, by omega⟩
          have := HSTEP.out
          rw [show x + y + cr = cr + x + y by omega] at this
          exact this)
        go_wp2_with (at_builtin; refine wpList_app _ rfl (.tmp 46) (.tmp 49) 22 rfl w.heap.size 34 i0 (.int .u32 0) 4 Tryd.underlying22 hi hz0 hz1 hz2 rfl _ _ _ rfl (hown.alloc _) _ _ 1 1 _ rfl (Row.one _ _ _) (by simp [Value.oneCell']) (by unfold maxLen; omega) (by omega) (by simp; have := hb.size; omega) ?_)
        intro v' w' hown' _ hb'
        obtain ⟨A2, c2, rfl⟩ := own_slice32 hown'
        generalize (cr + x + y) % 4294967296 = p at *
        have hb2 : Below w.heap.size w w' := (hb.alloc hb.size _).trans hb'
        go_wp2
        go_roundw
        case rel => exact ⟨k + 1, (cr + x + y) / 4294967296, s ++ [p], A2, c2, by omega, by go_num, rfl, hq0, hq1, by first | rfl | simp, HS2, by simpa [ints_append, ints] using hown', hb2⟩
        case measure => simp [intOf]; omega
      · obtain ⟨ba, oa, rfl, hcella⟩ := hca hka
        have hkaz : (k : Int) < (n : Int) := by omega
        have hkbz : (n' : Int) ≤ (k : Int) := by omega
        obtain rfl : y = 0 := H0b.out (by omega)
        clear hca hcb hka hkb
        have hp0 : 0 ≤ (cr + x) % 4294967296 := by omega
        have hp1 : (cr + x) % 4294967296 ≤ 4294967295 := by omega
        have hq0 : 0 ≤ (cr + x) / 4294967296 := by omega
        have hq1 : (cr + x) / 4294967296 ≤ 1 := by omega
        have HS2 : Hid ((s ++ [(cr + x) % 4294967296]).length = k + 1 ∧ Lim (s ++ [(cr + x) % 4294967296]) ∧ val (s ++ [(cr + x) % 4294967296]) + 4294967296 ^ (k + 1) * ((cr + x) / 4294967296).toNat = low a (k + 1) + low b (k + 1) ∧ (k + 1 ≤ n ∨ k + 1 ≤ n' ∨ (cr + x) / 4294967296 = 0)) := Lib.hid (by
          refine ⟨by rw [List.length_append, HS.out.1]; rfl, HS.out.2.1.app (Lim.one hp0 hp1), ?_, by omega⟩
          have := HSTEP.out
          rw [show x + 0 + cr = cr + x by omega] at this
          exact this)
        go_wp2_with (at_builtin; refine wpList_app _ rfl (.tmp 46) (.tmp 49) 22 rfl w.heap.size 34 i0 (.int .u32 0) 4 Tryd.underlying22 hi hz0 hz1 hz2 rfl _ _ _ rfl (hown.alloc _) _ _ 1 1 _ rfl (Row.one _ _ _) (by simp [Value.oneCell']) (by unfold maxLen; omega) (by omega) (by simp; have := hb.size; omega) ?_)
        intro v' w' hown' _ hb'
        obtain ⟨A2, c2, rfl⟩ := own_slice32 hown'
        generalize (cr + x) % 4294967296 = p at *
        have hb2 : Below w.heap.size w w' := (hb.alloc hb.size _).trans hb'
        go_wp2
        go_roundw
        case rel => exact ⟨k + 1, (cr + x) / 4294967296, s ++ [p], A2, c2, by omega, by go_num, rfl, hq0, hq1, by first | rfl | simp, HS2, by simpa [ints_append, ints] using hown', hb2⟩
        case measure => simp [intOf]; omega
    · by_cases hkb : k < n'
      · have hkaz : (n : Int) ≤ (k : Int) := by omega
        obtain rfl : x = 0 := H0a.out (by omega)
        obtain ⟨bb, ob, rfl, hcellb⟩ := hcb hkb
        have hkbz : (k : Int) < (n' : Int) := by omega
        clear hca hcb hka hkb
        have hp0 : 0 ≤ (cr + y) % 4294967296 := by omega
        have hp1 : (cr + y) % 4294967296 ≤ 4294967295 := by omega
        have hq0 : 0 ≤ (cr + y) / 4294967296 := by omega
        have hq1 : (cr + y) / 4294967296 ≤ 1 := by omega
        have HS2 : Hid ((s ++ [(cr + y) % 4294967296]).length = k + 1 ∧ Lim (s ++ [(cr + y) % 4294967296]) ∧ val (s ++ [(cr + y) % 4294967296]) + 4294967296 ^ (k + 1) * ((cr + y) / 4294967296).toNat = low a (k + 1) + low b (k + 1) ∧ (k + 1 ≤ n ∨ k + 1 ≤ n' ∨ (cr + y) / 4294967296 = 0)) := Lib.hid (by
          refine ⟨by rw [List.length_append, HS.out.1]; rfl, HS.out.2.1.app (Lim.one hp0 hp1), ?_, by omega⟩
          have := HSTEP.out
          rw [show 0 + y + cr = cr + y by omega] at this
          exact this)
        go_wp2_with (at_builtin; refine wpList_app _ rfl (.tmp 46) (.tmp 49) 22 rfl w.heap.size 34 i0 (.int .u32 0) 4 Tryd.underlying22 hi hz0 hz1 hz2 rfl _ _ _ rfl (hown.alloc _) _ _ 1 1 _ rfl (Row.one _ _ _) (by simp [Value.oneCell']) (by unfold maxLen; omega) (by omega) (by simp; have := hb.size; omega) ?_)
        intro v' w' hown' _ hb'
        obtain ⟨A2, c2, rfl⟩ := own_slice32 hown'
        generalize (cr + y) % 4294967296 = p at *
        have hb2 : Below w.heap.size w w' := (hb.alloc hb.size _).trans hb'
        go_wp2
        go_roundw
        case rel => exact ⟨k + 1, (cr + y) / 4294967296, s ++ [p], A2, c2, by omega, by go_num, rfl, hq0, hq1, by first | rfl | simp, HS2, by simpa [ints_append, ints] using hown', hb2⟩
        case measure => simp [intOf]; omega
      · by_cases hcr : cr = 0
        · subst hcr
          have hkaz : (n : Int) ≤ (k : Int) := by omega
          have hkbz : (n' : Int) ≤ (k : Int) := by omega
          have HV : Hid (val s = val a + val b) := Lib.hid (by have := HS.out.2.2.1; rw [low_all (by have := HL.out; omega), low_all (by have := HL.out; omega)] at this; simpa using this)
          clear hca hcb hka hkb
          have hcap := own_cap32 hown
          go_wp2_with fail
          refine (rtrim_any A1 k c1 _ s wr (Row.own hown) HS.out.2.1 (by omega) (hcap.1) (hcap.2)).mono ?_
          rw [HV.out]
          rintro e w' hN
          obtain ⟨A2, c2, rfl, hown2, hb2⟩ := New.from hb hN
          go_wp2
          go_ret
          exact ⟨A2, c2, rfl, hown2, hb2⟩
        · obtain rfl : cr = 1 := by omega
          have hkaz : (n : Int) ≤ (k : Int) := by omega
          have hkbz : (n' : Int) ≤ (k : Int) := by omega
          obtain rfl : x = 0 := H0a.out (by omega)
          obtain rfl : y = 0 := H0b.out (by omega)
          have hkk := HS.out.2.2.2
          have hkn : k ≤ n + n' := by omega
          clear hca hcb hka hkb hkk
          have HS2 : Hid ((s ++ [1]).length = k + 1 ∧ Lim (s ++ [1]) ∧ val (s ++ [1]) + 4294967296 ^ (k + 1) * ((0 : Int)).toNat = low a (k + 1) + low b (k + 1) ∧ (k + 1 ≤ n ∨ k + 1 ≤ n' ∨ (0 : Int) = 0)) := Lib.hid (by
            refine ⟨by rw [List.length_append, HS.out.1]; rfl, HS.out.2.1.app (Lim.one (by decide) (by decide)), ?_, .inr (.inr rfl)⟩
            have := HSTEP.out
            rw [show ((0 : Int) + 0 + 1) % 4294967296 = 1 by decide, show ((0 : Int) + 0 + 1) / 4294967296 = 0 by decide] at this
            exact this)
          go_wp2_with (at_builtin; refine wpList_app _ rfl (.tmp 46) (.tmp 49) 22 rfl w.heap.size 34 i0 (.int .u32 0) 4 Tryd.underlying22 hi hz0 hz1 hz2 rfl _ _ _ rfl (hown.alloc _) _ _ 1 1 _ rfl (Row.one _ _ _) (by simp [Value.oneCell']) (by unfold maxLen; omega) (by omega) (by simp; have := hb.size; omega) ?_)
          intro v' w' hown' _ hb'
          obtain ⟨A2, c2, rfl⟩ := own_slice32 hown'
          have hb2 : Below w.heap.size w w' := (hb.alloc hb.size _).trans hb'
          go_wp2
          go_roundw
          case rel => exact ⟨k + 1, 0, s ++ [1], A2, c2, by omega, by go_num, rfl, by omega, by omega, by first | rfl | simp, Lib.hid ⟨HS2.out.1, HS2.out.2.1, HS2.out.2.2.1, .inr (.inr rfl)⟩, by simpa [ints_append, ints] using hown', hb2⟩
          case measure => simp [intOf]; omega
theorem AddOut.of_new {w w' : World} {l : List Int} {A : Option Addr} {c : Nat} (h1 : w'.ownsRow w.heap.size 34 1 (.slice A l.length c) l.length (ints .u32 l)) (h2 : Below w.heap.size w w') (x : Int) : AddOut w l x (.returned (.tuple #[.slice A l.length c, .int .i64 x])) w' := ⟨A, c, rfl, h1, h2⟩
theorem chk2_ok {a b : List Int} (h : chk2 a b = 0) : chk a = 0 ∧ chk b = 0 := by
  unfold chk2 at h
  by_cases h1 : chk a = 0
  · rw [if_neg (by omega)] at h; exact ⟨h1, h⟩
  · rw [if_pos h1] at h; exact absurd h h1
theorem chk_len {a : List Int} (h : chk a = 0) : a.length ≤ 64 := (chk_ok.1 h).1

theorem rAdd_any (A A' : Option Addr) (n c n' c' : Nat) (a b : List Int) (w : World) (hr : Row w w.heap.size A n (ints .u32 a)) (hr' : Row w w.heap.size A' n' (ints .u32 b)) (ha : Lim a) (hb : Lim b) :
    Calls Tryd.prog 16 #[.slice A n c, .slice A' n' c'] w (AddOut w (if chk2 a b = 0 then limbs (val a + val b) else []) (chk2 a b)) := by
  have hl := hr.1
  have hl' := hr'.1
  rw [ints_len] at hl hl'
  have HC := Lib.hid (two_any A A' n c n' c' _ a b w hr hr')
  by_cases hx : chk2 a b = 0
  · have hlen := chk2_ok hx
    have HA := Lib.hid (radd_any A A' n c n' c' a b w hr hr' ha hb (by have := chk_len hlen.1; omega) (by have := chk_len hlen.2; omega))
    rw [if_pos hx]
    rw [hx] at HC ⊢
    clear hr hr' ha hb hx hlen hl hl'
    go_enter Tryd.func16, Tryd.ntmps16
    go_wp2_with fail
    refine HC.out.mono ?_
    rintro e w' ⟨rfl, rfl⟩
    go_wp2_with fail
    refine HA.out.mono ?_
    rintro e w' ⟨A1, c1, rfl, hown, hb⟩
    go_wp2
    go_ret2
    exact ⟨A1, c1, rfl, hown, hb⟩
  · rw [if_neg hx]
    have hd : (chk2 a b == 0) = false := by simpa using hx
    clear hr hr' ha hb hx hl hl'
    generalize chk2 a b = x at *
    go_enter Tryd.func16, Tryd.ntmps16
    go_wp2_with fail
    refine HC.out.mono ?_
    rintro e w' ⟨rfl, rfl⟩
    go_wp2
    go_ret2
    exact ⟨none, 0, rfl, World.ownsRow_nil _ _ _ _, Below.refl _ _⟩
end Go.Proofs.YtlpfcilgndbopaaDoor
