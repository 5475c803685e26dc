/- slices.CompareFunc and Compare. -/
import Derived.Test.YtdmflofdchmfhaaGreatDoorLCmp
namespace Go.Proofs.YtdmflofdchmfhaaGreatDoor
open Go.RowKit Go.Shelf

theorem cmpL_cons (x y : Lb) (a b : List Lb) : cmpL (x :: a) (y :: b) = if cmp1 x y = 0 then cmpL a b else cmp1 x y := by
  unfold cmp1
  rw [cmpL]
  by_cases h1 : x.1 = y.1
  · rw [if_pos h1, if_pos h1]
    by_cases h2 : x.2 = y.2
    · rw [if_pos h2, if_pos h2, if_pos rfl]
    · rw [if_neg h2, if_neg h2]
      by_cases k : lt x.2 y.2
      · rw [if_pos k, if_neg (by omega)]
      · rw [if_neg k, if_neg (by omega)]
  · rw [if_neg h1, if_neg h1]
    by_cases k : lt x.1 y.1
    · rw [if_pos k, if_neg (by omega)]
    · rw [if_neg k, if_neg (by omega)]
set_option maxRecDepth 100000 in
set_option maxHeartbeats 4000000 in
theorem CompareFunc_any (A A' : Option Addr) (n m c c' : Nat) (es fs : List Lb) (w : World) (hr : RowL w w.heap.size A n es) (hs : RowL w w.heap.size A' m fs) (hn : n ≤ 100000000) (hm : m ≤ 100000000) :
    Calls Tryz.prog 39 #[.slice A n c, .slice A' m c', .func (.func 40) #[] #[]] w fun e w' => e = .returned (.int .i64 (cmpL es fs)) ∧ Below w.heap.size w w' := by
  have HR := Lib.hid hr
  have HS := Lib.hid hs
  have HL := Lib.hid (And.intro hr.1 hs.1)
  clear hr hs
  go_enter Tryz.func39, Tryz.ntmps39
  go_wp2_with fail
  go_loopw [13] (fun p wr => ∃ k : Nat, k ≤ n ∧ p = .int .i64 (k : Int) ∧ Hid (cmpL es fs = cmpL (es.drop k) (fs.drop k)) ∧ Hid (Below w.heap.size w wr)) (fun p _ => n - (intOf p).toNat)
  case atStart => exact ⟨0, by omega, rfl, Lib.hid rfl, Lib.hid (Below.refl _ _)⟩
  case round =>
    obtain ⟨k, hk, rfl, HC, HB⟩ := hrel
    by_cases hlt : k < n
    · obtain ⟨b, off, hA, hb1, h1⟩ := HR.out.2 (by omega)
      subst hA
      have a1 := (HB.out.cell (p := ⟨b, off + k * 2, none⟩) hb1).trans (h1 k hlt).1
      have a2 := (HB.out.cell (p := ⟨b, off + k * 2 + 1, none⟩) hb1).trans (h1 k hlt).2
      obtain ⟨x, hx⟩ : ∃ x, es.getD k noL = x := ⟨_, rfl⟩
      rw [hx] at a1 a2
      have HX : Hid (es.drop k = x :: es.drop (k + 1)) := Lib.hid (drop_consL (by rw [HL.out.1]; exact hlt) hx)
      obtain ⟨x1, x2⟩ := x
      dsimp only at a1 a2
      have g0 : (0 : Int) ≤ (k : Int) := by omega
      have g1 : (k : Int) < (n : Int) := by omega
      have f1 : decide ((k : Int) < (n : Int)) = true := decide_eq_true g1
      have HK := Lib.hid hlt
      clear hx hlt h1
      by_cases hkm : k < m
      · obtain ⟨b', off', hA', hb2, h2⟩ := HS.out.2 (by omega)
        subst hA'
        have hba := HB.out.alloc HB.out.size (.cells #[.string x1, .string x2] 29)
        have a3 := (hba.cell (p := ⟨b', off' + k * 2, none⟩) hb2).trans (h2 k hkm).1
        have a4 := (hba.cell (p := ⟨b', off' + k * 2 + 1, none⟩) hb2).trans (h2 k hkm).2
        have a5 := (HB.out.cell (p := ⟨b', off' + k * 2, none⟩) hb2).trans (h2 k hkm).1
        have a6 := (HB.out.cell (p := ⟨b', off' + k * 2 + 1, none⟩) hb2).trans (h2 k hkm).2
        obtain ⟨y, hy⟩ : ∃ y, fs.getD k noL = y := ⟨_, rfl⟩
        rw [hy] at a3 a4 a5 a6
        have HY : Hid (fs.drop k = y :: fs.drop (k + 1)) := Lib.hid (drop_consL (by rw [HL.out.2]; exact hkm) hy)
        obtain ⟨y1, y2⟩ := y
        dsimp only at a3 a4 a5 a6
        have HCC : Hid (cmpL es fs = if cmp1 (x1, x2) (y1, y2) = 0 then cmpL (es.drop (k + 1)) (fs.drop (k + 1)) else cmp1 (x1, x2) (y1, y2)) := Lib.hid (by rw [HC.out, HX.out, HY.out, cmpL_cons])
        have HQ := Lib.hid (fun v : World => cmp1_any (x1, x2) (y1, y2) v)
        have HBb := Lib.hid (hba.alloc hba.size (.cells #[.string y1, .string y2] 29))
        obtain ⟨r, hr⟩ : ∃ r, cmp1 (x1, x2) (y1, y2) = r := ⟨_, rfl⟩
        rw [hr] at HQ HCC
        dsimp only at HQ
        have f2 : decide ((m : Int) ≤ (k : Int)) = false := decide_eq_false (by omega)
        have g2 : (k : Int) < (m : Int) := by omega
        clear hy hr h2 hba
        go_wp2_with fail
        with_reducible refine (HQ.out _).mono ?_
        rintro e v ⟨rfl, bv⟩
        have HB3 := Lib.hid (next HBb.out bv)
        clear bv
        by_cases hr0 : r = 0
        · subst hr0
          have z0 : ((0 : Int) == 0) = true := rfl
          have HC2 : Hid (cmpL es fs = cmpL (es.drop (k + 1)) (fs.drop (k + 1))) := Lib.hid (by rw [HCC.out, if_pos rfl])
          go_wp2_with fail
          exact ⟨⟨k + 1, HK.out, by go_num, HC2, HB3⟩, by have := HK.out; simp [intOf]; omega⟩
        · have z0 : (r == 0) = false := beq_eq_false_iff_ne.2 hr0
          have HC2 : Hid (cmpL es fs = r) := Lib.hid (by rw [HCC.out, if_neg hr0])
          go_wp2_with fail
          go_ret
          rw [HC2.out]
          exact ⟨rfl, HB3.out⟩
      · have f2 : decide ((m : Int) ≤ (k : Int)) = true := decide_eq_true (by omega)
        have HC2 : Hid (cmpL es fs = 1) := Lib.hid (by
          have hd := List.drop_of_length_le (l := fs) (i := k) (by rw [HL.out.2]; omega)
          rw [HC.out, HX.out, hd]; rfl)
        have HB3 := Lib.hid (HB.out.alloc HB.out.size (.cells #[.string x1, .string x2] 29))
        go_wp2_with fail
        go_ret
        rw [HC2.out]
        exact ⟨rfl, HB3.out⟩
    · obtain rfl : k = n := by omega
      have f1 : decide ((k : Int) < (k : Int)) = false := decide_eq_false (by omega)
      have hd : es.drop k = [] := List.drop_of_length_le (by rw [HL.out.1]; exact Nat.le_refl _)
      by_cases hkm : k < m
      · have f2 : decide ((k : Int) < (m : Int)) = true := decide_eq_true (by omega)
        have HC2 : Hid (cmpL es fs = -1) := Lib.hid (by
          rw [HC.out, hd, List.drop_eq_getElem_cons (by rw [HL.out.2]; exact hkm)]; rfl)
        clear hd
        go_wp2_with fail
        go_ret
        rw [HC2.out]
        exact ⟨rfl, HB.out⟩
      · have f2 : decide ((k : Int) < (m : Int)) = false := decide_eq_false (by omega)
        have HC2 : Hid (cmpL es fs = 0) := Lib.hid (by rw [HC.out, hd, List.drop_of_length_le (by rw [HL.out.2]; omega)]; rfl)
        clear hd
        go_wp2_with fail
        go_ret
        rw [HC2.out]
        exact ⟨rfl, HB.out⟩
theorem Compare_any (A A' : Option Addr) (n m c c' : Nat) (es fs : List Lb) (w : World) (hr : RowL w w.heap.size A n es) (hs : RowL w w.heap.size A' m fs) (hn : n ≤ 100000000) (hm : m ≤ 100000000) :
    Calls Tryz.prog 16 #[.slice A n c, .slice A' m c'] w fun e w' => e = .returned (.int .i64 (cmpL es fs)) ∧ Below w.heap.size w w' := by
  have HC := Lib.hid (CompareFunc_any A A' n m c c' es fs w hr hs hn hm)
  clear hr hs
  obtain ⟨q, hq⟩ : ∃ q, cmpL es fs = q := ⟨_, rfl⟩
  rw [hq] at HC ⊢
  clear hq
  go_enter Tryz.func16, Tryz.ntmps16
  go_wp2_with fail
  with_reducible refine HC.out.mono ?_
  rintro e w1 ⟨rfl, b⟩
  have HB := Lib.hid b
  clear b HC
  go_wp2_with fail
  go_ret
  exact ⟨rfl, HB.out⟩
end Go.Proofs.YtdmflofdchmfhaaGreatDoor
