/- The document's Compare, Same. -/
import Derived.Test.YtdmflofdchmfhaaGreatDoorLZGet
import Derived.BigQuiet
import Derived.Deep.RegionHeld3
namespace Go.Proofs.YtdmflofdchmfhaaGreatDoor
open Go.RowKit

theorem dropL {l : List Lb} {k : Nat} (h : k < l.length) : l.drop k = l.getD k noL :: l.drop (k + 1) := by
  rw [List.drop_eq_getElem_cons h, List.getD_eq_getElem?_getD, List.getElem?_eq_getElem h]; rfl
set_option maxRecDepth 100000 in
set_option maxHeartbeats 4000000 in
theorem rCompare_any (A A' : Option Addr) (n m c c' : Nat) (es fs : List Lb) (w : World) (hr : RowL w w.heap.size A n es) (hs : RowL w w.heap.size A' m fs) (hn : n ≤ 100000000) (hm : m ≤ 100000000) :
    Calls Tryz.prog 17 #[.slice A n c, .slice A' m c'] w fun e w' => e = .returned (.int .i64 (cmpL es fs)) ∧ Below w.heap.size w w' := by
  have HR := Lib.hid hr
  have HS := Lib.hid hs
  have HL := Lib.hid (And.intro hr.1 hs.1)
  have HT := Lib.hid (fun (q : Bool) (z : Int) (h : (if q = true then -1 else 1) = z) (v : World) => (show Calls Tryz.prog 41 #[.bool q] v fun e w' => e = .returned (.int .i64 z) ∧ v = w' from by have k := three_any q v; rwa [h] at k))
  clear hr hs
  go_enter Tryz.func17, Tryz.ntmps17
  go_wp2_with fail
  go_loopw [5] (fun p wr => ∃ k : Nat, k ≤ n ∧ k ≤ m ∧ p = .int .i64 (k : Int) ∧ Hid (cmpL es fs = cmpL (es.drop k) (fs.drop k)) ∧ Hid (Below w.heap.size w wr)) (fun p _ => n - (intOf p).toNat)
  case atStart => exact ⟨0, by omega, by omega, rfl, Lib.hid rfl, Lib.hid (Below.refl _ _)⟩
  case round =>
    obtain ⟨k, hk, hkm, rfl, HC, HB⟩ := hrel
    by_cases hlt : k < n ∧ k < m
    · obtain ⟨h1, h2⟩ := hlt
      obtain ⟨b, off, rfl, hbB, hc⟩ := HR.out.2 (by omega)
      obtain ⟨b', off', rfl, hbB', hc'⟩ := HS.out.2 (by omega)
      have a1 := (HB.out.cell (p := ⟨b, off + k * 2, none⟩) hbB).trans (hc k h1).1
      have a2 := (HB.out.cell (p := ⟨b, off + k * 2 + 1, none⟩) hbB).trans (hc k h1).2
      have c1 := (HB.out.cell (p := ⟨b', off' + k * 2, none⟩) hbB').trans (hc' k h2).1
      have c2 := (HB.out.cell (p := ⟨b', off' + k * 2 + 1, none⟩) hbB').trans (hc' k h2).2
      obtain ⟨x, hx⟩ : ∃ x, es.getD k noL = x := ⟨_, rfl⟩
      obtain ⟨y, hy⟩ : ∃ y, fs.getD k noL = y := ⟨_, rfl⟩
      rw [hx] at a1 a2
      rw [hy] at c1 c2
      have HD : Hid (cmpL es fs = cmpL (x :: es.drop (k + 1)) (y :: fs.drop (k + 1))) := Lib.hid (by
        rw [HC.out, dropL (l := es) (by rw [HL.out.1]; exact h1), dropL (l := fs) (by rw [HL.out.2]; exact h2), hx, hy])
      obtain ⟨x1, x2⟩ := x
      obtain ⟨y1, y2⟩ := y
      dsimp only at a1 a2 c1 c2
      have g0 : (0 : Int) ≤ (k : Int) := by omega
      have g1 : (k : Int) < (n : Int) := by omega
      have g2 : (k : Int) < (m : Int) := by omega
      have f1 : decide ((k : Int) < (n : Int)) = true := decide_eq_true g1
      have f2 : decide ((k : Int) < (m : Int)) = true := decide_eq_true g2
      have HK := Lib.hid (And.intro h1 h2)
      clear hc hc' hx hy h1 h2 HC
      by_cases e1 : x1 = y1
      · have s1 := seq_yes e1
        by_cases e2 : x2 = y2
        · have s2 := seq_yes e2
          have HC2 : Hid (cmpL es fs = cmpL (es.drop (k + 1)) (fs.drop (k + 1))) := Lib.hid (by rw [HD.out, cmpL, if_pos e1, if_pos e2])
          clear e1 e2
          go_wp2_with fail
          go_quiet (fail)
          rename Nat => nq0
          go_wp2_with fail
          go_quiet (fail)
          have HB2 := Lib.hid (Below.dn (Below.dn HB.out nq0) nq)
          obtain ⟨wv, hwv⟩ : ∃ x, (wr.drewN nq0).drewN nq = x := ⟨_, rfl⟩
          rw [hwv] at HB2 ⊢
          clear hwv a1 a2 c1 c2
          go_wp2_with fail
          exact ⟨⟨k + 1, HK.out.1, HK.out.2, by go_num, HC2, HB2⟩, by have := HK.out; simp [intOf]; omega⟩
        · have s2 := seq_no e2
          obtain ⟨q, hq⟩ : ∃ q, decide (lt x2 y2) = q := ⟨_, rfl⟩
          have l2 : Op.bytesLess x2.toList y2.toList = q := by rw [less_lt]; exact hq
          obtain ⟨z, hz⟩ : ∃ z : Int, (if q = true then -1 else 1) = z := ⟨_, rfl⟩
          have HF : Hid (cmpL es fs = z) := Lib.hid (by
            rw [HD.out, cmpL, if_pos e1, if_neg e2, ← hz, ← hq]
            by_cases k : lt x2 y2
            · rw [if_pos k, if_pos (decide_eq_true k)]
            · rw [if_neg k, if_neg (by simp [k])])
          have HTq := Lib.hid (HT.out q z hz)
          clear e1 e2 hq hz
          go_wp2_with fail
          go_quiet (fail)
          rename Nat => nq0
          go_wp2_with fail
          go_quiet (fail)
          rename Nat => nq1
          go_wp2_with fail
          go_region_held3 (fun v => v.cell? ⟨b, off + k * 2 + 1, none⟩ = some (.string x2) ∧ v.cell? ⟨b', off' + k * 2 + 1, none⟩ = some (.string y2)) (exact ⟨a2, c2⟩) ((go_at_call 41; with_reducible refine (HTq.out _).mono ?_; rintro e v ⟨rfl, rfl⟩))
          go_wp2_with fail
          go_ret
          rw [HF.out]
          exact ⟨rfl, Below.dn HB.out _⟩
      · have s1 := seq_no e1
        obtain ⟨q, hq⟩ : ∃ q, decide (lt x1 y1) = q := ⟨_, rfl⟩
        have l2 : Op.bytesLess x1.toList y1.toList = q := by rw [less_lt]; exact hq
        obtain ⟨z, hz⟩ : ∃ z : Int, (if q = true then -1 else 1) = z := ⟨_, rfl⟩
        have HF : Hid (cmpL es fs = z) := Lib.hid (by
          rw [HD.out, cmpL, if_neg e1, ← hz, ← hq]
          by_cases k : lt x1 y1
          · rw [if_pos k, if_pos (decide_eq_true k)]
          · rw [if_neg k, if_neg (by simp [k])])
        have HTq := Lib.hid (HT.out q z hz)
        clear e1 hq hz
        go_wp2_with fail
        go_quiet (fail)
        rename Nat => nq0
        go_wp2_with fail
        go_region_held3 (fun v => v.cell? ⟨b, off + k * 2, none⟩ = some (.string x1) ∧ v.cell? ⟨b', off' + k * 2, none⟩ = some (.string y1)) (exact ⟨a1, c1⟩) ((go_at_call 41; with_reducible refine (HTq.out _).mono ?_; rintro e v ⟨rfl, rfl⟩))
        go_wp2_with fail
        go_ret
        rw [HF.out]
        exact ⟨rfl, Below.dn HB.out _⟩
    · have hl1 := HL.out.1
      have hl2 := HL.out.2
      by_cases hkn : k = n
      · subst hkn
        have f1 : decide ((k : Int) < (k : Int)) = false := decide_eq_false (by omega)
        by_cases hkm2 : k = m
        · subst hkm2
          have t1 : ((k : Int) == (k : Int)) = true := beq_self_eq_true _
          have HF : Hid (cmpL es fs = 0) := Lib.hid (by rw [HC.out, List.drop_eq_nil_of_le (by omega), List.drop_eq_nil_of_le (by omega)]; rfl)
          clear hl1 hl2 hlt
          go_wp2_with fail
          go_ret
          rw [HF.out]
          exact ⟨rfl, HB.out⟩
        · have t1 : ((k : Int) == (m : Int)) = false := beq_eq_false_iff_ne.2 (by omega)
          have t2 : decide ((k : Int) < (m : Int)) = true := decide_eq_true (by omega)
          have t3 : decide (k < m) = true := decide_eq_true (by omega)
          have HF : Hid (cmpL es fs = -1) := Lib.hid (by rw [HC.out, show es.drop k = [] from List.drop_eq_nil_of_le (by omega), dropL (l := fs) (by omega)]; rfl)
          have HTq := Lib.hid (HT.out true (-1) rfl)
          clear hl1 hl2 hlt hkm2
          go_wp2_with fail
          with_reducible refine (HTq.out _).mono ?_
          rintro e v ⟨rfl, rfl⟩
          go_wp2_with fail
          go_ret
          rw [HF.out]
          exact ⟨rfl, HB.out⟩
      · have hkm2 : k = m := by omega
        subst hkm2
        have hkn3 : k < n := by omega
        have f1 : decide ((k : Int) < (n : Int)) = true := decide_eq_true (by omega)
        have f4 : decide (k < n) = true := decide_eq_true hkn3
        have f2 : decide ((k : Int) < (k : Int)) = false := decide_eq_false (by omega)
        have t1 : ((n : Int) == (k : Int)) = false := beq_eq_false_iff_ne.2 (by omega)
        have t2 : decide ((n : Int) < (k : Int)) = false := decide_eq_false (by omega)
        have t3 : decide (n < k) = false := decide_eq_false (by omega)
        have HF : Hid (cmpL es fs = 1) := Lib.hid (by rw [HC.out, show fs.drop k = [] from List.drop_eq_nil_of_le (by omega), dropL (l := es) (by omega)]; rfl)
        have HTq := Lib.hid (HT.out false 1 rfl)
        clear hl1 hl2 hlt hkn
        go_wp2_with fail
        with_reducible refine (HTq.out _).mono ?_
        rintro e v ⟨rfl, rfl⟩
        go_wp2_with fail
        go_ret
        rw [HF.out]
        exact ⟨rfl, HB.out⟩
theorem rSame_any (A A' : Option Addr) (n m c c' : Nat) (es fs : List Lb) (w : World) (hr : RowL w w.heap.size A n es) (hs : RowL w w.heap.size A' m fs) (hn : n ≤ 100000000) (hm : m ≤ 100000000) :
    Calls Tryz.prog 19 #[.slice A n c, .slice A' m c'] w fun e w' => e = .returned (.bool (decide (es = fs))) ∧ Below w.heap.size w w' := by
  have HC := Lib.hid (rCompare_any A A' n m c c' es fs w hr hs hn hm)
  clear hr hs
  obtain ⟨z, hz⟩ : ∃ z, cmpL es fs = z := ⟨_, rfl⟩
  have e0 : (z == 0) = decide (es = fs) := by
    rw [← hz]
    by_cases k : es = fs
    · rw [decide_eq_true k]; exact beq_iff_eq.2 ((cmpL_eq es fs).2 k)
    · rw [decide_eq_false k]; exact beq_eq_false_iff_ne.2 fun h => k ((cmpL_eq es fs).1 h)
  rw [hz] at HC
  obtain ⟨q, hq⟩ : ∃ q, decide (es = fs) = q := ⟨_, rfl⟩
  rw [hq] at e0 ⊢
  clear hz hq
  go_enter Tryz.func19, Tryz.ntmps19
  go_wp2_with fail
  with_reducible refine HC.out.mono ?_
  rintro e w1 ⟨rfl, b⟩
  have HB := Lib.hid b
  clear b
  go_wp2_with fail
  go_ret
  exact ⟨rfl, HB.out⟩
end Go.Proofs.YtdmflofdchmfhaaGreatDoor
