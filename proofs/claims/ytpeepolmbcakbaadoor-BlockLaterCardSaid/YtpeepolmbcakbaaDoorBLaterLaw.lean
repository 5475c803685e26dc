/- BlockLater: the walk. -/
import Derived.Test.YtpeepolmbcakbaaDoorBLater
namespace Go.Proofs.YtpeepolmbcakbaaDoor
open Go.RowKit

/-- Entries that came in, their times within the kind. -/
theorem RowE.of_pairsW {w : World} {a : Addr} {n : Nat} {V0 V1 : Nat → Value} (h : ∀ i, i < n → w.cell? (a.add (i * 2)) = some (V0 i) ∧ w.cell? (a.add (i * 2 + 1)) = some (V1 i) ∧ ∃ (t : Int) (s : ByteArray), V0 i = .int .i64 t ∧ V1 i = .string s ∧ (Lit.int .i64 t).wf = true) : ∃ es : List (Int × ByteArray), es.length = n ∧ RowE w w.heap.size (some a) n es ∧ ∀ e ∈ es, (Lit.int .i64 e.1).wf = true := by
  have h' : ∀ i, i < n → ∃ q : Int × ByteArray, (w.cell? (a.add (i * 2)) = some (.int .i64 q.1) ∧ w.cell? (a.add (i * 2 + 1)) = some (.string q.2)) ∧ (Lit.int .i64 q.1).wf = true := fun i hi => by
    obtain ⟨h1, h2, t, s, e1, e2, e3⟩ := h i hi
    exact ⟨(t, s), ⟨by rw [h1, e1], by rw [h2, e2]⟩, e3⟩
  obtain ⟨q, hq⟩ := Go.Deep.choose_lt h'
  refine ⟨(List.range n).map q, by simp, ⟨by simp, fun h0 => ?_⟩, fun e he => ?_⟩
  · obtain ⟨b, off, spot⟩ := a
    have hspot : spot = none := by simpa [Addr.add] using World.cell?_spot (hq 0 h0).1.1
    subst hspot
    obtain ⟨⟨h1, _⟩, _⟩ := hq 0 h0
    rw [addr_add] at h1
    refine ⟨b, off, rfl, World.block_lt_of_cell? w _ h1, fun j hj => ?_⟩
    obtain ⟨⟨h1, h2⟩, _⟩ := hq j hj
    rw [addr_add] at h1 h2
    rw [show ((List.range n).map q).getD j (0, ByteArray.empty) = q j by simp [List.getD_eq_getElem?_getD, hj]]
    exact ⟨h1, h2⟩
  · obtain ⟨i, hi, rfl⟩ := List.mem_map.1 he
    exact (hq i (List.mem_range.1 hi)).2
theorem RowE.take {w : World} {B n : Nat} {A : Option Addr} {es : List (Int × ByteArray)} (h : RowE w B A n es) {k : Nat} (hk : k ≤ n) : RowE w B A k (es.take k) := by
  refine ⟨by rw [List.length_take, h.1]; omega, fun h0 => ?_⟩
  obtain ⟨b, off, e, hb, hc⟩ := h.2 (by omega)
  refine ⟨b, off, e, hb, fun j hj => ?_⟩
  rw [show (es.take k).getD j (0, ByteArray.empty) = es.getD j (0, ByteArray.empty) by simp [List.getD_eq_getElem?_getD, List.getElem?_take, hj]]
  exact hc j (by omega)
theorem own_someE {w : World} {base n c : Nat} {A : Option Addr} {xs : List Value} {e : TypeId} (h : w.ownsRow base e 2 (.slice A n c) n xs) (h0 : 0 < n) : (∃ g, A = some ⟨g, 0, none⟩ ∧ base ≤ g ∧ g < w.heap.size) ∧ n ≤ c := by
  rcases h.2 with ⟨_, hn⟩ | ⟨g, cap, cur, hv, hb, hg, h1, h2, _⟩
  · omega
  · injection hv with hA _ h3
    exact ⟨⟨g, hA, hb, (Array.getElem?_eq_some_iff.1 hg).1⟩, by omega⟩
def lT (es : List (Int × ByteArray)) (k : Int) (j i : Nat) : Int := if i < j then (es.getD i (0, ByteArray.empty)).1 + k else (es.getD i (0, ByteArray.empty)).1
def lS (es : List (Int × ByteArray)) (i : Nat) : ByteArray := (es.getD i (0, ByteArray.empty)).2
theorem lT_next (es : List (Int × ByteArray)) (k : Int) (j : Nat) : (fun i => if i = j then (es.getD j (0, ByteArray.empty)).1 + k else lT es k j i) = lT es k (j + 1) := by
  funext i
  unfold lT
  by_cases h : i = j
  · subst h; rw [if_pos rfl, if_pos (by omega)]
  · rw [if_neg h]
    by_cases h2 : i < j
    · rw [if_pos h2, if_pos (by omega)]
    · rw [if_neg h2, if_neg (by omega)]
theorem ecE_start (es : List (Int × ByteArray)) (k : Int) {n : Nat} (h : es.length = n) : ecE es = ec n (lT es k 0) (lS es) := by
  subst h
  apply ec_congr
  intro j _
  rw [lT, if_neg (by omega), lS]
  exact ⟨rfl, rfl⟩
theorem ecE_end (es : List (Int × ByteArray)) (k : Int) {n : Nat} (h : es.length = n) : ec n (lT es k n) (lS es) = ecE (shE k es) := by
  subst h
  rw [ecE, shE_len]
  apply ec_congr
  intro j hj
  rw [lT, if_pos hj, lS]
  simp [shE, List.getD_eq_getElem?_getD, hj]

set_option maxRecDepth 100000 in
set_option maxHeartbeats 4000000 in
theorem BlockLater_walk (A : Option Addr) (es : List (Int × ByteArray)) (c : Nat) (y : Int) (w : World) (hr : RowE w w.heap.size A es.length es) (hc : es.length ≤ c) (hn : es.length * 24 ≤ 140737488351232) (hw : ∀ e ∈ es, (Lit.int .i64 e.1).wf = true) (hy : (Lit.int .i64 y).wf = true) :
    Calls Tryd.prog 8 #[.slice A es.length c, .int .i64 y] w fun e w' => e = .returned (.bool true) ∧ Below w.heap.size w w' := by
  obtain ⟨n, hln⟩ : ∃ n, es.length = n := ⟨_, rfl⟩
  rw [hln] at hr hn hc ⊢
  by_cases h0 : n = 0
  case pos =>
    subst h0
    have he : es = [] := List.eq_nil_of_length_eq_zero hln
    subst he
    have HC := Lib.hid (Check_any A 0 c [] w hr (by omega))
    clear hr hw hy hln
    go_enter Tryd.func8, Tryd.ntmps8
    go_wp2_with fail
    with_reducible refine HC.out.mono ?_
    rintro e w1 ⟨rfl, b1⟩
    have hchk : chkB (mm []) = 2 := rfl
    rw [hchk]
    clear HC
    go_wp2_with fail
    with_reducible refine (awake_true w1).mono ?_
    rintro e w2 ⟨rfl, b2⟩
    have hb := next b1 b2
    go_wp2_with fail
    go_ret
    exact ⟨rfl, hb⟩
  case neg =>
    have hn0 : (0 : Int) < (n : Int) := by omega
    have hnz : ¬ (n : Int) = 0 := by omega
    have hnb : ((n : Int) == 0) = false := beq_eq_false_iff_ne.2 hnz
    obtain ⟨b, off, rfl, hbl, _⟩ := hr.2 (by omega)
    have HBr := Lib.hid (Bring_any y 1099511627776 w hy (by omega) (by omega))
    obtain ⟨k, hk⟩ : ∃ k, y % 1099511627776 = k := ⟨_, rfl⟩
    have hk0 : 0 ≤ k := by omega
    have hk1 : k < 1099511627776 := by omega
    rw [hk] at HBr
    have HCp := Lib.hid (CopyE_any (some ⟨b, off, none⟩) n c es w hr hn)
    have HR := Lib.hid hr
    have HW := Lib.hid hw
    have HN := Lib.hid hln
    clear hr hw hy hk hln h0
    go_enter Tryd.func8, Tryd.ntmps8
    go_wp2_with fail
    with_reducible refine HBr.out.mono ?_
    rintro e w1 ⟨rfl, rfl⟩
    clear HBr
    go_wp2_with fail
    with_reducible refine HCp.out.mono ?_
    rintro e w1 ⟨A1, c1, rfl, o1, b1⟩
    obtain ⟨⟨g, rfl, hg, hgl⟩, hc1⟩ := own_someE o1 (by omega)
    rw [ecE_start es k HN.out] at o1
    clear HCp hgl
    go_wp2_with fail
    go_loopw [7] (fun s7 wr => ∃ j : Nat, j ≤ n ∧ s7 = .int .i64 j ∧ Hid (∀ i, i < j → (es.getD i (0, ByteArray.empty)).1 + k ≤ 9007199254740991) ∧ wr.ownsRow w.heap.size 43 2 (.slice (some ⟨g, 0, none⟩) n c1) n (ec n (lT es k j) (lS es)) ∧ Below w.heap.size w wr) (fun i _ => n - (intOf i).toNat)
    case atStart => exact ⟨0, Nat.zero_le _, rfl, Lib.hid (fun i hi => absurd hi (by omega)), o1, b1⟩
    case round =>
      obtain ⟨j, hj, rfl, HJ, oj, hb⟩ := hrel
      rename World => wr
      by_cases hlt : j < n
      · have hlt' : (j : Int) < (n : Int) := by omega
        have hj0 : (0 : Int) ≤ (j : Int) := by omega
        have hj1 : j + 1 ≤ n := hlt
        obtain ⟨t, ht⟩ : ∃ t, (es.getD j (0, ByteArray.empty)).1 = t := ⟨_, rfl⟩
        have htw : (Lit.int .i64 t).wf = true := by
          rw [← ht]
          refine HW.out _ ?_
          rw [List.getD_eq_getElem?_getD, List.getElem?_eq_getElem (by rw [HN.out]; exact hlt)]
          exact List.getElem_mem _
        have htr : -9223372036854775808 ≤ t ∧ t ≤ 9223372036854775807 := by simpa [Lit.wf, IntKind.min, IntKind.max, IntKind.signed, IntKind.bits] using htw
        have hfz := oj.frozenAt (j * 2)
        have hc0 : wr.cell? ⟨g, j * 2, none⟩ = some (.int .i64 t) := by
          rw [oj.cellAt (j * 2) (by omega), ec_t _ _ hlt, lT, if_neg (Nat.lt_irrefl j), ht]
        have FIN : Hid ((wr.setCell ⟨g, j * 2, none⟩ (.int .i64 (t + k))).ownsRow w.heap.size 43 2 (.slice (some ⟨g, 0, none⟩) n c1) n (ec n (lT es k (j + 1)) (lS es)) ∧ Below w.heap.size w (wr.setCell ⟨g, j * 2, none⟩ (.int .i64 (t + k)))) := Lib.hid (by
          have ho2 := (oj.stored (j * 2) (.int .i64 (t + k))).1
          rw [ec_setT _ _ hlt, ← ht, lT_next, ht] at ho2
          have on : Only g wr (wr.setCell ⟨g, j * 2, none⟩ (.int .i64 (t + k))) := (Only.refl g _).put _ _
          exact ⟨ho2, on.below hb hg hb.size⟩)
        have HT := Lib.hid ht
        clear oj htw ht
        by_cases hbig : 9007199254740991 - k < t
        · have hb' := Lib.hid hb
          clear FIN hb
          go_wp2_with fail
          with_reducible refine (awake_true wr).mono ?_
          rintro e w2 ⟨rfl, b2⟩
          have hb2 := next hb'.out b2
          go_wp2_with fail
          go_ret
          exact ⟨rfl, hb2⟩
        · have HJ1 : Hid (∀ i, i < j + 1 → (es.getD i (0, ByteArray.empty)).1 + k ≤ 9007199254740991) := Lib.hid (fun i hi => by
            rcases Nat.lt_or_ge i j with h | h
            · exact HJ.out i h
            · obtain rfl : i = j := by omega
              rw [HT.out]; omega)
          have hw64 : wrap64 (t + k) = t + k := IntWalk.wrap64_in _ (by omega)
          clear hb HJ HT
          go_wp2_with fail
          refine ⟨⟨j + 1, hj1, by go_num, HJ1, FIN.out.1, FIN.out.2⟩, ?_⟩
          simp [intOf]
          omega
      · have hjn : j = n := by omega
        subst hjn
        rw [ecE_end es k HN.out] at oj
        clear hlt hj
        have RL : RowE wr wr.heap.size (some ⟨g, 0, none⟩) j (shE k es) := ecE_own oj (by rw [shE_len]; exact HN.out)
        replace HR := Lib.hid (HR.out.on hb)
        have HL := Lib.hid RL
        have HB := Lib.hid hb
        obtain ⟨x, hx⟩ : ∃ x, chkB (mm es) = x := ⟨_, rfl⟩
        obtain ⟨z, hz⟩ : ∃ z, chkB (mm (shE k es)) = z := ⟨_, rfl⟩
        obtain ⟨ma, hma⟩ : ∃ m, (packL es).length = m := ⟨_, rfl⟩
        obtain ⟨mb, hmb⟩ : ∃ m, (packL (shE k es)).length = m := ⟨_, rfl⟩
        have lma : ma ≤ 200004 := by rw [← hma]; exact packL_len _
        have lmb : mb ≤ 200004 := by rw [← hmb]; exact packL_len _
        have HXZ : Hid (x = 0 → z = 0) := Lib.hid (by
          rintro rfl
          rw [← hz, mm_sh]
          refine chkB_sh hk0 ?_ hx
          intro e he
          obtain ⟨e', he', rfl⟩ := List.mem_map.1 he
          obtain ⟨i, hi, rfl⟩ := List.mem_iff_getElem.1 he'
          have := HJ.out i (by rw [← HN.out]; exact hi)
          rw [List.getD_eq_getElem?_getD, List.getElem?_eq_getElem hi] at this
          exact this)
        have HLE : Hid (x = 0 → chkB (mm (es.take 1)) = 0 ∧ chkB (mm ((shE k es).take 1)) = 0 ∧ (ma : Int) - (packL (es.take 1)).length = (mb : Int) - (packL ((shE k es).take 1)).length) := Lib.hid (by
          intro h
          have h2 := HXZ.out h
          rw [← hma, ← hmb]
          exact lens (by rw [HN.out]; omega) (hx.trans h) (hz.trans h2))
        have CA := Lib.hid (Pack_any _ j c es wr HR.out (by omega))
        have CB : Hid (∀ w', Below wr.heap.size wr w' → Calls Tryd.prog 11 #[.slice (some ⟨g, 0, none⟩) j c1] w' (Out w' (packL (shE k es)) z)) := Lib.hid (fun w' hb' => by
          have := Pack_any _ j c1 (shE k es) w' (RL.on hb') (by omega)
          rwa [hz] at this)
        rw [hx] at CA
        unfold Out at CA CB
        rw [hma] at CA
        rw [hmb] at CB
        clear oj hb RL hx hz hma hmb HJ HW HN
        by_cases hx0 : x = 0
        · subst hx0
          have hz0 := HXZ.out rfl
          subst hz0
          obtain ⟨o1, o2, o3⟩ := HLE.out rfl
          obtain ⟨mc, hmc⟩ : ∃ m, (packL (es.take 1)).length = m := ⟨_, rfl⟩
          obtain ⟨md, hmd⟩ : ∃ m, (packL ((shE k es).take 1)).length = m := ⟨_, rfl⟩
          rw [hmc, hmd] at o3
          have lmc : mc ≤ 200004 := by rw [← hmc]; exact packL_len _
          have lmd : md ≤ 200004 := by rw [← hmd]; exact packL_len _
          have CC : Hid (∀ (c : Nat) (w' : World), RowE w' w'.heap.size (some ⟨b, off, none⟩) 1 (es.take 1) → Calls Tryd.prog 11 #[.slice (some ⟨b, off, none⟩) 1 c] w' fun e w'' => ∃ A c, e = .returned (.tuple #[.slice A mc c, .int .i64 0]) ∧ Below w'.heap.size w' w'') := Lib.hid (fun c w' h => by
            refine (Pack_any _ 1 c _ w' h (by omega)).mono ?_
            rintro e w'' ⟨A, c, rfl, _, h⟩
            rw [hmc, o1]
            exact ⟨A, c, rfl, h⟩)
          have CD : Hid (∀ (c : Nat) (w' : World), RowE w' w'.heap.size (some ⟨g, 0, none⟩) 1 ((shE k es).take 1) → Calls Tryd.prog 11 #[.slice (some ⟨g, 0, none⟩) 1 c] w' fun e w'' => ∃ A c, e = .returned (.tuple #[.slice A md c, .int .i64 0]) ∧ Below w'.heap.size w' w'') := Lib.hid (fun c w' h => by
            refine (Pack_any _ 1 c _ w' h (by omega)).mono ?_
            rintro e w'' ⟨A, c, rfl, _, h⟩
            rw [hmd, o2]
            exact ⟨A, c, rfl, h⟩)
          have hs1 : wrap64 ((ma : Int) - (mc : Int)) = (ma : Int) - (mc : Int) := IntWalk.wrap64_in _ (by omega)
          have hs2 : wrap64 ((mb : Int) - (md : Int)) = (mb : Int) - (md : Int) := IntWalk.wrap64_in _ (by omega)
          have hs3 : ((ma : Int) - (mc : Int) == (mb : Int) - (md : Int)) = true := by rw [o3]; exact beq_self_eq_true _
          have hc11 : 1 ≤ c := by omega
          have hc12 : 1 ≤ c1 := by omega
          have HS : Hid (1 ≤ j) := Lib.hid (by omega)
          clear o1 o2 o3 hmc hmd HXZ HLE
          go_wp2_with fail
          with_reducible refine CA.out.mono ?_
          rintro e w2 ⟨A2, d2, rfl, _, b2⟩
          replace HR := Lib.hid (HR.out.on b2)
          replace HL := Lib.hid (HL.out.on b2)
          replace HB := Lib.hid (next HB.out b2)
          have HCB := Lib.hid (CB.out w2 b2)
          clear CA CB b2
          go_wp2_with fail
          with_reducible refine HCB.out.mono ?_
          rintro e w3 ⟨A3, d3, rfl, _, b3⟩
          replace HR := Lib.hid (HR.out.on b3)
          replace HL := Lib.hid (HL.out.on b3)
          replace HB := Lib.hid (next HB.out b3)
          clear HCB b3
          go_wp2_with fail
          with_reducible refine (CC.out _ w3 (HR.out.take HS.out)).mono ?_
          rintro e w4 ⟨A4, d4, rfl, b4⟩
          replace HL := Lib.hid (HL.out.on b4)
          replace HB := Lib.hid (next HB.out b4)
          clear CC b4 HR
          go_wp2_with fail
          with_reducible refine (CD.out _ w4 (HL.out.take HS.out)).mono ?_
          rintro e w5 ⟨A5, d5, rfl, b5⟩
          replace HB := Lib.hid (next HB.out b5)
          clear CD b5 HL
          go_wp2_with fail
          with_reducible refine (awake_true w5).mono ?_
          rintro e w6 ⟨rfl, b6⟩
          have hb2 := next HB.out b6
          clear HB b6
          go_wp2_with fail
          go_ret
          exact ⟨rfl, hb2⟩
        · have hxb : (x != 0) = true := by simp [hx0]
          have hxb2 : (x == 0) = false := beq_eq_false_iff_ne.2 hx0
          go_wp2_with fail
          with_reducible refine CA.out.mono ?_
          rintro e w2 ⟨A2, d2, rfl, _, b2⟩
          replace HB := Lib.hid (next HB.out b2)
          have HCB := Lib.hid (CB.out w2 b2)
          clear CA CB b2
          go_wp2_with fail
          with_reducible refine HCB.out.mono ?_
          rintro e w3 ⟨A3, d3, rfl, _, b3⟩
          replace HB := Lib.hid (next HB.out b3)
          clear HCB b3
          go_wp2_with fail
          with_reducible refine (awake_true w3).mono ?_
          rintro e w6 ⟨rfl, b6⟩
          have hb2 := next HB.out b6
          clear HB b6
          go_wp2_with fail
          go_ret
          exact ⟨rfl, hb2⟩
end Go.Proofs.YtpeepolmbcakbaaDoor
