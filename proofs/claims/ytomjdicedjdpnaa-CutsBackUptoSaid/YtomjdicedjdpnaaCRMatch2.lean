/- The document's Match, walked. -/
import Derived.Test.YtomjdicedjdpnaaCRMatch
import Derived.Test.YtomjdicedjdpnaaLSetQ
import Derived.Deep.RegionHeld3
namespace Go.Proofs.Ytomjdicedjdpnaa
open Go.RowKit

theorem set_len {l : List Lb} (n v : ByteArray) : (setL l n v).length ≤ l.length + 1 := by
  unfold setL
  split
  · have h := lo_hi_len n l
    rw [List.length_append, List.length_append]
    split
    · simp only [List.length_nil]; omega
    · simp only [List.length_singleton]; omega
  · exact Nat.zero_le _
set_option maxRecDepth 100000 in
set_option maxHeartbeats 8000000 in
theorem rMatch_any (b : Nat) (A : ByteArray) (l : List Lb) (line : ByteArray) (w : World) (h : CAt w b A l) (hl : l.length ≤ 1000) (hA : A.size ≤ 1000000) (hz : ∀ x ∈ l, x.2.size ≤ 1000000) (hs : line.size ≤ 100000000) :
    Calls Try.prog 12 #[.pointer (some ⟨b, 0, none⟩), .string line] w (MOut w (matchC A l line)) := by
  obtain ⟨a, n, c, hbw, hc0, hc1, hr⟩ := h
  have HR := Lib.hid hr
  have hn := hr.1
  have HC := Lib.hid (And.intro hbw hc1)
  have HN := Lib.hid hn
  have HZ := Lib.hid hz
  clear hr
  by_cases hsz : A.size ≤ line.size
  · have f1 : decide ((line.size : Int) < (A.size : Int)) = false := decide_eq_false (by omega)
    have f2 : decide (line.size < A.size) = false := decide_eq_false (by omega)
    have g1 : (0 : Int) ≤ (A.size : Int) := by omega
    have g2 : (A.size : Int) ≤ (line.size : Int) := by omega
    obtain ⟨X, hX⟩ : ∃ X, line.extract 0 A.size = X := ⟨_, rfl⟩
    by_cases hx : X = A
    · have t1 : (X.toList == A.toList) = true := (eq_eq X A).trans (decide_eq_true hx)
      obtain ⟨L0, hL0⟩ : ∃ X, line.extract A.size line.size = X := ⟨_, rfl⟩
      have hL0s : L0.size ≤ 100000000 := by rw [← hL0, ByteArray.size_extract]; omega
      have HM : Hid (matchC A l line = goM l L0 []) := Lib.hid (by unfold matchC; rw [if_pos ⟨hsz, hX.trans hx⟩, hL0])
      clear hx hsz hc1
      go_enter Try.func12, Try.ntmps12
      go_wp2_with fail
      go_quiet (fail)
      have hb0 := Below.dn (Below.refl w.heap.size w) nq
      have HR0 := Lib.hid (HR.out.on hb0)
      have HB0 := Lib.hid hb0
      obtain ⟨V, hV⟩ : ∃ V, w.drewN nq = V := ⟨_, rfl⟩
      rw [hV] at HR0 HB0 ⊢
      have hd0 : V.cell? ⟨b, 0, none⟩ = some (.string A) := by rw [← hV]; exact hc0
      clear hV hb0 hc0
      go_wp2_with fail
      go_loopw [6, 7, 8] (fun o p q v => ∃ (k : Nat) (Ao : Option Addr) (no co : Nat) (acc : List Lb) (left : ByteArray), k ≤ n ∧ o = .slice Ao no co ∧ p = .string left ∧ q = .int .i64 (k : Int) ∧ no ≤ k ∧ no ≤ co ∧ co ≤ 9223372036854775807 ∧ left.size ≤ 100000000 ∧ Hid (RowL v v.heap.size Ao no acc) ∧ Hid (goM (l.drop k) left acc = goM l L0 []) ∧ Hid (Below w.heap.size w v)) (fun _ _ q _ => n - (intOf q).toNat)
      case atStart => exact ⟨0, none, 0, 0, [], L0, by omega, rfl, rfl, rfl, by omega, by omega, by omega, hL0s, Lib.hid ⟨rfl, fun h => absurd h (by omega)⟩, Lib.hid rfl, HB0⟩
      case round =>
        clear HR0 HB0 hd0
        obtain ⟨k, Ao, no, co, acc, left, hk, rfl, rfl, rfl, hno, hnc, hcm, hls, HO, HG, HB⟩ := hrel
        have hc1 : wr.cell? ⟨b, 1, none⟩ = some (.slice a n c) := (HB.out.cell (p := ⟨b, 1, none⟩) HC.out.1).trans HC.out.2
        have hn1 := HN.out
        by_cases hlt : k < n
        · obtain ⟨g, off, rfl, hgB, hc⟩ := HR.out.2 (by omega)
          have a1 := (HB.out.cell (p := ⟨g, off + k * 2, none⟩) hgB).trans (hc k hlt).1
          have a2 := (HB.out.cell (p := ⟨g, off + k * 2 + 1, none⟩) hgB).trans (hc k hlt).2
          have hkl : k < l.length := by omega
          have hd := getD_cons_drop hkl
          have hmem := HZ.out _ (getD_memL hkl)
          obtain ⟨x, hx⟩ : ∃ x, l.getD k noL = x := ⟨_, rfl⟩
          rw [hx] at a1 a2 hd hmem
          obtain ⟨nm, lit⟩ := x
          dsimp only at a1 a2 hmem
          have hg := HG.out
          rw [hd, goM] at hg
          have k0 : (0 : Int) ≤ (k : Int) := by omega
          have k1 : (k : Int) < (n : Int) := by omega
          have f1 : decide ((k : Int) < (n : Int)) = true := decide_eq_true k1
          have HK := Lib.hid hlt
          clear hx hd hkl hc
          by_cases hlit : lit = ByteArray.empty
          · have t2 : lit.toList.isEmpty = true := by rw [hlit, ByteArray.toList_eq]; rfl
            rw [if_pos hlit] at hg
            obtain ⟨nn, hnn⟩ : ∃ m, left.size = m := ⟨_, rfl⟩
            obtain ⟨val, hval⟩ : ∃ m, left.extract 0 nn = m := ⟨_, rfl⟩
            obtain ⟨rest, hrest⟩ : ∃ m, left.extract nn nn = m := ⟨_, rfl⟩
            have HGx : Hid (goM (l.drop (k + 1)) rest (putN nm val acc) = goM l L0 []) := Lib.hid (by
              rw [← hval, ← hrest, ← hnn, ext_all, ext_end]; exact hg)
            have hls2 : lit.size = 0 := by rw [hlit]; rfl
            have hrs : rest.size ≤ 100000000 := by rw [← hrest, ByteArray.size_extract]; omega
            have e0 : (nn : Int) + (lit.size : Int) = (nn : Int) := by omega
            have e1 : (0 : Int) ≤ (nn : Int) := by omega
            have e2 : decide ((nn : Int) < 0) = false := decide_eq_false (by omega)
            have e3 : (nn : Int) ≤ (left.size : Int) := by omega
            have e4 : IntKind.i64.wrap (nn : Int) = (nn : Int) := by rw [IntKind.wrap_i64]; omega
            have HRE := Lib.hid (show ByteArray.empty = rest by rw [← hrest, ← hnn, ext_end])
            clear hg hlit hls2
            by_cases hu : nm = ⟨#[95]⟩
            · have t3 : (nm.toList == [95]) = true := (lit_eq nm [95]).trans (decide_eq_true hu)
              have HG2 : Hid (goM (l.drop (k + 1)) rest acc = goM l L0 []) := Lib.hid (by
                have h := HGx.out
                unfold putN at h
                rwa [if_pos hu] at h)
              clear hu
              go_wp2_with fail
              exact ⟨⟨k + 1, Ao, no, co, acc, rest, HK.out, rfl, by rw [HRE.out], by go_num, by omega, hnc, hcm, hrs, HO, HG2, HB⟩, by have := HK.out; simp [intOf]; omega⟩
            · have t3 : (nm.toList == [95]) = false := (lit_eq nm [95]).trans (decide_eq_false hu)
              obtain ⟨acc2, hacc2⟩ : ∃ x, setL acc nm val = x := ⟨_, rfl⟩
              obtain ⟨m2, hm2⟩ : ∃ x, acc2.length = x := ⟨_, rfl⟩
              have HG2 : Hid (goM (l.drop (k + 1)) rest acc2 = goM l L0 []) := Lib.hid (by
                have h := HGx.out
                unfold putN at h
                rwa [if_neg hu, hacc2] at h)
              have hm2k : m2 ≤ k + 1 := by
                have h := set_len (l := acc) nm val
                have h2 := HO.out.1
                rw [hacc2, hm2] at h
                omega
              have HS := Lib.hid (fun v (hb : Below wr.heap.size wr v) => (show Calls Try.prog 33 #[.slice Ao no co, .string nm, .string val] v fun e w' => ∃ A2 c2, e = .returned (.slice A2 m2 c2) ∧ w'.ownsRow v.heap.size 77 2 (.slice A2 m2 c2) m2 (cL acc2) ∧ Below v.heap.size v w' from by
                have h := rSet_any Ao no co acc nm val v (HO.out.on hb) (by omega)
                rw [hacc2] at h
                unfold LOut at h
                rwa [hm2] at h))
              have HQ := Lib.hid (fun v (h : Below wr.heap.size wr v) => And.intro ((h.cell (p := ⟨b, 1, none⟩) (Nat.lt_of_lt_of_le HC.out.1 HB.out.size)).trans hc1) ((h.cell (p := ⟨g, off + k * 2, none⟩) (Nat.lt_of_lt_of_le hgB HB.out.size)).trans a1))
              have hbd : Below wr.heap.size wr (wr).drew := (Below.refl _ _).drew
              clear hu hacc2 hm2
              go_wp2_with fail
              go_region_held3 (fun v => v.cell? ⟨b, 1, none⟩ = some (.slice (some ⟨g, off, none⟩) n c) ∧ v.cell? ⟨g, off + k * 2, none⟩ = some (.string nm))
                (first | exact HQ.out _ hbd | exact HQ.out _ hb2)
                ((go_at_call 33
                  (with_reducible refine (HS.out _ hbd).mono ?_
                   rintro e s2 ⟨A2, c2, rfl, o2, b2⟩
                   have hb2 := next hbd b2)))
              have HO2 := Lib.hid (RowL.own o2)
              have hcap := own_cap o2
              have hq2 := HQ.out _ hb2
              have HB2 := Lib.hid (next HB.out hb2)
              have z2 := (hb2.cell (p := ⟨g, off + k * 2 + 1, none⟩) (Nat.lt_of_lt_of_le hgB HB.out.size)).trans a2
              obtain ⟨z0, z1⟩ := hq2
              clear hb2 b2 o2 hbd a1 a2 hc1
              go_wp2_with fail
              exact ⟨⟨k + 1, A2, m2, c2, acc2, rest, HK.out, rfl, by rw [HRE.out], by go_num, hm2k, hcap.1, hcap.2, hrs, HO2, HG2, HB2⟩, by have := HK.out; simp [intOf]; omega⟩
          · have t2 : lit.toList.isEmpty = false := by
              cases hyl : bl lit with
              | nil => exact absurd (bl_nil.2 hyl) hlit
              | cons c t => exact isEmpty_no hyl
            rw [if_neg hlit] at hg
            have HQf := Lib.hid (fun v => rFind_any left lit (by omega) (by omega) v)
            have HQ0 := Lib.hid (fun v (h : Below wr.heap.size wr v) => And.intro ((h.cell (p := ⟨b, 1, none⟩) (Nat.lt_of_lt_of_le HC.out.1 HB.out.size)).trans hc1) ((h.cell (p := ⟨g, off + k * 2 + 1, none⟩) (Nat.lt_of_lt_of_le hgB HB.out.size)).trans a2))
            have hbd0 : Below wr.heap.size wr wr.drew := (Below.refl _ _).drew
            have hge := idx_ge left lit
            by_cases hneg : idx left lit < 0
            · rw [if_pos hneg] at hg
              have HF : Hid (matchC A l line = none) := Lib.hid (by rw [HM.out, ← hg])
              obtain ⟨j, hj⟩ : ∃ j, idx left lit = j := ⟨_, rfl⟩
              rw [hj] at HQf hneg
              have e2 : decide (j < 0) = true := decide_eq_true hneg
              clear hg hlit hge hj HQ0 hbd0
              go_wp2_with fail
              with_reducible refine (HQf.out _).mono ?_
              rintro e w2 ⟨rfl, bb⟩
              have HB2 := Lib.hid (next HB.out bb)
              clear bb
              go_wp2_with fail
              go_ret2
              exact ⟨HB2.out, .inl ⟨HF.out, rfl⟩⟩
            · rw [if_neg hneg] at hg
              obtain ⟨nn, hnn⟩ : ∃ m, (idx left lit).toNat = m := ⟨_, rfl⟩
              have hroom := idx_room (s := left) (t := lit) (by omega)
              have hidx : idx left lit = (nn : Int) := by omega
              rw [hnn] at hg hroom
              rw [hidx] at HQf
              obtain ⟨val, hval⟩ : ∃ m, left.extract 0 nn = m := ⟨_, rfl⟩
              obtain ⟨q, hq⟩ : ∃ q, nn + lit.size = q := ⟨_, rfl⟩
              rw [hq] at hg hroom
              obtain ⟨rest, hrest⟩ : ∃ m, left.extract q left.size = m := ⟨_, rfl⟩
              rw [hval, hrest] at hg
              have HGx := Lib.hid hg
              have hrs : rest.size ≤ 100000000 := by rw [← hrest, ByteArray.size_extract]; omega
              have e0 : (nn : Int) + (lit.size : Int) = (q : Int) := by omega
              have e1 : (0 : Int) ≤ (nn : Int) := by omega
              have e5 : (0 : Int) ≤ (q : Int) := by omega
              have e6 : (q : Int) ≤ (left.size : Int) := by omega
              have e2 : decide ((nn : Int) < 0) = false := decide_eq_false (by omega)
              have e3 : (nn : Int) ≤ (left.size : Int) := by omega
              have e4 : IntKind.i64.wrap (q : Int) = (q : Int) := by rw [IntKind.wrap_i64]; omega
              clear hg hlit hge hneg hnn hidx hq hroom hbd0
              go_wp2_with fail
              with_reducible refine (HQf.out _).mono ?_
              rintro e w2 ⟨rfl, bb⟩
              replace a1 := (bb.cell (p := ⟨g, off + k * 2, none⟩) (Nat.lt_of_lt_of_le hgB HB.out.size)).trans a1
              replace a2 := (HQ0.out _ bb).2
              replace hc1 := (HQ0.out _ bb).1
              replace HO := Lib.hid (HO.out.on bb)
              replace HB := Lib.hid (next HB.out bb)
              clear bb HQ0
              by_cases hu : nm = ⟨#[95]⟩
              · have t3 : (nm.toList == [95]) = true := (lit_eq nm [95]).trans (decide_eq_true hu)
                have HG2 : Hid (goM (l.drop (k + 1)) rest acc = goM l L0 []) := Lib.hid (by
                  have h := HGx.out
                  unfold putN at h
                  rwa [if_pos hu] at h)
                clear hu
                go_wp2_with fail
                exact ⟨⟨k + 1, Ao, no, co, acc, rest, HK.out, rfl, rfl, by go_num, by omega, hnc, hcm, hrs, HO, HG2, HB⟩, by have := HK.out; simp [intOf]; omega⟩
              · have t3 : (nm.toList == [95]) = false := (lit_eq nm [95]).trans (decide_eq_false hu)
                obtain ⟨acc2, hacc2⟩ : ∃ x, setL acc nm val = x := ⟨_, rfl⟩
                obtain ⟨m2, hm2⟩ : ∃ x, acc2.length = x := ⟨_, rfl⟩
                have HG2 : Hid (goM (l.drop (k + 1)) rest acc2 = goM l L0 []) := Lib.hid (by
                  have h := HGx.out
                  unfold putN at h
                  rwa [if_neg hu, hacc2] at h)
                have hm2k : m2 ≤ k + 1 := by
                  have h := set_len (l := acc) nm val
                  have h2 := HO.out.1
                  rw [hacc2, hm2] at h
                  omega
                have HS := Lib.hid (fun v (hb : Below w2.heap.size w2 v) => (show Calls Try.prog 33 #[.slice Ao no co, .string nm, .string val] v fun e w' => ∃ A2 c2, e = .returned (.slice A2 m2 c2) ∧ w'.ownsRow v.heap.size 77 2 (.slice A2 m2 c2) m2 (cL acc2) ∧ Below v.heap.size v w' from by
                  have h := rSet_any Ao no co acc nm val v (HO.out.on hb) (by omega)
                  rw [hacc2] at h
                  unfold LOut at h
                  rwa [hm2] at h))
                have HQ := Lib.hid (fun v (h : Below w2.heap.size w2 v) => And.intro ((h.cell (p := ⟨b, 1, none⟩) (Nat.lt_of_lt_of_le HC.out.1 HB.out.size)).trans hc1) ((h.cell (p := ⟨g, off + k * 2, none⟩) (Nat.lt_of_lt_of_le hgB HB.out.size)).trans a1))
                have hbd : Below w2.heap.size w2 (w2).drew := (Below.refl _ _).drew
                clear hu hacc2 hm2
                go_wp2_with fail
                go_region_held3 (fun v => v.cell? ⟨b, 1, none⟩ = some (.slice (some ⟨g, off, none⟩) n c) ∧ v.cell? ⟨g, off + k * 2, none⟩ = some (.string nm))
                  (first | exact HQ.out _ hbd | exact HQ.out _ hb2)
                  ((go_at_call 33
                    (with_reducible refine (HS.out _ hbd).mono ?_
                     rintro e s2 ⟨A2, c2, rfl, o2, b2⟩
                     have hb2 := next hbd b2)))
                have HO2 := Lib.hid (RowL.own o2)
                have hcap := own_cap o2
                have hq2 := HQ.out _ hb2
                have HB2 := Lib.hid (next HB.out hb2)
                have z2 := (hb2.cell (p := ⟨g, off + k * 2 + 1, none⟩) (Nat.lt_of_lt_of_le hgB HB.out.size)).trans a2
                obtain ⟨z0, z1⟩ := hq2
                clear hb2 b2 o2 hbd a1 a2 hc1
                go_wp2_with fail
                exact ⟨⟨k + 1, A2, m2, c2, acc2, rest, HK.out, rfl, rfl, by go_num, hm2k, hcap.1, hcap.2, hrs, HO2, HG2, HB2⟩, by have := HK.out; simp [intOf]; omega⟩
        · obtain rfl : n = k := by omega
          have f3 : ¬ ((n : Int) < (n : Int)) := by omega
          have f1 : decide ((n : Int) < (n : Int)) = false := decide_eq_false f3
          have HF : Hid (matchC A l line = some acc) := Lib.hid (by
            rw [HM.out, ← HG.out, List.drop_of_length_le (by omega), goM])
          go_wp2_with fail
          go_ret2
          exact ⟨HB.out, .inr ⟨acc, Ao, no, co, HF.out, rfl, HO.out, hnc, hcm⟩⟩
    · have t1 : (X.toList == A.toList) = false := (eq_eq X A).trans (decide_eq_false hx)
      have HM : Hid (matchC A l line = none) := Lib.hid (by unfold matchC; rw [if_neg (fun k => hx (hX.symm.trans k.2))])
      clear hx hsz
      go_enter Try.func12, Try.ntmps12
      go_wp2_with fail
      go_quiet (fail)
      have HB0 := Lib.hid (Below.dn (Below.refl w.heap.size w) nq)
      go_wp2_with fail
      go_ret2
      exact ⟨HB0.out, .inl ⟨HM.out, rfl⟩⟩
  · have f1 : decide ((line.size : Int) < (A.size : Int)) = true := decide_eq_true (by omega)
    have f2 : decide (line.size < A.size) = true := decide_eq_true (by omega)
    have HM : Hid (matchC A l line = none) := Lib.hid (by unfold matchC; rw [if_neg (fun k => hsz k.1)])
    clear hsz
    go_enter Try.func12, Try.ntmps12
    go_wp2_with fail
    go_quiet (fail)
    have HB0 := Lib.hid (Below.dn (Below.refl w.heap.size w) nq)
    go_wp2_with fail
    go_ret2
    exact ⟨HB0.out, .inl ⟨HM.out, rfl⟩⟩
end Go.Proofs.Ytomjdicedjdpnaa
