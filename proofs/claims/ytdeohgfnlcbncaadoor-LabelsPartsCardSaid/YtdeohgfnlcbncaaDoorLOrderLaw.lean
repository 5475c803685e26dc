/- LabelsOrder, walked. -/
import Derived.Test.YtdeohgfnlcbncaaDoorLNear
import Derived.Test.YtdeohgfnlcbncaaDoorLOrdM
import Derived.Test.YtdeohgfnlcbncaaDoorLCleanLaw
import Derived.Test.YtdeohgfnlcbncaaDoorLCmp2
import Derived.Test.YtdeohgfnlcbncaaDoorLSame
namespace Go.Proofs.YtdeohgfnlcbncaaDoor
open Go.RowKit Go.Shelf Go.Lib

theorem near_rl (A : Option Addr) (l : List Int) (a : List Lb) (n c : Nat) (w : World) (hr : Row w w.heap.size A n (ints .i64 l)) (hn : n ≤ 140737488351232) (hu : ∀ x ∈ l, (Lit.int .i64 x).wf = true) (ha : Hid (nearTo (vOf l) 8 = a)) :
    Calls Tryd.prog 20 #[.slice A n c] w (RL w a.length a) :=
  (near_any A l n c w hr hn hu).mono fun _ _ k => k.rl ha.out rfl
set_option maxRecDepth 100000 in
set_option maxHeartbeats 8000000 in
theorem LabelsOrder_walk (A0 : Option Addr) (l0 : List Int) (c0 : Nat) (A1 : Option Addr) (l1 : List Int) (c1 : Nat) (A2 : Option Addr) (l2 : List Int) (c2 : Nat) (w : World)
    (hr0 : Row w w.heap.size A0 l0.length (ints .i64 l0)) (hc0 : l0.length ≤ c0) (hs0 : c0 * 8 ≤ 140737488351232) (hu0 : ∀ x ∈ l0, (Lit.int .i64 x).wf = true)
    (hr1 : Row w w.heap.size A1 l1.length (ints .i64 l1)) (hc1 : l1.length ≤ c1) (hs1 : c1 * 8 ≤ 140737488351232) (hu1 : ∀ x ∈ l1, (Lit.int .i64 x).wf = true)
    (hr2 : Row w w.heap.size A2 l2.length (ints .i64 l2)) (hc2 : l2.length ≤ c2) (hs2 : c2 * 8 ≤ 140737488351232) (hu2 : ∀ x ∈ l2, (Lit.int .i64 x).wf = true) (_hT : Tab w) :
    Calls Tryd.prog 4 #[.slice A0 l0.length c0, .slice A1 l1.length c1, .slice A2 l2.length c2] w fun e w' => e = .returned (.bool true) ∧ Below w.heap.size w w' := by
  have hm0 : l0.length ≤ 140737488351232 := by omega
  have hm1 : l1.length ≤ 140737488351232 := by omega
  have hm2 : l2.length ≤ 140737488351232 := by omega
  have HU0 := Lib.hid hu0
  have HU1 := Lib.hid hu1
  have HU2 := Lib.hid hu2
  have HRx := Lib.hid hr0
  have HRy := Lib.hid hr1
  have HRz := Lib.hid hr2
  obtain ⟨n0, hn0⟩ : ∃ n, l0.length = n := ⟨_, rfl⟩
  obtain ⟨n1, hn1⟩ : ∃ n, l1.length = n := ⟨_, rfl⟩
  obtain ⟨n2, hn2⟩ : ∃ n, l2.length = n := ⟨_, rfl⟩
  rw [hn0] at HRx hm0 ⊢
  rw [hn1] at HRy hm1 ⊢
  rw [hn2] at HRz hm2 ⊢
  clear hn0 hn1 hn2 hc0 hc1 hc2 hs0 hs1 hs2 hr0 hr1 hr2 hu0 hu1 hu2
  obtain ⟨a, ha⟩ : ∃ a, nearTo (vOf l0) 8 = a := ⟨_, rfl⟩
  obtain ⟨b, hb⟩ : ∃ b, nearTo (vOf l1) 8 = b := ⟨_, rfl⟩
  obtain ⟨c, hc⟩ : ∃ c, nearTo (vOf l2) 8 = c := ⟨_, rfl⟩
  have la : a.length ≤ 8 := by rw [← ha]; exact near_len _ _
  have lb : b.length ≤ 8 := by rw [← hb]; exact near_len _ _
  have lc : c.length ≤ 8 := by rw [← hc]; exact near_len _ _
  have NA : ∀ x ∈ a, NearL x := by rw [← ha]; exact near_all l0
  have NB : ∀ x ∈ b, NearL x := by rw [← hb]; exact near_all l1
  have HCK : Hid (chkL nmS a = 0) := Lib.hid (by rw [← ha]; exact near_check l0)
  have HSA : Hid (∀ x ∈ a, x.1.size < 100 ∧ x.2.size < 100) := Lib.hid (fun x hx => by have := near_smallL NA x hx; omega)
  have HSB : Hid (∀ x ∈ b, x.1.size < 100 ∧ x.2.size < 100) := Lib.hid (fun x hx => by have := near_smallL NB x hx; omega)
  have HTA : Hid (∀ x ∈ a, x.1.size < 100 ∧ x.2.size < 1000) := Lib.hid (fun x hx => by have := near_smallL NA x hx; omega)
  have HTB : Hid (∀ x ∈ b, x.1.size < 100 ∧ x.2.size < 1000) := Lib.hid (fun x hx => by have := near_smallL NB x hx; omega)
  obtain ⟨s, hs⟩ : ∃ s, decide (a = b) = s := ⟨_, rfl⟩
  have HS := Lib.hid hs
  obtain ⟨ka, hka⟩ : ∃ k, ofl (keyL a) = k := ⟨_, rfl⟩
  obtain ⟨kb, hkb⟩ : ∃ k, ofl (keyL b) = k := ⟨_, rfl⟩
  have hks : (ka.toList == kb.toList) = s := by
    rw [eq_eq, ← hs]
    refine decide_eq_decide.2 ⟨fun e => keyL_inj (near_smallL NA) (near_smallL NB) (ofl_inj (keyL_byt _) (keyL_byt _) (by rw [hka, hkb, e])), fun e => by rw [← hka, ← hkb, e]⟩
  obtain ⟨ta, hta⟩ : ∃ k, textS a = k := ⟨_, rfl⟩
  obtain ⟨tb, htb⟩ : ∃ k, textS b = k := ⟨_, rfl⟩
  have hts : (ta.toList == tb.toList) = s := by
    rw [eq_eq, ← hs]
    refine decide_eq_decide.2 ⟨fun e => textS_inj NA NB (by rw [hta, htb, e]), fun e => by rw [← hta, ← htb, e]⟩
  have Hka := Lib.hid hka
  have Hkb := Lib.hid hkb
  have Hta := Lib.hid hta
  have Htb := Lib.hid htb
  obtain ⟨p, hp⟩ : ∃ p, cmpL a b = p := ⟨_, rfl⟩
  obtain ⟨q, hq⟩ : ∃ q, cmpL b c = q := ⟨_, rfl⟩
  obtain ⟨r, hr⟩ : ∃ r, cmpL a c = r := ⟨_, rfl⟩
  obtain ⟨p', hp'⟩ : ∃ p', cmpL b a = p' := ⟨_, rfl⟩
  have e0 : p' = -p := by rw [← hp', ← hp]; exact cmpL_neg a b
  have mp := cmpL_mid a b
  rw [hp] at mp
  have T := cmpL_trans a b c
  rw [hp, hq, hr] at T
  have hps : (p == 0) = s := by
    rw [← hs, ← hp]
    by_cases h : a = b
    · rw [decide_eq_true h]; exact beq_iff_eq.2 ((cmpL_eq a b).2 h)
    · rw [decide_eq_false h]; exact beq_eq_false_iff_ne.2 fun k => h ((cmpL_eq a b).1 k)
  have w1 : IntKind.i64.wrap (-p') = p := by rw [IntKind.wrap_i64]; omega
  have Hp := Lib.hid hp
  have Hq := Lib.hid hq
  have Hr := Lib.hid hr
  have Hp' := Lib.hid hp'
  have HA := Lib.hid ha
  have HBn := Lib.hid hb
  have HC0 := Lib.hid hc
  have hpp : (p == p) = true := beq_self_eq_true p
  have HB : Hid (Below w.heap.size w w) := Lib.hid (Below.refl _ _)
  have hss : (s == s) = true := beq_self_eq_true s
  have K : ((0 < p ∧ decide (0 < p) = true ∧ decide (0 ≤ p) = true) ∨ (p = 0 ∧ 0 < q) ∨ (p = 0 ∧ q ≤ 0 ∧ r ≤ 0) ∨ (p < 0 ∧ 0 < q) ∨ (p < 0 ∧ q ≤ 0 ∧ r < 0)) := by
    rcases (by omega : 0 < p ∨ (p = 0 ∧ 0 < q) ∨ (p = 0 ∧ q ≤ 0) ∨ (p < 0 ∧ 0 < q) ∨ (p < 0 ∧ q ≤ 0)) with h | h | h | h | h
    · exact .inl ⟨h, decide_eq_true h, decide_eq_true (by omega)⟩
    · exact .inr (.inl h)
    · exact .inr (.inr (.inl ⟨h.1, h.2, (T (by omega) h.2).1⟩))
    · exact .inr (.inr (.inr (.inl h)))
    · exact .inr (.inr (.inr (.inr ⟨h.1, h.2, (T (by omega) h.2).2 h.1⟩)))
  have HKK := Lib.hid K
  clear K T mp e0 hp hq hr hp' hka hkb hta htb hs NA NB ha hb hc
  go_enter Tryd.func4, Tryd.ntmps4
  have C := works_any w
  replace C := Lib.hid C
  go_wp2_with fail
  with_reducible refine C.out.mono ?_
  rintro e v1 ⟨rfl, b⟩
  clear C
  replace HRx := Lib.hid (HRx.out.on b)
  replace HRy := Lib.hid (HRy.out.on b)
  replace HRz := Lib.hid (HRz.out.on b)
  replace HB := Lib.hid (next HB.out b)
  clear b
  have C := near_rl A0 l0 a n0 c0 v1 HRx.out hm0 HU0.out HA
  replace C := Lib.hid C
  go_wp2_with fail
  with_reducible refine C.out.mono ?_
  rintro e v2 ⟨Aa, ca, rfl, r, hna, hca, b⟩
  clear C
  replace HRx := Lib.hid (HRx.out.on b)
  replace HRy := Lib.hid (HRy.out.on b)
  replace HRz := Lib.hid (HRz.out.on b)
  replace HB := Lib.hid (next HB.out b)
  have HRa := Lib.hid r
  clear r
  clear b
  clear HRx
  have C := near_rl A1 l1 b n1 c1 v2 HRy.out hm1 HU1.out HBn
  replace C := Lib.hid C
  go_wp2_with fail
  with_reducible refine C.out.mono ?_
  rintro e v3 ⟨Ab, cb, rfl, r, hnb, hcb, b⟩
  clear C
  replace HRy := Lib.hid (HRy.out.on b)
  replace HRz := Lib.hid (HRz.out.on b)
  replace HRa := Lib.hid (HRa.out.on b)
  replace HB := Lib.hid (next HB.out b)
  have HRb := Lib.hid r
  clear r
  clear b
  clear HRy
  have C := near_rl A2 l2 c n2 c2 v3 HRz.out hm2 HU2.out HC0
  replace C := Lib.hid C
  go_wp2_with fail
  with_reducible refine C.out.mono ?_
  rintro e v4 ⟨Ac, cc, rfl, r, hnc, hcc, b⟩
  clear C
  replace HRz := Lib.hid (HRz.out.on b)
  replace HRa := Lib.hid (HRa.out.on b)
  replace HRb := Lib.hid (HRb.out.on b)
  replace HB := Lib.hid (next HB.out b)
  have HRc := Lib.hid r
  clear r
  clear b
  clear HRz
  have C := Compare_any Aa Ab a.length b.length ca cb a b v4 HRa.out HRb.out (by omega) (by omega)
  rw [Hp.out] at C
  replace C := Lib.hid C
  go_wp2_with fail
  with_reducible refine C.out.mono ?_
  rintro e v5 ⟨rfl, b⟩
  clear C
  replace HRa := Lib.hid (HRa.out.on b)
  replace HRb := Lib.hid (HRb.out.on b)
  replace HRc := Lib.hid (HRc.out.on b)
  replace HB := Lib.hid (next HB.out b)
  clear b
  have C := Compare_any Ab Ac b.length c.length cb cc b c v5 HRb.out HRc.out (by omega) (by omega)
  rw [Hq.out] at C
  replace C := Lib.hid C
  go_wp2_with fail
  with_reducible refine C.out.mono ?_
  rintro e v6 ⟨rfl, b⟩
  clear C
  replace HRa := Lib.hid (HRa.out.on b)
  replace HRb := Lib.hid (HRb.out.on b)
  replace HRc := Lib.hid (HRc.out.on b)
  replace HB := Lib.hid (next HB.out b)
  clear b
  have C := Compare_any Aa Ac a.length c.length ca cc a c v6 HRa.out HRc.out (by omega) (by omega)
  rw [Hr.out] at C
  replace C := Lib.hid C
  go_wp2_with fail
  with_reducible refine C.out.mono ?_
  rintro e v7 ⟨rfl, b⟩
  clear C
  replace HRa := Lib.hid (HRa.out.on b)
  replace HRb := Lib.hid (HRb.out.on b)
  replace HRc := Lib.hid (HRc.out.on b)
  replace HB := Lib.hid (next HB.out b)
  clear b
  clear HRc
  have C := Key_any Aa a.length ca a v7 HRa.out (by omega) HSA.out
  rw [Hka.out] at C
  replace C := Lib.hid C
  go_wp2_with fail
  with_reducible refine C.out.mono ?_
  rintro e v8 ⟨rfl, b⟩
  clear C
  replace HRa := Lib.hid (HRa.out.on b)
  replace HRb := Lib.hid (HRb.out.on b)
  replace HB := Lib.hid (next HB.out b)
  clear b
  have C := Key_any Ab b.length cb b v8 HRb.out (by omega) HSB.out
  rw [Hkb.out] at C
  replace C := Lib.hid C
  go_wp2_with fail
  with_reducible refine C.out.mono ?_
  rintro e v9 ⟨rfl, b⟩
  clear C
  replace HRa := Lib.hid (HRa.out.on b)
  replace HRb := Lib.hid (HRb.out.on b)
  replace HB := Lib.hid (next HB.out b)
  clear b
  have C := Compare_any Ab Aa b.length a.length cb ca b a v9 HRb.out HRa.out (by omega) (by omega)
  rw [Hp'.out] at C
  replace C := Lib.hid C
  go_wp2_with fail
  with_reducible refine C.out.mono ?_
  rintro e v10 ⟨rfl, b⟩
  clear C
  replace HRa := Lib.hid (HRa.out.on b)
  replace HRb := Lib.hid (HRb.out.on b)
  replace HB := Lib.hid (next HB.out b)
  clear b
  have HQ := HKK.out
  clear HKK
  replace HQ : ((decide (0 < p) = true ∧ decide (0 ≤ p) = true) ∨ (decide (0 < p) = false ∧ decide (0 ≤ p) = true ∧ decide (0 < q) = true) ∨ (decide (0 < p) = false ∧ decide (0 ≤ p) = true ∧ decide (0 < q) = false ∧ decide (r ≤ 0) = true) ∨ (decide (0 < p) = false ∧ decide (0 ≤ p) = false ∧ decide (0 < q) = true) ∨ (decide (0 < p) = false ∧ decide (0 ≤ p) = false ∧ decide (0 < q) = false ∧ decide (r ≤ 0) = true ∧ decide (r < 0) = true)) := by
    rcases HQ with ⟨_, h⟩ | ⟨h1, h2⟩ | ⟨h1, h2, h3⟩ | ⟨h1, h2⟩ | ⟨h1, h2, h3⟩
    · exact .inl h
    · exact .inr (.inl ⟨decide_eq_false (by omega), decide_eq_true (by omega), decide_eq_true h2⟩)
    · exact .inr (.inr (.inl ⟨decide_eq_false (by omega), decide_eq_true (by omega), decide_eq_false (by omega), decide_eq_true h3⟩))
    · exact .inr (.inr (.inr (.inl ⟨decide_eq_false (by omega), decide_eq_false (by omega), decide_eq_true h2⟩)))
    · exact .inr (.inr (.inr (.inr ⟨decide_eq_false (by omega), decide_eq_false (by omega), decide_eq_false (by omega), decide_eq_true (by omega), decide_eq_true h3⟩)))
  rcases HQ with ⟨q1, q2⟩ | ⟨q1, q2, q3⟩ | ⟨q1, q2, q3, q4⟩ | ⟨q1, q2, q3⟩ | ⟨q1, q2, q3, q4, q5⟩
  all_goals
    have C := Compare_any Aa Aa a.length a.length ca ca a a v10 HRa.out HRa.out (by omega) (by omega)
    rw [cmpL_self] at C
    replace C := Lib.hid C
    go_wp2_with fail
    with_reducible refine C.out.mono ?_
    rintro e v11 ⟨rfl, b⟩
    clear C
    replace HRa := Lib.hid (HRa.out.on b)
    replace HRb := Lib.hid (HRb.out.on b)
    replace HB := Lib.hid (next HB.out b)
    clear b
    have C := Same_any Aa Ab a.length b.length ca cb a b v11 HRa.out HRb.out (by omega) (by omega)
    rw [HS.out] at C
    replace C := Lib.hid C
    go_wp2_with fail
    with_reducible refine C.out.mono ?_
    rintro e v12 ⟨rfl, b⟩
    clear C
    replace HRa := Lib.hid (HRa.out.on b)
    replace HRb := Lib.hid (HRb.out.on b)
    replace HB := Lib.hid (next HB.out b)
    clear b
    have C := eq_any Aa Ab a.length b.length ca cb a b v12 HRa.out HRb.out (by omega) (by omega)
    rw [HS.out] at C
    replace C := Lib.hid C
    go_wp2_with fail
    with_reducible refine C.out.mono ?_
    rintro e v13 ⟨rfl, b⟩
    clear C
    replace HRa := Lib.hid (HRa.out.on b)
    replace HRb := Lib.hid (HRb.out.on b)
    replace HB := Lib.hid (next HB.out b)
    clear b
    have C := Text_any Aa a.length ca a v13 HRa.out (by omega) HTA.out
    rw [Hta.out] at C
    replace C := Lib.hid C
    go_wp2_with fail
    with_reducible refine C.out.mono ?_
    rintro e v14 ⟨rfl, b⟩
    clear C
    replace HRa := Lib.hid (HRa.out.on b)
    replace HRb := Lib.hid (HRb.out.on b)
    replace HB := Lib.hid (next HB.out b)
    clear b
    have C := Text_any Ab b.length cb b v14 HRb.out (by omega) HTB.out
    rw [Htb.out] at C
    replace C := Lib.hid C
    go_wp2_with fail
    with_reducible refine C.out.mono ?_
    rintro e v15 ⟨rfl, b⟩
    clear C
    replace HRa := Lib.hid (HRa.out.on b)
    replace HRb := Lib.hid (HRb.out.on b)
    replace HB := Lib.hid (next HB.out b)
    clear b
    have C := Check_any Aa a.length ca a v15 HRa.out (by omega)
    rw [HCK.out] at C
    replace C := Lib.hid C
    go_wp2_with fail
    with_reducible refine C.out.mono ?_
    rintro e v16 ⟨rfl, b⟩
    clear C
    replace HRa := Lib.hid (HRa.out.on b)
    replace HRb := Lib.hid (HRb.out.on b)
    replace HB := Lib.hid (next HB.out b)
    clear b
    go_wp2_with fail
    go_ret
    exact ⟨rfl, HB.out⟩
end Go.Proofs.YtdeohgfnlcbncaaDoor
