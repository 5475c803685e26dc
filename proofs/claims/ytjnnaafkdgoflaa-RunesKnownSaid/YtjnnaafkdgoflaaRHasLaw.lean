/- The law RunesHas, walked. -/
import Derived.Test.YtjnnaafkdgoflaaROnceLaw
import Derived.Test.YtjnnaafkdgoflaaREnds
namespace Go.Proofs.Ytjnnaafkdgoflaa
open Go.RowKit

theorem has_take {l : List Rg} {k : Nat} {x : Rg} {n : Int} (h : k < l.length) (hx : l.getD k (0, 0) = x) : has (l.take (k + 1)) n ↔ has (l.take k) n ∨ (isRn n ∧ x.1 ≤ n ∧ n ≤ x.2) := by
  unfold has
  rw [take_snocR h, hx, inR_snoc]
  exact ⟨fun ⟨k0, k1⟩ => k1.imp (fun k => ⟨k0, k⟩) (fun k => ⟨k0, k⟩), fun q => q.elim (fun k => ⟨k.1, .inl k.2⟩) (fun k => ⟨k.1, .inr k.2⟩)⟩
theorem has_step_yes {l : List Rg} {k : Nat} {x : Rg} {n : Int} (h : k < l.length) (hx : l.getD k (0, 0) = x) (h1 : isRn n ∧ x.1 ≤ n ∧ n ≤ x.2) : decide (has (l.take (k + 1)) n) = true := decide_eq_true ((has_take h hx).2 (.inr h1))
theorem has_step_no {l : List Rg} {k : Nat} {x : Rg} {n : Int} {t : Bool} (h : k < l.length) (hx : l.getD k (0, 0) = x) (ht : decide (has (l.take k) n) = t) (h1 : ¬ (isRn n ∧ x.1 ≤ n ∧ n ≤ x.2)) : decide (has (l.take (k + 1)) n) = t := by
  rw [← ht]
  exact decide_eq_decide.2 ((has_take h hx).trans (or_iff_left h1))
theorem has_step_was {l : List Rg} {k : Nat} {n : Int} (h : k < l.length) (ht : decide (has (l.take k) n) = true) : decide (has (l.take (k + 1)) n) = true :=
  decide_eq_true ((has_take h rfl).2 (.inl (of_decide_eq_true ht)))
theorem own_onI {w w' : World} {base n : Nat} {e : TypeId} {v : Value} {xs : List Value} (h : w.ownsRow base e 1 v n xs) (hb : Below w.heap.size w w') : w'.ownsRow base e 1 v n xs :=
  h.kept (row := none) ⟨hb.os, hb.tape, hb.output, hb.size, fun j hj _ => hb.block j hj⟩ (by rcases h : v.ownBlock with _ | g <;> simp)
theorem own_lowI {w : World} {base base' n : Nat} {e : TypeId} {v : Value} {xs : List Value} (hb : base' ≤ base) (h : w.ownsRow base e 1 v n xs) : w.ownsRow base' e 1 v n xs :=
  ⟨h.1, h.2.imp id (fun ⟨g, cap, cur, h1, h2, r⟩ => ⟨g, cap, cur, h1, Nat.le_trans hb h2, r⟩)⟩

set_option maxRecDepth 100000 in
set_option maxHeartbeats 8000000 in
theorem RunesHas_walk (A0 : Option Addr) (l0 : List Rg) (c0 : Nat) (A1 : Option Addr) (l1 : List Rg) (c1 : Nat) (r : Int) (w : World)
    (hr0 : RowR w w.heap.size A0 l0.length l0) (hc0 : l0.length ≤ c0) (hs0 : l0.length * 16 ≤ 140737488351232)
    (hr1 : RowR w w.heap.size A1 l1.length l1) (hc1 : l1.length ≤ c1) (hs1 : l1.length * 16 ≤ 140737488351232) (wr0 : (Lit.int .i64 r).wf = true) :
    Calls Try.prog 5 #[.slice A0 l0.length c0, .slice A1 l1.length c1, .int .i64 r] w fun e w' => e = .returned (.bool true) ∧ Below w.heap.size w w' := by
  obtain ⟨n0, hn0⟩ : ∃ n, l0.length = n := ⟨_, rfl⟩
  obtain ⟨n1, hn1⟩ : ∃ n, l1.length = n := ⟨_, rfl⟩
  obtain ⟨a, ha⟩ : ∃ a, l0.take 15 = a := ⟨_, rfl⟩
  obtain ⟨b, hb⟩ : ∃ a, l1.take 15 = a := ⟨_, rfl⟩
  obtain ⟨p0, hp0⟩ : ∃ p, a.length = p := ⟨_, rfl⟩
  obtain ⟨p1, hp1⟩ : ∃ p, b.length = p := ⟨_, rfl⟩
  have hmin0 : min n0 15 = p0 := by rw [← hp0, ← ha, List.length_take, hn0, Nat.min_comm]
  have hmin1 : min n1 15 = p1 := by rw [← hp1, ← hb, List.length_take, hn1, Nat.min_comm]
  have HRa : Hid (RowR w w.heap.size A0 p0 a) := Lib.hid (by
    have h := RowR.take hr0 (k := p0) (by omega)
    rwa [show l0.take p0 = a by rw [← ha, ← hmin0, ← hn0, Nat.min_comm, List.take_eq_take_min (i := 15)]] at h)
  have HRb : Hid (RowR w w.heap.size A1 p1 b) := Lib.hid (by
    have h := RowR.take hr1 (k := p1) (by omega)
    rwa [show l1.take p1 = b by rw [← hb, ← hmin1, ← hn1, Nat.min_comm, List.take_eq_take_min (i := 15)]] at h)
  have hp15 : p0 ≤ 15 := by omega
  have hq15 : p1 ≤ 15 := by omega
  have HLa := Lib.hid hp0
  have HLb := Lib.hid hp1
  have i0 : min (n0 : Int) 15 = (p0 : Int) := by omega
  have i1 : min (n1 : Int) 15 = (p1 : Int) := by omega
  have hnc0 : n0 ≤ c0 := by omega
  have hnc1 : n1 ≤ c1 := by omega
  have hpc0 : p0 ≤ c0 := by omega
  have hpc1 : p1 ≤ c1 := by omega
  have j0 : (p0 : Int) ≤ (c0 : Int) := by omega
  have j1 : (p1 : Int) ≤ (c1 : Int) := by omega
  have k0 : (0 : Int) ≤ (p0 : Int) := by omega
  have k1 : (0 : Int) ≤ (p1 : Int) := by omega
  rw [hn0, hn1]
  clear hr0 hc0 hs0 hr1 hc1 hs1 hmin0 hmin1 hn0 hn1 ha hb hp0 hp1 wr0
  have HB : Hid (Below w.heap.size w w) := Lib.hid (Below.refl _ _)
  obtain ⟨e0, hi0, hz0, hz1, hz2⟩ := info_partsI in_info
  go_enter Try.func5, Try.ntmps5
  go_wp2_with fail
  go_quiet (fail)
  have b := Below.dn (Below.refl w.heap.size w) nq
  replace HRa := Lib.hid (HRa.out.on b)
  replace HRb := Lib.hid (HRb.out.on b)
  replace HB := Lib.hid b
  clear i0 i1 hnc0 hnc1 hpc0 hpc1 j0 j1 k0 k1
  clear b
  obtain ⟨w0, hw0⟩ : ∃ x, w.drewN nq = x := ⟨_, rfl⟩
  rw [hw0] at HRa HRb HB ⊢
  clear hw0
  have C := set_any A0 p0 c0 a _ HRa.out (by omega)
  replace C := Lib.hid C
  go_wp2_with fail
  with_reducible refine C.out.mono ?_
  rintro e v1 ⟨Ax, cx, rfl, o, b⟩
  clear C
  replace HRa := Lib.hid (HRa.out.on b)
  replace HRb := Lib.hid (HRb.out.on b)
  replace HB := Lib.hid (next HB.out b)
  have HRx := Lib.hid (RowR.own o)
  clear o
  clear b
  have C := set_any A1 p1 c1 b _ HRb.out (by omega)
  replace C := Lib.hid C
  go_wp2_with fail
  with_reducible refine C.out.mono ?_
  rintro e v2 ⟨Ay, cy, rfl, o, b⟩
  clear C
  replace HRa := Lib.hid (HRa.out.on b)
  replace HRb := Lib.hid (HRb.out.on b)
  replace HRx := Lib.hid (HRx.out.on b)
  replace HB := Lib.hid (next HB.out b)
  have HRy := Lib.hid (RowR.own o)
  clear o
  clear b
  have C := Of_any Ax p0 cx a _ HRx.out (by omega)
  replace C := Lib.hid C
  go_wp2_with fail
  with_reducible refine C.out.mono ?_
  rintro e v3 ⟨Aw, cw, lw, rfl, h, o, b⟩
  clear C
  replace HRa := Lib.hid (HRa.out.on b)
  replace HRb := Lib.hid (HRb.out.on b)
  replace HRx := Lib.hid (HRx.out.on b)
  replace HRy := Lib.hid (HRy.out.on b)
  replace HB := Lib.hid (next HB.out b)
  have HRw := Lib.hid (RowR.own o)
  have HOw := Lib.hid h
  have hsw := h.1.short
  clear o h
  clear b
  have C := Not_any Ax p0 cx a _ HRx.out (by omega)
  replace C := Lib.hid C
  go_wp2_with fail
  with_reducible refine C.out.mono ?_
  rintro e v4 ⟨An, cn, ln, rfl, h, o, b⟩
  clear C
  replace HRa := Lib.hid (HRa.out.on b)
  replace HRb := Lib.hid (HRb.out.on b)
  replace HRx := Lib.hid (HRx.out.on b)
  replace HRy := Lib.hid (HRy.out.on b)
  replace HRw := Lib.hid (HRw.out.on b)
  replace HB := Lib.hid (next HB.out b)
  have HRn := Lib.hid (RowR.own o)
  have HOn := Lib.hid h
  have hsn := h.1.short
  clear o h
  clear b
  have hB := new_below v4 (.cells #[.slice Ax p0 cx, .slice Ay p1 cy] 24)
  have C := Join_any (some ⟨v4.heap.size, 0, none⟩) 2 2 [a, b] _ (SetsR.two HRx.out HRy.out cx cy 24) (by omega) (by simp [HLa.out, HLb.out]; omega)
  replace HRa := Lib.hid (HRa.out.on hB)
  replace HRb := Lib.hid (HRb.out.on hB)
  replace HRx := Lib.hid (HRx.out.on hB)
  replace HRy := Lib.hid (HRy.out.on hB)
  replace HRw := Lib.hid (HRw.out.on hB)
  replace HRn := Lib.hid (HRn.out.on hB)
  replace HB := Lib.hid (next HB.out hB)
  clear hB
  replace C := Lib.hid C
  go_wp2_with fail
  with_reducible refine C.out.mono ?_
  rintro e v5 ⟨Aj, cj, lj, rfl, h, o, b⟩
  clear C
  replace HRa := Lib.hid (HRa.out.on b)
  replace HRb := Lib.hid (HRb.out.on b)
  replace HRx := Lib.hid (HRx.out.on b)
  replace HRy := Lib.hid (HRy.out.on b)
  replace HRw := Lib.hid (HRw.out.on b)
  replace HRn := Lib.hid (HRn.out.on b)
  replace HB := Lib.hid (next HB.out b)
  have HRj := Lib.hid (RowR.own o)
  have HOj := Lib.hid h
  have hsj := h.1.short
  clear o h b
  have C := Both_any Ax Ay p0 p1 cx cy a b _ HRx.out HRy.out (by omega) (by omega)
  replace C := Lib.hid C
  go_wp2_with fail
  with_reducible refine C.out.mono ?_
  rintro e v6 ⟨Ao, co, lo, rfl, h, o, b⟩
  clear C
  replace HRa := Lib.hid (HRa.out.on b)
  replace HRb := Lib.hid (HRb.out.on b)
  replace HRx := Lib.hid (HRx.out.on b)
  replace HRy := Lib.hid (HRy.out.on b)
  replace HRw := Lib.hid (HRw.out.on b)
  replace HRn := Lib.hid (HRn.out.on b)
  replace HRj := Lib.hid (HRj.out.on b)
  replace HB := Lib.hid (next HB.out b)
  have HRo := Lib.hid (RowR.own o)
  have HOo := Lib.hid h
  have hso := h.1.short
  clear o h
  clear b
  have H6a := HRa
  have H6b := HRb
  have H6x := HRx
  have H6y := HRy
  have H6w := HRw
  have H6n := HRn
  have H6j := HRj
  have H6o := HRo
  have H6B := HB
  have C := ends_any A0 p0 c0 a r _ HRa.out (by omega)
  replace C := Lib.hid C
  go_wp2_with fail
  with_reducible refine C.out.mono ?_
  rintro e v7 ⟨Z1, q1, rfl, z1, l1, b⟩
  clear C
  replace HRa := Lib.hid (HRa.out.on b)
  replace HRb := Lib.hid (HRb.out.on b)
  replace HRx := Lib.hid (HRx.out.on b)
  replace HRy := Lib.hid (HRy.out.on b)
  replace HRw := Lib.hid (HRw.out.on b)
  replace HRn := Lib.hid (HRn.out.on b)
  replace HRj := Lib.hid (HRj.out.on b)
  replace HRo := Lib.hid (HRo.out.on b)
  replace HB := Lib.hid (next HB.out b)
  have HZ1 := Lib.hid z1
  have B67 := Lib.hid b
  clear z1
  clear b
  have C := ends_any A1 p1 c1 b r _ HRb.out (by omega)
  replace C := Lib.hid C
  go_wp2_with fail
  with_reducible refine C.out.mono ?_
  rintro e v8 ⟨Z2, q2, rfl, z2, l2, b⟩
  clear C
  replace HRa := Lib.hid (HRa.out.on b)
  replace HRb := Lib.hid (HRb.out.on b)
  replace HRx := Lib.hid (HRx.out.on b)
  replace HRy := Lib.hid (HRy.out.on b)
  replace HRw := Lib.hid (HRw.out.on b)
  replace HRn := Lib.hid (HRn.out.on b)
  replace HRj := Lib.hid (HRj.out.on b)
  replace HRo := Lib.hid (HRo.out.on b)
  replace HB := Lib.hid (next HB.out b)
  have HZ2 := Lib.hid z2
  clear z2
  replace HZ1 := Lib.hid (own_onI HZ1.out b)
  have B68 := Lib.hid (next B67.out b)
  clear b
  obtain ⟨g1, d1, rfl⟩ := ownI_slice HZ1.out
  obtain ⟨g2, d2, rfl⟩ := ownI_slice HZ2.out
  have own1 := HZ1.out
  have row2 := Row.own HZ2.out
  obtain ⟨m1, hm1⟩ : ∃ m, Z1.length = m := ⟨_, rfl⟩
  obtain ⟨m2, hm2⟩ : ∃ m, Z2.length = m := ⟨_, rfl⟩
  rw [hm1] at own1 l1 ⊢
  rw [hm2] at row2 l2 ⊢
  have HML : Hid ((Z1 ++ Z2).length = m1 + m2) := Lib.hid (by rw [List.length_append, hm1, hm2])
  have hmm : m1 + m2 ≤ 200 := by omega
  have hsz := B68.out.size
  clear hm1 hm2 HZ1 HZ2
  clear HRa HRb HRx HRy HRw HRn HRj HRo HB
  go_wp2_with (at_builtin; refine wpList_app _ rfl (.tmp 48) (.tmp 51) 42 rfl v6.heap.size 3 e0 (.int .i64 0) 8 Try.underlying42 hi0 hz0 hz1 hz2 rfl _ _ _ rfl own1 _ _ _ _ _ rfl row2 (ints_one _ _) (by unfold maxLen; omega) (by omega) hsz ?_)
  intro v3' w3 own3 _ b
  obtain ⟨g3, d3, rfl⟩ := ownI_slice own3
  rw [← ints_append] at own3
  have HRZ := Lib.hid (Row.own own3)
  generalize Z1 ++ Z2 = Z at *
  obtain ⟨m, hm⟩ : ∃ m, m1 + m2 = m := ⟨_, rfl⟩
  rw [hm] at HRZ HML hmm ⊢
  replace b := B68.out.trans b
  have HRa := Lib.hid (H6a.out.on b)
  have HRb := Lib.hid (H6b.out.on b)
  have HRx := Lib.hid (H6x.out.on b)
  have HRy := Lib.hid (H6y.out.on b)
  have HRw := Lib.hid (H6w.out.on b)
  have HRn := Lib.hid (H6n.out.on b)
  have HRj := Lib.hid (H6j.out.on b)
  have HRo := Lib.hid (H6o.out.on b)
  have HB := Lib.hid (next H6B.out b)
  clear own1 own3 row2 hm l1 l2 hsz b B67 B68 H6B H6a H6b H6x H6y H6w H6n H6j H6o
  go_wp2_with fail
  go_loopw [14] (fun p wr => ∃ i : Nat, i ≤ m ∧ p = .int .i64 (i : Int) ∧ Below w3.heap.size w3 wr) (fun p _ => m - (intOf p).toNat)
  case atStart => exact ⟨0, by omega, rfl, Below.refl _ _⟩
  case round =>
    obtain ⟨i, hi, rfl, hb⟩ := hrel
    by_cases hlt : i < m
    · obtain ⟨bz, oz, rfl, hbz, hcz⟩ := HRZ.out.2 (by omega)
      obtain ⟨n, hzn, _, _, _⟩ := ints_at .i64 Z i (by rw [HML.out]; exact hlt)
      have hz := (hb.cell (p := ⟨bz, oz + i, none⟩) hbz).trans ((hcz i hlt).trans hzn)
      clear hcz hzn
      have HRa1 := Lib.hid (HRa.out.on hb)
      have HRb1 := Lib.hid (HRb.out.on hb)
      have HRx1 := Lib.hid (HRx.out.on hb)
      have HRw1 := Lib.hid (HRw.out.on hb)
      have HRn1 := Lib.hid (HRn.out.on hb)
      have HRj1 := Lib.hid (HRj.out.on hb)
      have HRo1 := Lib.hid (HRo.out.on hb)
      have HBl := Lib.hid hb
      have g0 : (0 : Int) ≤ (i : Int) := by omega
      have g1 : (i : Int) < (m : Int) := by omega
      have f1 : decide ((i : Int) < (m : Int)) = true := decide_eq_true g1
      clear hb
      by_cases r0 : 0 ≤ n
      · have f2 : decide ((0 : Int) ≤ n) = true := decide_eq_true r0
        by_cases r1 : n ≤ 1114111
        · have f3 : decide (n ≤ 1114111) = true := decide_eq_true r1
          have HRU : Hid (isRn n) := Lib.hid ⟨r0, r1⟩
          clear r0 r1
          go_wp2_with fail
          go_loopw [17, 19] (fun f s w5 => ∃ (k : Nat) (t : Bool), k ≤ p0 ∧ s = .int .i64 (k : Int) ∧ f = .bool t ∧ Hid (decide (has (a.take k) n) = t) ∧ wr = w5) (fun _ s _ => p0 - (intOf s).toNat)
          case atStart => exact ⟨0, false, by omega, rfl, rfl, Lib.hid (decide_eq_false (fun h => inR_nil n h.2)), rfl⟩
          case round =>
            obtain ⟨k, t, hk, rfl, rfl, HT, rfl⟩ := hrel
            by_cases hlk : k < p0
            · obtain ⟨ba, oa, rfl, _, hca⟩ := HRa1.out.2 (by omega)
              obtain ⟨a1, a2⟩ := hca k hlk
              obtain ⟨x, hx⟩ : ∃ x, a.getD k (0, 0) = x := ⟨_, rfl⟩
              rw [hx] at a1 a2
              have HX := Lib.hid hx
              have HK : Hid (k < a.length) := Lib.hid (by rw [HLa.out]; exact hlk)
              obtain ⟨x1, x2⟩ := x
              dsimp only at a1 a2
              have g0' : (0 : Int) ≤ (k : Int) := by omega
              have g1' : (k : Int) < (p0 : Int) := by omega
              have f1' : decide ((k : Int) < (p0 : Int)) = true := decide_eq_true g1'
              clear hca hx
              rcases t with _ | _
              · by_cases q1 : x1 ≤ n
                · have f2' : decide (x1 ≤ n) = true := decide_eq_true q1
                  by_cases q2 : n ≤ x2
                  · have f3' : decide (n ≤ x2) = true := decide_eq_true q2
                    have HN2 : Hid (decide (has (a.take (k + 1)) n) = true) := Lib.hid (has_step_yes HK.out HX.out ⟨HRU.out, q1, q2⟩)
                    clear HT
                    go_wp2_with fail
                    exact ⟨⟨k + 1, true, hlk, by go_num, rfl, HN2, trivial⟩, by simp [intOf]; omega⟩
                  · have f3' : decide (n ≤ x2) = false := decide_eq_false q2
                    have HN2 : Hid (decide (has (a.take (k + 1)) n) = false) := Lib.hid (has_step_no HK.out HX.out HT.out (fun q => q2 q.2.2))
                    clear HT
                    go_wp2_with fail
                    exact ⟨⟨k + 1, false, hlk, by go_num, rfl, HN2, trivial⟩, by simp [intOf]; omega⟩
                · have f2' : decide (x1 ≤ n) = false := decide_eq_false q1
                  have HN2 : Hid (decide (has (a.take (k + 1)) n) = false) := Lib.hid (has_step_no HK.out HX.out HT.out (fun q => q1 q.2.1))
                  clear HT
                  go_wp2_with fail
                  exact ⟨⟨k + 1, false, hlk, by go_num, rfl, HN2, trivial⟩, by simp [intOf]; omega⟩
              · have HN2 : Hid (decide (has (a.take (k + 1)) n) = true) := Lib.hid (has_step_was HK.out HT.out)
                clear HT
                go_wp2_with fail
                exact ⟨⟨k + 1, true, hlk, by go_num, rfl, HN2, trivial⟩, by simp [intOf]; omega⟩
            · have f1' : decide ((k : Int) < (p0 : Int)) = false := decide_eq_false (by omega)
              have HTa : Hid (decide (has a n) = t) := Lib.hid (by have h := HT.out; rwa [List.take_of_length_le (by rw [HLa.out]; omega)] at h)
              skip
              skip
              clear HT hk
              go_wp2_with fail
              clear hlk f1'
              rename Bool => ta
              go_loopw [18, 20] (fun f s w5 => ∃ (k : Nat) (t : Bool), k ≤ p1 ∧ s = .int .i64 (k : Int) ∧ f = .bool t ∧ Hid (decide (has (b.take k) n) = t) ∧ wr = w5) (fun _ s _ => p1 - (intOf s).toNat)
              case atStart => exact ⟨0, false, by omega, rfl, rfl, Lib.hid (decide_eq_false (fun h => inR_nil n h.2)), rfl⟩
              case round =>
                obtain ⟨k, t, hk, rfl, rfl, HT, rfl⟩ := hrel
                by_cases hlk : k < p1
                · obtain ⟨ba, oa, rfl, _, hca⟩ := HRb1.out.2 (by omega)
                  obtain ⟨a1, a2⟩ := hca k hlk
                  obtain ⟨x, hx⟩ : ∃ x, b.getD k (0, 0) = x := ⟨_, rfl⟩
                  rw [hx] at a1 a2
                  have HX := Lib.hid hx
                  have HK : Hid (k < b.length) := Lib.hid (by rw [HLb.out]; exact hlk)
                  obtain ⟨x1, x2⟩ := x
                  dsimp only at a1 a2
                  have g0' : (0 : Int) ≤ (k : Int) := by omega
                  have g1' : (k : Int) < (p1 : Int) := by omega
                  have f1' : decide ((k : Int) < (p1 : Int)) = true := decide_eq_true g1'
                  clear hca hx
                  rcases t with _ | _
                  · by_cases q1 : x1 ≤ n
                    · have f2' : decide (x1 ≤ n) = true := decide_eq_true q1
                      by_cases q2 : n ≤ x2
                      · have f3' : decide (n ≤ x2) = true := decide_eq_true q2
                        have HN2 : Hid (decide (has (b.take (k + 1)) n) = true) := Lib.hid (has_step_yes HK.out HX.out ⟨HRU.out, q1, q2⟩)
                        clear HT
                        go_wp2_with fail
                        exact ⟨⟨k + 1, true, hlk, by go_num, rfl, HN2, trivial⟩, by simp [intOf]; omega⟩
                      · have f3' : decide (n ≤ x2) = false := decide_eq_false q2
                        have HN2 : Hid (decide (has (b.take (k + 1)) n) = false) := Lib.hid (has_step_no HK.out HX.out HT.out (fun q => q2 q.2.2))
                        clear HT
                        go_wp2_with fail
                        exact ⟨⟨k + 1, false, hlk, by go_num, rfl, HN2, trivial⟩, by simp [intOf]; omega⟩
                    · have f2' : decide (x1 ≤ n) = false := decide_eq_false q1
                      have HN2 : Hid (decide (has (b.take (k + 1)) n) = false) := Lib.hid (has_step_no HK.out HX.out HT.out (fun q => q1 q.2.1))
                      clear HT
                      go_wp2_with fail
                      exact ⟨⟨k + 1, false, hlk, by go_num, rfl, HN2, trivial⟩, by simp [intOf]; omega⟩
                  · have HN2 : Hid (decide (has (b.take (k + 1)) n) = true) := Lib.hid (has_step_was HK.out HT.out)
                    clear HT
                    go_wp2_with fail
                    exact ⟨⟨k + 1, true, hlk, by go_num, rfl, HN2, trivial⟩, by simp [intOf]; omega⟩
                · have f1' : decide ((k : Int) < (p1 : Int)) = false := decide_eq_false (by omega)
                  have HTb : Hid (decide (has b n) = t) := Lib.hid (by have h := HT.out; rwa [List.take_of_length_le (by rw [HLb.out]; omega)] at h)
                  skip
                  skip
                  clear HT hk
                  go_wp2_with fail
                  clear hlk f1'
                  clear HRb1 HRa1
                  rcases ta with _ | _
                  · have FW : Hid (decide (has lw n) = false) := Lib.hid ((decide_eq_decide.2 (HOw.out.has n)).trans HTa.out)
                    have FN : Hid (decide (has ln n) = true) := Lib.hid (by
                      rw [decide_eq_decide.2 (HOn.out.has n)]
                      have h := HTa.out
                      exact decide_eq_true ⟨HRU.out, of_decide_eq_false h⟩)
                    have FJ : Hid (decide (has lj n) = t) := Lib.hid (by
                      have h := HTa.out
                      rw [← HTb.out]; exact decide_eq_decide.2 ((HOj.out.has n).trans (by simp only [List.flatten_cons, List.flatten_nil, List.append_nil]; exact (has_app a b n).trans (or_iff_right (of_decide_eq_false h)))))
                    have FO : Hid (decide (has lo n) = false) := Lib.hid (by
                      have h := HTa.out
                      exact decide_eq_false (fun q => of_decide_eq_false h ((HOo.out.has n).1 q).1))
                    have C := Has_any Ax p0 cx a n _ HRx1.out (by omega)
                    rw [HTa.out] at C
                    replace C := Lib.hid C
                    go_wp2_with fail
                    with_reducible refine C.out.mono ?_
                    rintro e v1 ⟨rfl, b⟩
                    clear C
                    replace HRx1 := Lib.hid (HRx1.out.on b)
                    replace HRw1 := Lib.hid (HRw1.out.on b)
                    replace HRn1 := Lib.hid (HRn1.out.on b)
                    replace HRj1 := Lib.hid (HRj1.out.on b)
                    replace HRo1 := Lib.hid (HRo1.out.on b)
                    replace HBl := Lib.hid (next HBl.out b)
                    clear b
                    have C := Has_any Aw lw.length cw lw n _ HRw1.out (by omega)
                    rw [FW.out] at C
                    replace C := Lib.hid C
                    go_wp2_with fail
                    with_reducible refine C.out.mono ?_
                    rintro e v2 ⟨rfl, b⟩
                    clear C
                    replace HRx1 := Lib.hid (HRx1.out.on b)
                    replace HRw1 := Lib.hid (HRw1.out.on b)
                    replace HRn1 := Lib.hid (HRn1.out.on b)
                    replace HRj1 := Lib.hid (HRj1.out.on b)
                    replace HRo1 := Lib.hid (HRo1.out.on b)
                    replace HBl := Lib.hid (next HBl.out b)
                    clear b
                    have C := Has_any An ln.length cn ln n _ HRn1.out (by omega)
                    rw [FN.out] at C
                    replace C := Lib.hid C
                    go_wp2_with fail
                    with_reducible refine C.out.mono ?_
                    rintro e v3 ⟨rfl, b⟩
                    clear C
                    replace HRx1 := Lib.hid (HRx1.out.on b)
                    replace HRw1 := Lib.hid (HRw1.out.on b)
                    replace HRn1 := Lib.hid (HRn1.out.on b)
                    replace HRj1 := Lib.hid (HRj1.out.on b)
                    replace HRo1 := Lib.hid (HRo1.out.on b)
                    replace HBl := Lib.hid (next HBl.out b)
                    clear b
                    have C := Has_any Aj lj.length cj lj n _ HRj1.out (by omega)
                    rw [FJ.out] at C
                    replace C := Lib.hid C
                    go_wp2_with fail
                    with_reducible refine C.out.mono ?_
                    rintro e v4 ⟨rfl, b⟩
                    clear C
                    replace HRx1 := Lib.hid (HRx1.out.on b)
                    replace HRw1 := Lib.hid (HRw1.out.on b)
                    replace HRn1 := Lib.hid (HRn1.out.on b)
                    replace HRj1 := Lib.hid (HRj1.out.on b)
                    replace HRo1 := Lib.hid (HRo1.out.on b)
                    replace HBl := Lib.hid (next HBl.out b)
                    clear b
                    have C := Has_any Ao lo.length co lo n _ HRo1.out (by omega)
                    rw [FO.out] at C
                    replace C := Lib.hid C
                    go_wp2_with fail
                    with_reducible refine C.out.mono ?_
                    rintro e v5 ⟨rfl, b⟩
                    clear C
                    replace HRx1 := Lib.hid (HRx1.out.on b)
                    replace HRw1 := Lib.hid (HRw1.out.on b)
                    replace HRn1 := Lib.hid (HRn1.out.on b)
                    replace HRj1 := Lib.hid (HRj1.out.on b)
                    replace HRo1 := Lib.hid (HRo1.out.on b)
                    replace HBl := Lib.hid (next HBl.out b)
                    clear b
                    clear FW FN FJ FO HTa HTb HRU
                    go_wp2_with fail
                    exact ⟨⟨i + 1, by omega, by go_num, HBl.out⟩, by simp [intOf]; omega⟩
                  · have FW : Hid (decide (has lw n) = true) := Lib.hid ((decide_eq_decide.2 (HOw.out.has n)).trans HTa.out)
                    have FN : Hid (decide (has ln n) = false) := Lib.hid (by
                      rw [decide_eq_decide.2 (HOn.out.has n)]
                      have h := HTa.out
                      exact decide_eq_false (fun q => q.2 (of_decide_eq_true h)))
                    have FJ : Hid (decide (has lj n) = true) := Lib.hid (by
                      have h := HTa.out
                      exact decide_eq_true ((HOj.out.has n).2 (by simp only [List.flatten_cons, List.flatten_nil, List.append_nil]; exact (has_app a b n).2 (.inl (of_decide_eq_true h)))))
                    have FO : Hid (decide (has lo n) = t) := Lib.hid (by
                      have h := HTa.out
                      rw [← HTb.out]; exact decide_eq_decide.2 ((HOo.out.has n).trans (and_iff_right (of_decide_eq_true h))))
                    have C := Has_any Ax p0 cx a n _ HRx1.out (by omega)
                    rw [HTa.out] at C
                    replace C := Lib.hid C
                    go_wp2_with fail
                    with_reducible refine C.out.mono ?_
                    rintro e v1 ⟨rfl, b⟩
                    clear C
                    replace HRx1 := Lib.hid (HRx1.out.on b)
                    replace HRw1 := Lib.hid (HRw1.out.on b)
                    replace HRn1 := Lib.hid (HRn1.out.on b)
                    replace HRj1 := Lib.hid (HRj1.out.on b)
                    replace HRo1 := Lib.hid (HRo1.out.on b)
                    replace HBl := Lib.hid (next HBl.out b)
                    clear b
                    have C := Has_any Aw lw.length cw lw n _ HRw1.out (by omega)
                    rw [FW.out] at C
                    replace C := Lib.hid C
                    go_wp2_with fail
                    with_reducible refine C.out.mono ?_
                    rintro e v2 ⟨rfl, b⟩
                    clear C
                    replace HRx1 := Lib.hid (HRx1.out.on b)
                    replace HRw1 := Lib.hid (HRw1.out.on b)
                    replace HRn1 := Lib.hid (HRn1.out.on b)
                    replace HRj1 := Lib.hid (HRj1.out.on b)
                    replace HRo1 := Lib.hid (HRo1.out.on b)
                    replace HBl := Lib.hid (next HBl.out b)
                    clear b
                    have C := Has_any An ln.length cn ln n _ HRn1.out (by omega)
                    rw [FN.out] at C
                    replace C := Lib.hid C
                    go_wp2_with fail
                    with_reducible refine C.out.mono ?_
                    rintro e v3 ⟨rfl, b⟩
                    clear C
                    replace HRx1 := Lib.hid (HRx1.out.on b)
                    replace HRw1 := Lib.hid (HRw1.out.on b)
                    replace HRn1 := Lib.hid (HRn1.out.on b)
                    replace HRj1 := Lib.hid (HRj1.out.on b)
                    replace HRo1 := Lib.hid (HRo1.out.on b)
                    replace HBl := Lib.hid (next HBl.out b)
                    clear b
                    have C := Has_any Aj lj.length cj lj n _ HRj1.out (by omega)
                    rw [FJ.out] at C
                    replace C := Lib.hid C
                    go_wp2_with fail
                    with_reducible refine C.out.mono ?_
                    rintro e v4 ⟨rfl, b⟩
                    clear C
                    replace HRx1 := Lib.hid (HRx1.out.on b)
                    replace HRw1 := Lib.hid (HRw1.out.on b)
                    replace HRn1 := Lib.hid (HRn1.out.on b)
                    replace HRj1 := Lib.hid (HRj1.out.on b)
                    replace HRo1 := Lib.hid (HRo1.out.on b)
                    replace HBl := Lib.hid (next HBl.out b)
                    clear b
                    have C := Has_any Ao lo.length co lo n _ HRo1.out (by omega)
                    rw [FO.out] at C
                    replace C := Lib.hid C
                    go_wp2_with fail
                    with_reducible refine C.out.mono ?_
                    rintro e v5 ⟨rfl, b⟩
                    clear C
                    replace HRx1 := Lib.hid (HRx1.out.on b)
                    replace HRw1 := Lib.hid (HRw1.out.on b)
                    replace HRn1 := Lib.hid (HRn1.out.on b)
                    replace HRj1 := Lib.hid (HRj1.out.on b)
                    replace HRo1 := Lib.hid (HRo1.out.on b)
                    replace HBl := Lib.hid (next HBl.out b)
                    clear b
                    clear FW FN FJ FO HTa HTb HRU
                    go_wp2_with fail
                    exact ⟨⟨i + 1, by omega, by go_num, HBl.out⟩, by simp [intOf]; omega⟩
        · have f3 : decide (n ≤ 1114111) = false := decide_eq_false r1
          have HRU : Hid (¬ isRn n) := Lib.hid (fun q => r1 q.2)
          clear r0 r1
          go_wp2_with fail
          go_loopw [17, 19] (fun f s w5 => ∃ (k : Nat) (t : Bool), k ≤ p0 ∧ s = .int .i64 (k : Int) ∧ f = .bool t ∧ Hid (decide (has (a.take k) n) = t) ∧ wr = w5) (fun _ s _ => p0 - (intOf s).toNat)
          case atStart => exact ⟨0, false, by omega, rfl, rfl, Lib.hid (decide_eq_false (fun h => inR_nil n h.2)), rfl⟩
          case round =>
            obtain ⟨k, t, hk, rfl, rfl, HT, rfl⟩ := hrel
            by_cases hlk : k < p0
            · obtain ⟨ba, oa, rfl, _, hca⟩ := HRa1.out.2 (by omega)
              obtain ⟨a1, a2⟩ := hca k hlk
              obtain ⟨x, hx⟩ : ∃ x, a.getD k (0, 0) = x := ⟨_, rfl⟩
              rw [hx] at a1 a2
              have HX := Lib.hid hx
              have HK : Hid (k < a.length) := Lib.hid (by rw [HLa.out]; exact hlk)
              obtain ⟨x1, x2⟩ := x
              dsimp only at a1 a2
              have g0' : (0 : Int) ≤ (k : Int) := by omega
              have g1' : (k : Int) < (p0 : Int) := by omega
              have f1' : decide ((k : Int) < (p0 : Int)) = true := decide_eq_true g1'
              clear hca hx
              rcases t with _ | _
              · have HN2 : Hid (decide (has (a.take (k + 1)) n) = false) := Lib.hid (has_step_no HK.out HX.out HT.out (fun q => HRU.out q.1))
                clear HT
                go_wp2_with fail
                exact ⟨⟨k + 1, false, hlk, by go_num, rfl, HN2, trivial⟩, by simp [intOf]; omega⟩
              · have HN2 : Hid (decide (has (a.take (k + 1)) n) = true) := Lib.hid (has_step_was HK.out HT.out)
                clear HT
                go_wp2_with fail
                exact ⟨⟨k + 1, true, hlk, by go_num, rfl, HN2, trivial⟩, by simp [intOf]; omega⟩
            · have f1' : decide ((k : Int) < (p0 : Int)) = false := decide_eq_false (by omega)
              have HTa : Hid (decide (has a n) = t) := Lib.hid (by have h := HT.out; rwa [List.take_of_length_le (by rw [HLa.out]; omega)] at h)
              skip
              skip
              clear HT hk
              go_wp2_with fail
              clear hlk f1'
              rename Bool => ta
              go_loopw [18, 20] (fun f s w5 => ∃ (k : Nat) (t : Bool), k ≤ p1 ∧ s = .int .i64 (k : Int) ∧ f = .bool t ∧ Hid (decide (has (b.take k) n) = t) ∧ wr = w5) (fun _ s _ => p1 - (intOf s).toNat)
              case atStart => exact ⟨0, false, by omega, rfl, rfl, Lib.hid (decide_eq_false (fun h => inR_nil n h.2)), rfl⟩
              case round =>
                obtain ⟨k, t, hk, rfl, rfl, HT, rfl⟩ := hrel
                by_cases hlk : k < p1
                · obtain ⟨ba, oa, rfl, _, hca⟩ := HRb1.out.2 (by omega)
                  obtain ⟨a1, a2⟩ := hca k hlk
                  obtain ⟨x, hx⟩ : ∃ x, b.getD k (0, 0) = x := ⟨_, rfl⟩
                  rw [hx] at a1 a2
                  have HX := Lib.hid hx
                  have HK : Hid (k < b.length) := Lib.hid (by rw [HLb.out]; exact hlk)
                  obtain ⟨x1, x2⟩ := x
                  dsimp only at a1 a2
                  have g0' : (0 : Int) ≤ (k : Int) := by omega
                  have g1' : (k : Int) < (p1 : Int) := by omega
                  have f1' : decide ((k : Int) < (p1 : Int)) = true := decide_eq_true g1'
                  clear hca hx
                  rcases t with _ | _
                  · have HN2 : Hid (decide (has (b.take (k + 1)) n) = false) := Lib.hid (has_step_no HK.out HX.out HT.out (fun q => HRU.out q.1))
                    clear HT
                    go_wp2_with fail
                    exact ⟨⟨k + 1, false, hlk, by go_num, rfl, HN2, trivial⟩, by simp [intOf]; omega⟩
                  · have HN2 : Hid (decide (has (b.take (k + 1)) n) = true) := Lib.hid (has_step_was HK.out HT.out)
                    clear HT
                    go_wp2_with fail
                    exact ⟨⟨k + 1, true, hlk, by go_num, rfl, HN2, trivial⟩, by simp [intOf]; omega⟩
                · have f1' : decide ((k : Int) < (p1 : Int)) = false := decide_eq_false (by omega)
                  have HTb : Hid (decide (has b n) = t) := Lib.hid (by have h := HT.out; rwa [List.take_of_length_le (by rw [HLb.out]; omega)] at h)
                  skip
                  skip
                  clear HT hk
                  go_wp2_with fail
                  clear hlk f1'
                  clear HRb1 HRa1
                  rcases ta with _ | _
                  · have FW : Hid (decide (has lw n) = false) := Lib.hid ((decide_eq_decide.2 (HOw.out.has n)).trans HTa.out)
                    have FN : Hid (decide (has ln n) = false) := Lib.hid (by
                      rw [decide_eq_decide.2 (HOn.out.has n)]
                      have h := HTa.out
                      exact decide_eq_false (fun q => HRU.out q.1))
                    have FJ : Hid (decide (has lj n) = t) := Lib.hid (by
                      have h := HTa.out
                      rw [← HTb.out]; exact decide_eq_decide.2 ((HOj.out.has n).trans (by simp only [List.flatten_cons, List.flatten_nil, List.append_nil]; exact (has_app a b n).trans (or_iff_right (of_decide_eq_false h)))))
                    have FO : Hid (decide (has lo n) = false) := Lib.hid (by
                      have h := HTa.out
                      exact decide_eq_false (fun q => of_decide_eq_false h ((HOo.out.has n).1 q).1))
                    have C := Has_any Ax p0 cx a n _ HRx1.out (by omega)
                    rw [HTa.out] at C
                    replace C := Lib.hid C
                    go_wp2_with fail
                    with_reducible refine C.out.mono ?_
                    rintro e v1 ⟨rfl, b⟩
                    clear C
                    replace HRx1 := Lib.hid (HRx1.out.on b)
                    replace HRw1 := Lib.hid (HRw1.out.on b)
                    replace HRn1 := Lib.hid (HRn1.out.on b)
                    replace HRj1 := Lib.hid (HRj1.out.on b)
                    replace HRo1 := Lib.hid (HRo1.out.on b)
                    replace HBl := Lib.hid (next HBl.out b)
                    clear b
                    have C := Has_any Aw lw.length cw lw n _ HRw1.out (by omega)
                    rw [FW.out] at C
                    replace C := Lib.hid C
                    go_wp2_with fail
                    with_reducible refine C.out.mono ?_
                    rintro e v2 ⟨rfl, b⟩
                    clear C
                    replace HRx1 := Lib.hid (HRx1.out.on b)
                    replace HRw1 := Lib.hid (HRw1.out.on b)
                    replace HRn1 := Lib.hid (HRn1.out.on b)
                    replace HRj1 := Lib.hid (HRj1.out.on b)
                    replace HRo1 := Lib.hid (HRo1.out.on b)
                    replace HBl := Lib.hid (next HBl.out b)
                    clear b
                    have C := Has_any An ln.length cn ln n _ HRn1.out (by omega)
                    rw [FN.out] at C
                    replace C := Lib.hid C
                    go_wp2_with fail
                    with_reducible refine C.out.mono ?_
                    rintro e v3 ⟨rfl, b⟩
                    clear C
                    replace HRx1 := Lib.hid (HRx1.out.on b)
                    replace HRw1 := Lib.hid (HRw1.out.on b)
                    replace HRn1 := Lib.hid (HRn1.out.on b)
                    replace HRj1 := Lib.hid (HRj1.out.on b)
                    replace HRo1 := Lib.hid (HRo1.out.on b)
                    replace HBl := Lib.hid (next HBl.out b)
                    clear b
                    have C := Has_any Aj lj.length cj lj n _ HRj1.out (by omega)
                    rw [FJ.out] at C
                    replace C := Lib.hid C
                    go_wp2_with fail
                    with_reducible refine C.out.mono ?_
                    rintro e v4 ⟨rfl, b⟩
                    clear C
                    replace HRx1 := Lib.hid (HRx1.out.on b)
                    replace HRw1 := Lib.hid (HRw1.out.on b)
                    replace HRn1 := Lib.hid (HRn1.out.on b)
                    replace HRj1 := Lib.hid (HRj1.out.on b)
                    replace HRo1 := Lib.hid (HRo1.out.on b)
                    replace HBl := Lib.hid (next HBl.out b)
                    clear b
                    have C := Has_any Ao lo.length co lo n _ HRo1.out (by omega)
                    rw [FO.out] at C
                    replace C := Lib.hid C
                    go_wp2_with fail
                    with_reducible refine C.out.mono ?_
                    rintro e v5 ⟨rfl, b⟩
                    clear C
                    replace HRx1 := Lib.hid (HRx1.out.on b)
                    replace HRw1 := Lib.hid (HRw1.out.on b)
                    replace HRn1 := Lib.hid (HRn1.out.on b)
                    replace HRj1 := Lib.hid (HRj1.out.on b)
                    replace HRo1 := Lib.hid (HRo1.out.on b)
                    replace HBl := Lib.hid (next HBl.out b)
                    clear b
                    clear FW FN FJ FO HTa HTb HRU
                    go_wp2_with fail
                    exact ⟨⟨i + 1, by omega, by go_num, HBl.out⟩, by simp [intOf]; omega⟩
                  · have FW : Hid (decide (has lw n) = true) := Lib.hid ((decide_eq_decide.2 (HOw.out.has n)).trans HTa.out)
                    have FN : Hid (decide (has ln n) = false) := Lib.hid (by
                      rw [decide_eq_decide.2 (HOn.out.has n)]
                      have h := HTa.out
                      exact decide_eq_false (fun q => q.2 (of_decide_eq_true h)))
                    have FJ : Hid (decide (has lj n) = true) := Lib.hid (by
                      have h := HTa.out
                      exact decide_eq_true ((HOj.out.has n).2 (by simp only [List.flatten_cons, List.flatten_nil, List.append_nil]; exact (has_app a b n).2 (.inl (of_decide_eq_true h)))))
                    have FO : Hid (decide (has lo n) = t) := Lib.hid (by
                      have h := HTa.out
                      rw [← HTb.out]; exact decide_eq_decide.2 ((HOo.out.has n).trans (and_iff_right (of_decide_eq_true h))))
                    have C := Has_any Ax p0 cx a n _ HRx1.out (by omega)
                    rw [HTa.out] at C
                    replace C := Lib.hid C
                    go_wp2_with fail
                    with_reducible refine C.out.mono ?_
                    rintro e v1 ⟨rfl, b⟩
                    clear C
                    replace HRx1 := Lib.hid (HRx1.out.on b)
                    replace HRw1 := Lib.hid (HRw1.out.on b)
                    replace HRn1 := Lib.hid (HRn1.out.on b)
                    replace HRj1 := Lib.hid (HRj1.out.on b)
                    replace HRo1 := Lib.hid (HRo1.out.on b)
                    replace HBl := Lib.hid (next HBl.out b)
                    clear b
                    have C := Has_any Aw lw.length cw lw n _ HRw1.out (by omega)
                    rw [FW.out] at C
                    replace C := Lib.hid C
                    go_wp2_with fail
                    with_reducible refine C.out.mono ?_
                    rintro e v2 ⟨rfl, b⟩
                    clear C
                    replace HRx1 := Lib.hid (HRx1.out.on b)
                    replace HRw1 := Lib.hid (HRw1.out.on b)
                    replace HRn1 := Lib.hid (HRn1.out.on b)
                    replace HRj1 := Lib.hid (HRj1.out.on b)
                    replace HRo1 := Lib.hid (HRo1.out.on b)
                    replace HBl := Lib.hid (next HBl.out b)
                    clear b
                    have C := Has_any An ln.length cn ln n _ HRn1.out (by omega)
                    rw [FN.out] at C
                    replace C := Lib.hid C
                    go_wp2_with fail
                    with_reducible refine C.out.mono ?_
                    rintro e v3 ⟨rfl, b⟩
                    clear C
                    replace HRx1 := Lib.hid (HRx1.out.on b)
                    replace HRw1 := Lib.hid (HRw1.out.on b)
                    replace HRn1 := Lib.hid (HRn1.out.on b)
                    replace HRj1 := Lib.hid (HRj1.out.on b)
                    replace HRo1 := Lib.hid (HRo1.out.on b)
                    replace HBl := Lib.hid (next HBl.out b)
                    clear b
                    have C := Has_any Aj lj.length cj lj n _ HRj1.out (by omega)
                    rw [FJ.out] at C
                    replace C := Lib.hid C
                    go_wp2_with fail
                    with_reducible refine C.out.mono ?_
                    rintro e v4 ⟨rfl, b⟩
                    clear C
                    replace HRx1 := Lib.hid (HRx1.out.on b)
                    replace HRw1 := Lib.hid (HRw1.out.on b)
                    replace HRn1 := Lib.hid (HRn1.out.on b)
                    replace HRj1 := Lib.hid (HRj1.out.on b)
                    replace HRo1 := Lib.hid (HRo1.out.on b)
                    replace HBl := Lib.hid (next HBl.out b)
                    clear b
                    have C := Has_any Ao lo.length co lo n _ HRo1.out (by omega)
                    rw [FO.out] at C
                    replace C := Lib.hid C
                    go_wp2_with fail
                    with_reducible refine C.out.mono ?_
                    rintro e v5 ⟨rfl, b⟩
                    clear C
                    replace HRx1 := Lib.hid (HRx1.out.on b)
                    replace HRw1 := Lib.hid (HRw1.out.on b)
                    replace HRn1 := Lib.hid (HRn1.out.on b)
                    replace HRj1 := Lib.hid (HRj1.out.on b)
                    replace HRo1 := Lib.hid (HRo1.out.on b)
                    replace HBl := Lib.hid (next HBl.out b)
                    clear b
                    clear FW FN FJ FO HTa HTb HRU
                    go_wp2_with fail
                    exact ⟨⟨i + 1, by omega, by go_num, HBl.out⟩, by simp [intOf]; omega⟩
      · have f2 : decide ((0 : Int) ≤ n) = false := decide_eq_false r0
        have HRU : Hid (¬ isRn n) := Lib.hid (fun q => r0 q.1)
        clear r0
        go_wp2_with fail
        go_loopw [17, 19] (fun f s w5 => ∃ (k : Nat) (t : Bool), k ≤ p0 ∧ s = .int .i64 (k : Int) ∧ f = .bool t ∧ Hid (decide (has (a.take k) n) = t) ∧ wr = w5) (fun _ s _ => p0 - (intOf s).toNat)
        case atStart => exact ⟨0, false, by omega, rfl, rfl, Lib.hid (decide_eq_false (fun h => inR_nil n h.2)), rfl⟩
        case round =>
          obtain ⟨k, t, hk, rfl, rfl, HT, rfl⟩ := hrel
          by_cases hlk : k < p0
          · obtain ⟨ba, oa, rfl, _, hca⟩ := HRa1.out.2 (by omega)
            obtain ⟨a1, a2⟩ := hca k hlk
            obtain ⟨x, hx⟩ : ∃ x, a.getD k (0, 0) = x := ⟨_, rfl⟩
            rw [hx] at a1 a2
            have HX := Lib.hid hx
            have HK : Hid (k < a.length) := Lib.hid (by rw [HLa.out]; exact hlk)
            obtain ⟨x1, x2⟩ := x
            dsimp only at a1 a2
            have g0' : (0 : Int) ≤ (k : Int) := by omega
            have g1' : (k : Int) < (p0 : Int) := by omega
            have f1' : decide ((k : Int) < (p0 : Int)) = true := decide_eq_true g1'
            clear hca hx
            rcases t with _ | _
            · have HN2 : Hid (decide (has (a.take (k + 1)) n) = false) := Lib.hid (has_step_no HK.out HX.out HT.out (fun q => HRU.out q.1))
              clear HT
              go_wp2_with fail
              exact ⟨⟨k + 1, false, hlk, by go_num, rfl, HN2, trivial⟩, by simp [intOf]; omega⟩
            · have HN2 : Hid (decide (has (a.take (k + 1)) n) = true) := Lib.hid (has_step_was HK.out HT.out)
              clear HT
              go_wp2_with fail
              exact ⟨⟨k + 1, true, hlk, by go_num, rfl, HN2, trivial⟩, by simp [intOf]; omega⟩
          · have f1' : decide ((k : Int) < (p0 : Int)) = false := decide_eq_false (by omega)
            have HTa : Hid (decide (has a n) = t) := Lib.hid (by have h := HT.out; rwa [List.take_of_length_le (by rw [HLa.out]; omega)] at h)
            skip
            skip
            clear HT hk
            go_wp2_with fail
            clear hlk f1'
            rename Bool => ta
            go_loopw [18, 20] (fun f s w5 => ∃ (k : Nat) (t : Bool), k ≤ p1 ∧ s = .int .i64 (k : Int) ∧ f = .bool t ∧ Hid (decide (has (b.take k) n) = t) ∧ wr = w5) (fun _ s _ => p1 - (intOf s).toNat)
            case atStart => exact ⟨0, false, by omega, rfl, rfl, Lib.hid (decide_eq_false (fun h => inR_nil n h.2)), rfl⟩
            case round =>
              obtain ⟨k, t, hk, rfl, rfl, HT, rfl⟩ := hrel
              by_cases hlk : k < p1
              · obtain ⟨ba, oa, rfl, _, hca⟩ := HRb1.out.2 (by omega)
                obtain ⟨a1, a2⟩ := hca k hlk
                obtain ⟨x, hx⟩ : ∃ x, b.getD k (0, 0) = x := ⟨_, rfl⟩
                rw [hx] at a1 a2
                have HX := Lib.hid hx
                have HK : Hid (k < b.length) := Lib.hid (by rw [HLb.out]; exact hlk)
                obtain ⟨x1, x2⟩ := x
                dsimp only at a1 a2
                have g0' : (0 : Int) ≤ (k : Int) := by omega
                have g1' : (k : Int) < (p1 : Int) := by omega
                have f1' : decide ((k : Int) < (p1 : Int)) = true := decide_eq_true g1'
                clear hca hx
                rcases t with _ | _
                · have HN2 : Hid (decide (has (b.take (k + 1)) n) = false) := Lib.hid (has_step_no HK.out HX.out HT.out (fun q => HRU.out q.1))
                  clear HT
                  go_wp2_with fail
                  exact ⟨⟨k + 1, false, hlk, by go_num, rfl, HN2, trivial⟩, by simp [intOf]; omega⟩
                · have HN2 : Hid (decide (has (b.take (k + 1)) n) = true) := Lib.hid (has_step_was HK.out HT.out)
                  clear HT
                  go_wp2_with fail
                  exact ⟨⟨k + 1, true, hlk, by go_num, rfl, HN2, trivial⟩, by simp [intOf]; omega⟩
              · have f1' : decide ((k : Int) < (p1 : Int)) = false := decide_eq_false (by omega)
                have HTb : Hid (decide (has b n) = t) := Lib.hid (by have h := HT.out; rwa [List.take_of_length_le (by rw [HLb.out]; omega)] at h)
                skip
                skip
                clear HT hk
                go_wp2_with fail
                clear hlk f1'
                clear HRb1 HRa1
                rcases ta with _ | _
                · have FW : Hid (decide (has lw n) = false) := Lib.hid ((decide_eq_decide.2 (HOw.out.has n)).trans HTa.out)
                  have FN : Hid (decide (has ln n) = false) := Lib.hid (by
                    rw [decide_eq_decide.2 (HOn.out.has n)]
                    have h := HTa.out
                    exact decide_eq_false (fun q => HRU.out q.1))
                  have FJ : Hid (decide (has lj n) = t) := Lib.hid (by
                    have h := HTa.out
                    rw [← HTb.out]; exact decide_eq_decide.2 ((HOj.out.has n).trans (by simp only [List.flatten_cons, List.flatten_nil, List.append_nil]; exact (has_app a b n).trans (or_iff_right (of_decide_eq_false h)))))
                  have FO : Hid (decide (has lo n) = false) := Lib.hid (by
                    have h := HTa.out
                    exact decide_eq_false (fun q => of_decide_eq_false h ((HOo.out.has n).1 q).1))
                  have C := Has_any Ax p0 cx a n _ HRx1.out (by omega)
                  rw [HTa.out] at C
                  replace C := Lib.hid C
                  go_wp2_with fail
                  with_reducible refine C.out.mono ?_
                  rintro e v1 ⟨rfl, b⟩
                  clear C
                  replace HRx1 := Lib.hid (HRx1.out.on b)
                  replace HRw1 := Lib.hid (HRw1.out.on b)
                  replace HRn1 := Lib.hid (HRn1.out.on b)
                  replace HRj1 := Lib.hid (HRj1.out.on b)
                  replace HRo1 := Lib.hid (HRo1.out.on b)
                  replace HBl := Lib.hid (next HBl.out b)
                  clear b
                  have C := Has_any Aw lw.length cw lw n _ HRw1.out (by omega)
                  rw [FW.out] at C
                  replace C := Lib.hid C
                  go_wp2_with fail
                  with_reducible refine C.out.mono ?_
                  rintro e v2 ⟨rfl, b⟩
                  clear C
                  replace HRx1 := Lib.hid (HRx1.out.on b)
                  replace HRw1 := Lib.hid (HRw1.out.on b)
                  replace HRn1 := Lib.hid (HRn1.out.on b)
                  replace HRj1 := Lib.hid (HRj1.out.on b)
                  replace HRo1 := Lib.hid (HRo1.out.on b)
                  replace HBl := Lib.hid (next HBl.out b)
                  clear b
                  have C := Has_any An ln.length cn ln n _ HRn1.out (by omega)
                  rw [FN.out] at C
                  replace C := Lib.hid C
                  go_wp2_with fail
                  with_reducible refine C.out.mono ?_
                  rintro e v3 ⟨rfl, b⟩
                  clear C
                  replace HRx1 := Lib.hid (HRx1.out.on b)
                  replace HRw1 := Lib.hid (HRw1.out.on b)
                  replace HRn1 := Lib.hid (HRn1.out.on b)
                  replace HRj1 := Lib.hid (HRj1.out.on b)
                  replace HRo1 := Lib.hid (HRo1.out.on b)
                  replace HBl := Lib.hid (next HBl.out b)
                  clear b
                  have C := Has_any Aj lj.length cj lj n _ HRj1.out (by omega)
                  rw [FJ.out] at C
                  replace C := Lib.hid C
                  go_wp2_with fail
                  with_reducible refine C.out.mono ?_
                  rintro e v4 ⟨rfl, b⟩
                  clear C
                  replace HRx1 := Lib.hid (HRx1.out.on b)
                  replace HRw1 := Lib.hid (HRw1.out.on b)
                  replace HRn1 := Lib.hid (HRn1.out.on b)
                  replace HRj1 := Lib.hid (HRj1.out.on b)
                  replace HRo1 := Lib.hid (HRo1.out.on b)
                  replace HBl := Lib.hid (next HBl.out b)
                  clear b
                  have C := Has_any Ao lo.length co lo n _ HRo1.out (by omega)
                  rw [FO.out] at C
                  replace C := Lib.hid C
                  go_wp2_with fail
                  with_reducible refine C.out.mono ?_
                  rintro e v5 ⟨rfl, b⟩
                  clear C
                  replace HRx1 := Lib.hid (HRx1.out.on b)
                  replace HRw1 := Lib.hid (HRw1.out.on b)
                  replace HRn1 := Lib.hid (HRn1.out.on b)
                  replace HRj1 := Lib.hid (HRj1.out.on b)
                  replace HRo1 := Lib.hid (HRo1.out.on b)
                  replace HBl := Lib.hid (next HBl.out b)
                  clear b
                  clear FW FN FJ FO HTa HTb HRU
                  go_wp2_with fail
                  exact ⟨⟨i + 1, by omega, by go_num, HBl.out⟩, by simp [intOf]; omega⟩
                · have FW : Hid (decide (has lw n) = true) := Lib.hid ((decide_eq_decide.2 (HOw.out.has n)).trans HTa.out)
                  have FN : Hid (decide (has ln n) = false) := Lib.hid (by
                    rw [decide_eq_decide.2 (HOn.out.has n)]
                    have h := HTa.out
                    exact decide_eq_false (fun q => q.2 (of_decide_eq_true h)))
                  have FJ : Hid (decide (has lj n) = true) := Lib.hid (by
                    have h := HTa.out
                    exact decide_eq_true ((HOj.out.has n).2 (by simp only [List.flatten_cons, List.flatten_nil, List.append_nil]; exact (has_app a b n).2 (.inl (of_decide_eq_true h)))))
                  have FO : Hid (decide (has lo n) = t) := Lib.hid (by
                    have h := HTa.out
                    rw [← HTb.out]; exact decide_eq_decide.2 ((HOo.out.has n).trans (and_iff_right (of_decide_eq_true h))))
                  have C := Has_any Ax p0 cx a n _ HRx1.out (by omega)
                  rw [HTa.out] at C
                  replace C := Lib.hid C
                  go_wp2_with fail
                  with_reducible refine C.out.mono ?_
                  rintro e v1 ⟨rfl, b⟩
                  clear C
                  replace HRx1 := Lib.hid (HRx1.out.on b)
                  replace HRw1 := Lib.hid (HRw1.out.on b)
                  replace HRn1 := Lib.hid (HRn1.out.on b)
                  replace HRj1 := Lib.hid (HRj1.out.on b)
                  replace HRo1 := Lib.hid (HRo1.out.on b)
                  replace HBl := Lib.hid (next HBl.out b)
                  clear b
                  have C := Has_any Aw lw.length cw lw n _ HRw1.out (by omega)
                  rw [FW.out] at C
                  replace C := Lib.hid C
                  go_wp2_with fail
                  with_reducible refine C.out.mono ?_
                  rintro e v2 ⟨rfl, b⟩
                  clear C
                  replace HRx1 := Lib.hid (HRx1.out.on b)
                  replace HRw1 := Lib.hid (HRw1.out.on b)
                  replace HRn1 := Lib.hid (HRn1.out.on b)
                  replace HRj1 := Lib.hid (HRj1.out.on b)
                  replace HRo1 := Lib.hid (HRo1.out.on b)
                  replace HBl := Lib.hid (next HBl.out b)
                  clear b
                  have C := Has_any An ln.length cn ln n _ HRn1.out (by omega)
                  rw [FN.out] at C
                  replace C := Lib.hid C
                  go_wp2_with fail
                  with_reducible refine C.out.mono ?_
                  rintro e v3 ⟨rfl, b⟩
                  clear C
                  replace HRx1 := Lib.hid (HRx1.out.on b)
                  replace HRw1 := Lib.hid (HRw1.out.on b)
                  replace HRn1 := Lib.hid (HRn1.out.on b)
                  replace HRj1 := Lib.hid (HRj1.out.on b)
                  replace HRo1 := Lib.hid (HRo1.out.on b)
                  replace HBl := Lib.hid (next HBl.out b)
                  clear b
                  have C := Has_any Aj lj.length cj lj n _ HRj1.out (by omega)
                  rw [FJ.out] at C
                  replace C := Lib.hid C
                  go_wp2_with fail
                  with_reducible refine C.out.mono ?_
                  rintro e v4 ⟨rfl, b⟩
                  clear C
                  replace HRx1 := Lib.hid (HRx1.out.on b)
                  replace HRw1 := Lib.hid (HRw1.out.on b)
                  replace HRn1 := Lib.hid (HRn1.out.on b)
                  replace HRj1 := Lib.hid (HRj1.out.on b)
                  replace HRo1 := Lib.hid (HRo1.out.on b)
                  replace HBl := Lib.hid (next HBl.out b)
                  clear b
                  have C := Has_any Ao lo.length co lo n _ HRo1.out (by omega)
                  rw [FO.out] at C
                  replace C := Lib.hid C
                  go_wp2_with fail
                  with_reducible refine C.out.mono ?_
                  rintro e v5 ⟨rfl, b⟩
                  clear C
                  replace HRx1 := Lib.hid (HRx1.out.on b)
                  replace HRw1 := Lib.hid (HRw1.out.on b)
                  replace HRn1 := Lib.hid (HRn1.out.on b)
                  replace HRj1 := Lib.hid (HRj1.out.on b)
                  replace HRo1 := Lib.hid (HRo1.out.on b)
                  replace HBl := Lib.hid (next HBl.out b)
                  clear b
                  clear FW FN FJ FO HTa HTb HRU
                  go_wp2_with fail
                  exact ⟨⟨i + 1, by omega, by go_num, HBl.out⟩, by simp [intOf]; omega⟩
    · have f1 : decide ((i : Int) < (m : Int)) = false := decide_eq_false (by omega)
      have HRw1 := Lib.hid (HRw.out.on hb)
      have HRn1 := Lib.hid (HRn.out.on hb)
      have HRj1 := Lib.hid (HRj.out.on hb)
      have HRo1 := Lib.hid (HRo.out.on hb)
      have HBl := Lib.hid (next HB.out hb)
      clear hb hi
      have C := Check_any Aw lw.length cw lw _ HRw1.out (by omega)
      rw [decide_eq_true HOw.out.1] at C
      replace C := Lib.hid C
      go_wp2_with fail
      with_reducible refine C.out.mono ?_
      rintro e v1 ⟨rfl, b⟩
      clear C
      replace HRw1 := Lib.hid (HRw1.out.on b)
      replace HRn1 := Lib.hid (HRn1.out.on b)
      replace HRj1 := Lib.hid (HRj1.out.on b)
      replace HRo1 := Lib.hid (HRo1.out.on b)
      replace HBl := Lib.hid (next HBl.out b)
      clear b
      have C := Check_any An ln.length cn ln _ HRn1.out (by omega)
      rw [decide_eq_true HOn.out.1] at C
      replace C := Lib.hid C
      go_wp2_with fail
      with_reducible refine C.out.mono ?_
      rintro e v2 ⟨rfl, b⟩
      clear C
      replace HRw1 := Lib.hid (HRw1.out.on b)
      replace HRn1 := Lib.hid (HRn1.out.on b)
      replace HRj1 := Lib.hid (HRj1.out.on b)
      replace HRo1 := Lib.hid (HRo1.out.on b)
      replace HBl := Lib.hid (next HBl.out b)
      clear b
      have C := Check_any Aj lj.length cj lj _ HRj1.out (by omega)
      rw [decide_eq_true HOj.out.1] at C
      replace C := Lib.hid C
      go_wp2_with fail
      with_reducible refine C.out.mono ?_
      rintro e v3 ⟨rfl, b⟩
      clear C
      replace HRw1 := Lib.hid (HRw1.out.on b)
      replace HRn1 := Lib.hid (HRn1.out.on b)
      replace HRj1 := Lib.hid (HRj1.out.on b)
      replace HRo1 := Lib.hid (HRo1.out.on b)
      replace HBl := Lib.hid (next HBl.out b)
      clear b
      have C := Check_any Ao lo.length co lo _ HRo1.out (by omega)
      rw [decide_eq_true HOo.out.1] at C
      replace C := Lib.hid C
      go_wp2_with fail
      with_reducible refine C.out.mono ?_
      rintro e v4 ⟨rfl, b⟩
      clear C
      replace HRw1 := Lib.hid (HRw1.out.on b)
      replace HRn1 := Lib.hid (HRn1.out.on b)
      replace HRj1 := Lib.hid (HRj1.out.on b)
      replace HRo1 := Lib.hid (HRo1.out.on b)
      replace HBl := Lib.hid (next HBl.out b)
      clear b
      have C := awake_any v4
      replace C := Lib.hid C
      go_wp2_with fail
      with_reducible refine C.out.mono ?_
      rintro e v5 ⟨rfl, b⟩
      clear C
      replace HRw1 := Lib.hid (HRw1.out.on b)
      replace HRn1 := Lib.hid (HRn1.out.on b)
      replace HRj1 := Lib.hid (HRj1.out.on b)
      replace HRo1 := Lib.hid (HRo1.out.on b)
      replace HBl := Lib.hid (next HBl.out b)
      clear b
      go_wp2_with fail
      go_ret
      exact ⟨rfl, HBl.out⟩
end Go.Proofs.Ytjnnaafkdgoflaa
