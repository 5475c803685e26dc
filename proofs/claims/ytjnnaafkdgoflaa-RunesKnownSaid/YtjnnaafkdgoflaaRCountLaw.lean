/- The law RunesCount, walked. -/
import Derived.Test.YtjnnaafkdgoflaaRSetsLaw
namespace Go.Proofs.Ytjnnaafkdgoflaa
open Go.RowKit

theorem size_join {a b l lz : List Rg} (h : Of (has ([a, b] : List (List Rg)).flatten) l) (hz : Of (has l) lz) : sizeR lz = (cnt (fun i => decide (has a i) || decide (has b i)) 1114112 : Int) := by
  have h2 : Of (fun r => has a r ∨ has b r) lz := hz.same fun n => (h.has n).trans (by simp only [List.flatten_cons, List.flatten_nil, List.append_nil]; exact has_app a b n)
  rw [h2.size, cnt_congr (q := fun i => decide (has a i) || decide (has b i)) _ fun i _ => by rw [← Bool.decide_or]]
theorem size_both {a b l lz : List Rg} (h : Of (fun r => has a r ∧ has b r) l) (hz : Of (has l) lz) : sizeR lz = (cnt (fun i => decide (has a i) && decide (has b i)) 1114112 : Int) := by
  have h2 : Of (fun r => has a r ∧ has b r) lz := hz.same fun n => h.has n
  rw [h2.size, cnt_congr (q := fun i => decide (has a i) && decide (has b i)) _ fun i _ => by rw [← Bool.decide_and]]
theorem size_not {a l lz : List Rg} (h : Of (fun r => isRn r ∧ ¬ has a r) l) (hz : Of (has l) lz) : sizeR lz = (cnt (fun i => !decide (has a i)) 1114112 : Int) := by
  have h2 : Of (fun r => isRn r ∧ ¬ has a r) lz := hz.same fun n => h.has n
  rw [h2.size, cnt_congr (q := fun i => !decide (has a i)) _ fun i hi => by
    rw [← decide_not]
    exact decide_eq_decide.2 ⟨fun k => k.2, fun k => ⟨⟨by omega, by omega⟩, k⟩⟩]
theorem cnt_top (p : Int → Bool) : (cnt p 1114112 : Int) ≤ 1114112 := by have := cnt_le p 1114112; omega
theorem cnt_low (p : Int → Bool) : (0 : Int) ≤ (cnt p 1114112 : Int) := by omega
set_option maxRecDepth 100000 in
set_option maxHeartbeats 8000000 in
theorem RunesCount_walk (A0 : Option Addr) (l0 : List Rg) (c0 : Nat) (A1 : Option Addr) (l1 : List Rg) (c1 : Nat) (w : World)
    (hr0 : RowR w w.heap.size A0 l0.length l0) (hc0 : l0.length ≤ c0) (hs0 : l0.length * 16 ≤ 140737488351232)
    (hr1 : RowR w w.heap.size A1 l1.length l1) (hc1 : l1.length ≤ c1) (hs1 : l1.length * 16 ≤ 140737488351232) :
    Calls Try.prog 7 #[.slice A0 l0.length c0, .slice A1 l1.length c1] w fun e w' => e = .returned (.bool true) ∧ Below w.heap.size w w' := by
  obtain ⟨n0, hn0⟩ : ∃ n, l0.length = n := ⟨_, rfl⟩
  obtain ⟨n1, hn1⟩ : ∃ n, l1.length = n := ⟨_, rfl⟩
  obtain ⟨a, ha⟩ : ∃ a, l0.take 15 = a := ⟨_, rfl⟩
  obtain ⟨b, hb⟩ : ∃ a, l1.take 15 = a := ⟨_, rfl⟩
  obtain ⟨p0, hp0⟩ : ∃ p, a.length = p := ⟨_, rfl⟩
  obtain ⟨p1, hp1⟩ : ∃ p, b.length = p := ⟨_, rfl⟩
  have hmin0 : min n0 15 = p0 := by rw [← hp0, ← ha, List.length_take, hn0, Nat.min_comm]
  have hmin1 : min n1 15 = p1 := by rw [← hp1, ← hb, List.length_take, hn1, Nat.min_comm]
  have HRa : Hid (RowR w w.heap.size A0 p0 a) := Lib.hid (by
    have h := RowR.take hr0 (k := p0) (by omega)
    rwa [show l0.take p0 = a by rw [← ha, ← hmin0, ← hn0, Nat.min_comm, List.take_eq_take_min (i := 15)]] at h)
  have HRb : Hid (RowR w w.heap.size A1 p1 b) := Lib.hid (by
    have h := RowR.take hr1 (k := p1) (by omega)
    rwa [show l1.take p1 = b by rw [← hb, ← hmin1, ← hn1, Nat.min_comm, List.take_eq_take_min (i := 15)]] at h)
  have hp15 : p0 ≤ 15 := by omega
  have hq15 : p1 ≤ 15 := by omega
  have HLa := Lib.hid hp0
  have HLb := Lib.hid hp1
  have i0 : min (n0 : Int) 15 = (p0 : Int) := by omega
  have i1 : min (n1 : Int) 15 = (p1 : Int) := by omega
  have hnc0 : n0 ≤ c0 := by omega
  have hnc1 : n1 ≤ c1 := by omega
  have hpc0 : p0 ≤ c0 := by omega
  have hpc1 : p1 ≤ c1 := by omega
  have j0 : (p0 : Int) ≤ (c0 : Int) := by omega
  have j1 : (p1 : Int) ≤ (c1 : Int) := by omega
  have k0 : (0 : Int) ≤ (p0 : Int) := by omega
  have k1 : (0 : Int) ≤ (p1 : Int) := by omega
  rw [hn0, hn1]
  clear hr0 hc0 hs0 hr1 hc1 hs1 hmin0 hmin1 hn0 hn1 ha hb hp0 hp1
  have HK0 := Lib.hid (fun (w' : World) (k : Below w.heap.size w w') => set_any A0 p0 c0 a w' (HRa.out.on k) (by omega))
  have HK1 := Lib.hid (fun (w' : World) (k : Below w.heap.size w w') => set_any A1 p1 c1 b w' (HRb.out.on k) (by omega))
  go_enter Try.func7, Try.ntmps7
  go_wp2_with fail
  go_region_held3 (fun w' => Below w.heap.size w w') (first | exact (Below.refl _ _).drew | assumption)
    ((first
      | (go_at_call 9
         first
          | (with_reducible refine (HK0.out _ (by first | exact (Below.refl _ _).drew | assumption)).mono ?_
             rintro e w1 ⟨Ax, cx, rfl, ox, bx⟩
             have bb1 := next ((Below.refl _ w).drew) bx)
          | (with_reducible refine (HK1.out _ (by assumption)).mono ?_
             rintro e w2 ⟨Ay, cy, rfl, oy, by'⟩
             have bb2 := next bb1 by'))))
  all_goals
    have HRx := Lib.hid ((RowR.own ox).on by')
    have HRy := Lib.hid (RowR.own oy)
    have HB := Lib.hid bb2
    clear ox oy bx by' bb1 bb2 HK0 HK1 HRa HRb i0 i1 hnc0 hnc1 hpc0 hpc1 j0 j1 k0 k1
    have hB := new_below w2 (.cells #[.slice Ax p0 cx, .slice Ay p1 cy] 24)
    have C := Join_any (some ⟨w2.heap.size, 0, none⟩) 2 2 [a, b] _ (SetsR.two HRx.out HRy.out cx cy 24) (by omega) (by simp [HLa.out, HLb.out]; omega)
    replace HRx := Lib.hid (HRx.out.on hB)
    replace HRy := Lib.hid (HRy.out.on hB)
    replace HB := Lib.hid (next HB.out hB)
    clear hB
    replace C := Lib.hid C
    go_wp2_with fail
    with_reducible refine C.out.mono ?_
    rintro e v1 ⟨Aj, cj, lj, rfl, h, o, b⟩
    clear C
    replace HRx := Lib.hid (HRx.out.on b)
    replace HRy := Lib.hid (HRy.out.on b)
    replace HB := Lib.hid (next HB.out b)
    have HRj := Lib.hid (RowR.own o)
    have HOj := Lib.hid h
    have hsj := h.1.short
    clear o h b
    have C := Size_sort sort_any Aj lj.length cj lj _ HRj.out (by omega)
    replace C := Lib.hid C
    go_wp2_with fail
    with_reducible refine C.out.mono ?_
    rintro e v2 ⟨m1, g1, rfl, b⟩
    clear C
    replace HRx := Lib.hid (HRx.out.on b)
    replace HRy := Lib.hid (HRy.out.on b)
    replace HRj := Lib.hid (HRj.out.on b)
    replace HB := Lib.hid (next HB.out b)
    have E1 := Lib.hid (size_join HOj.out g1)
    clear g1
    generalize sizeR m1 = z1 at *
    clear b
    clear HRj
    have C := Both_any Ax Ay p0 p1 cx cy a b _ HRx.out HRy.out (by omega) (by omega)
    replace C := Lib.hid C
    go_wp2_with fail
    with_reducible refine C.out.mono ?_
    rintro e v3 ⟨Ao, co, lo, rfl, h, o, b⟩
    clear C
    replace HRx := Lib.hid (HRx.out.on b)
    replace HRy := Lib.hid (HRy.out.on b)
    replace HB := Lib.hid (next HB.out b)
    have HRo := Lib.hid (RowR.own o)
    have HOo := Lib.hid h
    have hso := h.1.short
    clear o h
    clear b
    have C := Size_sort sort_any Ao lo.length co lo _ HRo.out (by omega)
    replace C := Lib.hid C
    go_wp2_with fail
    with_reducible refine C.out.mono ?_
    rintro e v4 ⟨m2, g2, rfl, b⟩
    clear C
    replace HRx := Lib.hid (HRx.out.on b)
    replace HRy := Lib.hid (HRy.out.on b)
    replace HRo := Lib.hid (HRo.out.on b)
    replace HB := Lib.hid (next HB.out b)
    have E2 := Lib.hid (size_both HOo.out g2)
    clear g2
    generalize sizeR m2 = z2 at *
    clear b
    clear HRo
    have e1 := E1.out
    have e2 := E2.out
    have t1 := cnt_top (fun i => decide (has a i) || decide (has b i))
    have t2 := cnt_top (fun i => decide (has a i) && decide (has b i))
    have u1 := cnt_low (fun i => decide (has a i) || decide (has b i))
    have u2 := cnt_low (fun i => decide (has a i) && decide (has b i))
    rw [← e1] at t1 u1
    rw [← e2] at t2 u2
    obtain ⟨s, hs⟩ : ∃ s, z1 + z2 = s := ⟨_, rfl⟩
    have w1 : IntKind.i64.wrap (z1 + z2) = s := by rw [← hs]; exact wrap_ok (by omega) (by omega)
    have HE := Lib.hid (And.intro e1 (And.intro e2 hs))
    clear e1 e2 t1 t2 u1 u2 hs hsj hso
    have C := Size_sort sort_any Ax p0 cx a _ HRx.out (by omega)
    replace C := Lib.hid C
    go_wp2_with fail
    with_reducible refine C.out.mono ?_
    rintro e v5 ⟨m3, g3, rfl, b⟩
    clear C
    replace HRx := Lib.hid (HRx.out.on b)
    replace HRy := Lib.hid (HRy.out.on b)
    replace HB := Lib.hid (next HB.out b)
    have E3 := Lib.hid g3.size
    have HG3 := Lib.hid g3
    clear g3
    obtain ⟨z3, hz3⟩ : ∃ z, sizeR m3 = z := ⟨_, rfl⟩
    rw [hz3] at E3
    have HZ3 := Lib.hid hz3
    rw [hz3]
    clear hz3
    clear b
    have C := Lib.hid (Size_sort sort_any Ay p1 cy b _ HRy.out (by omega))
    go_wp2_with fail
    with_reducible refine C.out.mono ?_
    rintro e v6 ⟨m4, g4, rfl, bb⟩
    clear C
    replace HRx := Lib.hid (HRx.out.on bb)
    replace HRy := Lib.hid (HRy.out.on bb)
    replace HB := Lib.hid (next HB.out bb)
    have e4 := g4.size
    clear g4 bb
    generalize sizeR m4 = z4 at *
    have e3 := E3.out
    have t3 := cnt_top (fun i => decide (has a i))
    have t4 := cnt_top (fun i => decide (has b i))
    have u3 := cnt_low (fun i => decide (has a i))
    have u4 := cnt_low (fun i => decide (has b i))
    rw [← e3] at t3 u3
    rw [← e4] at t4 u4
    have hs2 : z3 + z4 = s := by
      have h := cnt_or (fun i => decide (has a i)) (fun i => decide (has b i)) 1114112
      rw [← HE.out.2.2, HE.out.1, HE.out.2.1, e3, e4]
      omega
    have w2 : IntKind.i64.wrap (z3 + z4) = s := by rw [← hs2]; exact wrap_ok (by omega) (by omega)
    have bs : (s == s) = true := beq_self_eq_true s
    have HE3 := Lib.hid e3
    clear e3 e4 t3 t4 u3 u4 hs2 HE E1 E2 E3
    have C := Size_sort sort_any Ax p0 cx a _ HRx.out (by omega)
    replace C := Lib.hid C
    go_wp2_with fail
    with_reducible refine C.out.mono ?_
    rintro e v7 ⟨m5, g5, rfl, b⟩
    clear C
    replace HRx := Lib.hid (HRx.out.on b)
    replace HRy := Lib.hid (HRy.out.on b)
    replace HB := Lib.hid (next HB.out b)
    obtain rfl := Of.one HG3.out g5
    clear g5
    rw [HZ3.out]
    clear b
    have C := Not_any Ax p0 cx a _ HRx.out (by omega)
    replace C := Lib.hid C
    go_wp2_with fail
    with_reducible refine C.out.mono ?_
    rintro e v8 ⟨An, cn, ln, rfl, h, o, b⟩
    clear C
    replace HRx := Lib.hid (HRx.out.on b)
    replace HRy := Lib.hid (HRy.out.on b)
    replace HB := Lib.hid (next HB.out b)
    have HRn := Lib.hid (RowR.own o)
    have HOn := Lib.hid h
    have hsn := h.1.short
    clear o h
    clear b
    have C := Size_sort sort_any An ln.length cn ln _ HRn.out (by omega)
    replace C := Lib.hid C
    go_wp2_with fail
    with_reducible refine C.out.mono ?_
    rintro e v9 ⟨m6, g6, rfl, b⟩
    clear C
    replace HRx := Lib.hid (HRx.out.on b)
    replace HRy := Lib.hid (HRy.out.on b)
    replace HRn := Lib.hid (HRn.out.on b)
    replace HB := Lib.hid (next HB.out b)
    have e6 := size_not HOn.out g6
    clear g6
    generalize sizeR m6 = z6 at *
    clear b
    have w3 : IntKind.i64.wrap (z3 + z6) = 1114112 := by
      have h := cnt_not (fun i => decide (has a i)) 1114112
      rw [show z3 + z6 = 1114112 by rw [HE3.out, e6]; omega]
      rfl
    clear e6 hsn HE3
    have C := awake_any v9
    replace C := Lib.hid C
    go_wp2_with fail
    with_reducible refine C.out.mono ?_
    rintro e v10 ⟨rfl, b⟩
    clear C
    replace HRx := Lib.hid (HRx.out.on b)
    replace HRy := Lib.hid (HRy.out.on b)
    replace HRn := Lib.hid (HRn.out.on b)
    replace HB := Lib.hid (next HB.out b)
    clear b
    clear HRn HRx HRy
    go_wp2_with fail
    go_ret
    exact ⟨rfl, HB.out⟩
end Go.Proofs.Ytjnnaafkdgoflaa
