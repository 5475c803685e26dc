/- The law RunesTwo, walked. -/
import Derived.Test.YtjnnaafkdgoflaaRCountLaw
namespace Go.Proofs.Ytjnnaafkdgoflaa
open Go.RowKit

set_option maxRecDepth 100000 in
set_option maxHeartbeats 8000000 in
theorem RunesTwo_walk (A0 : Option Addr) (l0 : List Rg) (c0 : Nat) (A1 : Option Addr) (l1 : List Rg) (c1 : Nat) (w : World)
    (hr0 : RowR w w.heap.size A0 l0.length l0) (hc0 : l0.length ≤ c0) (hs0 : l0.length * 16 ≤ 140737488351232)
    (hr1 : RowR w w.heap.size A1 l1.length l1) (hc1 : l1.length ≤ c1) (hs1 : l1.length * 16 ≤ 140737488351232) :
    Calls Try.prog 4 #[.slice A0 l0.length c0, .slice A1 l1.length c1] w fun e w' => e = .returned (.bool true) ∧ Below w.heap.size w w' := by
  obtain ⟨n0, hn0⟩ : ∃ n, l0.length = n := ⟨_, rfl⟩
  obtain ⟨n1, hn1⟩ : ∃ n, l1.length = n := ⟨_, rfl⟩
  obtain ⟨a, ha⟩ : ∃ a, l0.take 15 = a := ⟨_, rfl⟩
  obtain ⟨b, hb⟩ : ∃ a, l1.take 15 = a := ⟨_, rfl⟩
  obtain ⟨p0, hp0⟩ : ∃ p, a.length = p := ⟨_, rfl⟩
  obtain ⟨p1, hp1⟩ : ∃ p, b.length = p := ⟨_, rfl⟩
  have hmin0 : min n0 15 = p0 := by rw [← hp0, ← ha, List.length_take, hn0, Nat.min_comm]
  have hmin1 : min n1 15 = p1 := by rw [← hp1, ← hb, List.length_take, hn1, Nat.min_comm]
  have HRa : Hid (RowR w w.heap.size A0 p0 a) := Lib.hid (by
    have h := RowR.take hr0 (k := p0) (by omega)
    rwa [show l0.take p0 = a by rw [← ha, ← hmin0, ← hn0, Nat.min_comm, List.take_eq_take_min (i := 15)]] at h)
  have HRb : Hid (RowR w w.heap.size A1 p1 b) := Lib.hid (by
    have h := RowR.take hr1 (k := p1) (by omega)
    rwa [show l1.take p1 = b by rw [← hb, ← hmin1, ← hn1, Nat.min_comm, List.take_eq_take_min (i := 15)]] at h)
  have hp15 : p0 ≤ 15 := by omega
  have hq15 : p1 ≤ 15 := by omega
  have HLa := Lib.hid hp0
  have HLb := Lib.hid hp1
  have i0 : min (n0 : Int) 15 = (p0 : Int) := by omega
  have i1 : min (n1 : Int) 15 = (p1 : Int) := by omega
  have hnc0 : n0 ≤ c0 := by omega
  have hnc1 : n1 ≤ c1 := by omega
  have hpc0 : p0 ≤ c0 := by omega
  have hpc1 : p1 ≤ c1 := by omega
  have j0 : (p0 : Int) ≤ (c0 : Int) := by omega
  have j1 : (p1 : Int) ≤ (c1 : Int) := by omega
  have k0 : (0 : Int) ≤ (p0 : Int) := by omega
  have k1 : (0 : Int) ≤ (p1 : Int) := by omega
  rw [hn0, hn1]
  clear hr0 hc0 hs0 hr1 hc1 hs1 hmin0 hmin1 hn0 hn1 ha hb hp0 hp1
  have HB : Hid (Below w.heap.size w w) := Lib.hid (Below.refl _ _)
  obtain ⟨e0, hi0, hz0, hz1, hz2⟩ := info_parts rg_info
  go_enter Try.func4, Try.ntmps4
  go_wp2_with fail
  go_quiet (fail)
  have b := Below.dn (Below.refl w.heap.size w) nq
  replace HRa := Lib.hid (HRa.out.on b)
  replace HRb := Lib.hid (HRb.out.on b)
  replace HB := Lib.hid b
  clear i0 i1 hnc0 hnc1 hpc0 hpc1 j0 j1 k0 k1
  clear b
  obtain ⟨w0, hw0⟩ : ∃ x, w.drewN nq = x := ⟨_, rfl⟩
  rw [hw0] at HRa HRb HB ⊢
  clear hw0
  have C := set_any A0 p0 c0 a _ HRa.out (by omega)
  replace C := Lib.hid C
  go_wp2_with fail
  with_reducible refine C.out.mono ?_
  rintro e v1 ⟨Ax, cx, rfl, o, b⟩
  clear C
  replace HRa := Lib.hid (HRa.out.on b)
  replace HRb := Lib.hid (HRb.out.on b)
  replace HB := Lib.hid (next HB.out b)
  have HRx := Lib.hid (RowR.own o)
  clear o
  clear b
  have C := set_any A1 p1 c1 b _ HRb.out (by omega)
  replace C := Lib.hid C
  go_wp2_with fail
  with_reducible refine C.out.mono ?_
  rintro e v2 ⟨Ay, cy, rfl, o, b⟩
  clear C
  replace HRa := Lib.hid (HRa.out.on b)
  replace HRb := Lib.hid (HRb.out.on b)
  replace HRx := Lib.hid (HRx.out.on b)
  replace HB := Lib.hid (next HB.out b)
  have HRy := Lib.hid (RowR.own o)
  clear o
  clear b
  have hra := HRa.out
  go_wp2_with (at_builtin; refine wpList_appR _ rfl (.tmp 23) (.tmp 24) 22 rfl v2.heap.size 45 e0 Try.underlying22 hi0 hz0 hz1 hz2 _ 0 [] rfl (World.ownsRow_nil _ _ _ _) _ _ _ _ _ rfl hra (by omega) (Nat.le_refl _) ?_)
  intro q1 w5 o5 _ b5
  have hrb := HRb.out.on b5
  have hs5 := b5.size
  go_wp2_with (at_builtin; refine wpList_appR _ rfl (.tmp 25) (.tmp 26) 22 rfl v2.heap.size 45 e0 Try.underlying22 hi0 hz0 hz1 hz2 _ _ _ rfl o5 _ _ _ _ _ rfl hrb (by omega) hs5 ?_)
  intro q2 w6 o6 _ b6
  obtain ⟨Az, cz, rfl⟩ := ownR_slice o6
  rw [← cR_app] at o6
  have b := b5.trans b6
  have HRz := Lib.hid (RowR.own o6)
  clear hra hrb o5 o6 b5 b6 hs5
  replace HRa := Lib.hid (HRa.out.on b)
  replace HRb := Lib.hid (HRb.out.on b)
  replace HRx := Lib.hid (HRx.out.on b)
  replace HRy := Lib.hid (HRy.out.on b)
  replace HB := Lib.hid (next HB.out b)
  clear b
  obtain ⟨pz, hpz⟩ : ∃ p, p0 + p1 = p := ⟨_, rfl⟩
  have hz30 : pz ≤ 30 := by omega
  rw [hpz] at HRz ⊢
  clear hpz
  have C := rOf_any A0 p0 c0 a _ HRa.out (by omega)
  replace C := Lib.hid C
  go_wp2_with fail
  with_reducible refine C.out.mono ?_
  rintro e v3 ⟨B1, d1, la, rfl, h, o, b⟩
  clear C
  replace HRa := Lib.hid (HRa.out.on b)
  replace HRb := Lib.hid (HRb.out.on b)
  replace HRx := Lib.hid (HRx.out.on b)
  replace HRy := Lib.hid (HRy.out.on b)
  replace HRz := Lib.hid (HRz.out.on b)
  replace HB := Lib.hid (next HB.out b)
  have HR1 := Lib.hid (RowR.own o)
  have HO1 := Lib.hid h
  have hs1 := h.1.short
  clear o h
  clear b
  have C := rOf_any A1 p1 c1 b _ HRb.out (by omega)
  replace C := Lib.hid C
  go_wp2_with fail
  with_reducible refine C.out.mono ?_
  rintro e v4 ⟨B2, d2, lb, rfl, h, o, b⟩
  clear C
  replace HRa := Lib.hid (HRa.out.on b)
  replace HRb := Lib.hid (HRb.out.on b)
  replace HRx := Lib.hid (HRx.out.on b)
  replace HRy := Lib.hid (HRy.out.on b)
  replace HRz := Lib.hid (HRz.out.on b)
  replace HR1 := Lib.hid (HR1.out.on b)
  replace HB := Lib.hid (next HB.out b)
  have HR2 := Lib.hid (RowR.own o)
  have HO2 := Lib.hid h
  have hs2 := h.1.short
  clear o h
  clear b
  obtain ⟨q, hq⟩ : ∃ q, decide (la = lb) = q := ⟨_, rfl⟩
  replace hq := Lib.hid hq
  have C := rEqual_any B1 B2 la.length lb.length d1 d2 la lb _ HR1.out HR2.out (by omega) (by omega)
  rw [hq.out] at C
  replace C := Lib.hid C
  go_wp2_with fail
  with_reducible refine C.out.mono ?_
  rintro e v5 ⟨rfl, b⟩
  clear C
  replace HRa := Lib.hid (HRa.out.on b)
  replace HRb := Lib.hid (HRb.out.on b)
  replace HRx := Lib.hid (HRx.out.on b)
  replace HRy := Lib.hid (HRy.out.on b)
  replace HRz := Lib.hid (HRz.out.on b)
  replace HR1 := Lib.hid (HR1.out.on b)
  replace HR2 := Lib.hid (HR2.out.on b)
  replace HB := Lib.hid (next HB.out b)
  clear b
  clear HR1 HR2
  clear hs1 hs2
  have hB := new_below v5 (.cells #[.slice Ax p0 cx, .slice Ay p1 cy] 24)
  have C := Join_any (some ⟨v5.heap.size, 0, none⟩) 2 2 [a, b] _ (SetsR.two HRx.out HRy.out cx cy 24) (by omega) (by simp [HLa.out, HLb.out]; omega)
  replace HRa := Lib.hid (HRa.out.on hB)
  replace HRb := Lib.hid (HRb.out.on hB)
  replace HRx := Lib.hid (HRx.out.on hB)
  replace HRy := Lib.hid (HRy.out.on hB)
  replace HRz := Lib.hid (HRz.out.on hB)
  replace HB := Lib.hid (next HB.out hB)
  clear hB
  replace C := Lib.hid C
  go_wp2_with fail
  with_reducible refine C.out.mono ?_
  rintro e v6 ⟨Aj, cj, lj, rfl, h, o, b⟩
  clear C
  replace HRa := Lib.hid (HRa.out.on b)
  replace HRb := Lib.hid (HRb.out.on b)
  replace HRx := Lib.hid (HRx.out.on b)
  replace HRy := Lib.hid (HRy.out.on b)
  replace HRz := Lib.hid (HRz.out.on b)
  replace HB := Lib.hid (next HB.out b)
  have HRj := Lib.hid (RowR.own o)
  have HOj := Lib.hid h
  have hsj := h.1.short
  clear o h b
  have C := ranges_any Aj lj.length cj lj _ HRj.out (by omega)
  replace C := Lib.hid C
  go_wp2_with fail
  with_reducible refine C.out.mono ?_
  rintro e v7 ⟨B3, d3, rfl, o, b⟩
  clear C
  replace HRa := Lib.hid (HRa.out.on b)
  replace HRb := Lib.hid (HRb.out.on b)
  replace HRx := Lib.hid (HRx.out.on b)
  replace HRy := Lib.hid (HRy.out.on b)
  replace HRz := Lib.hid (HRz.out.on b)
  replace HRj := Lib.hid (HRj.out.on b)
  replace HB := Lib.hid (next HB.out b)
  have HR3 := Lib.hid (RowR.own o)
  clear o
  clear b
  clear HRj
  have C := rOf_any Az pz cz (a ++ b) _ HRz.out (by omega)
  replace C := Lib.hid C
  go_wp2_with fail
  with_reducible refine C.out.mono ?_
  rintro e v8 ⟨B4, d4, l4, rfl, h, o, b⟩
  clear C
  replace HRa := Lib.hid (HRa.out.on b)
  replace HRb := Lib.hid (HRb.out.on b)
  replace HRx := Lib.hid (HRx.out.on b)
  replace HRy := Lib.hid (HRy.out.on b)
  replace HRz := Lib.hid (HRz.out.on b)
  replace HR3 := Lib.hid (HR3.out.on b)
  replace HB := Lib.hid (next HB.out b)
  have HR4 := Lib.hid (RowR.own o)
  have HO4 := Lib.hid h
  have hs4 := h.1.short
  clear o h
  clear b
  have C := rEqual_any B3 B4 lj.length l4.length d3 d4 lj l4 _ HR3.out HR4.out (by omega) (by omega)
  rw [decide_eq_true (Of.one' HOj.out HO4.out (fun n => by simp))] at C
  replace C := Lib.hid C
  go_wp2_with fail
  with_reducible refine C.out.mono ?_
  rintro e v9 ⟨rfl, b⟩
  clear C
  replace HRa := Lib.hid (HRa.out.on b)
  replace HRb := Lib.hid (HRb.out.on b)
  replace HRx := Lib.hid (HRx.out.on b)
  replace HRy := Lib.hid (HRy.out.on b)
  replace HRz := Lib.hid (HRz.out.on b)
  replace HR3 := Lib.hid (HR3.out.on b)
  replace HR4 := Lib.hid (HR4.out.on b)
  replace HB := Lib.hid (next HB.out b)
  clear b
  clear HR3 HR4 HRz
  clear HOj HO4 hsj hs4
  have C := Both_any Ax Ay p0 p1 cx cy a b _ HRx.out HRy.out (by omega) (by omega)
  replace C := Lib.hid C
  go_wp2_with fail
  with_reducible refine C.out.mono ?_
  rintro e v10 ⟨Ao, co, lo, rfl, h, o, b⟩
  clear C
  replace HRa := Lib.hid (HRa.out.on b)
  replace HRb := Lib.hid (HRb.out.on b)
  replace HRx := Lib.hid (HRx.out.on b)
  replace HRy := Lib.hid (HRy.out.on b)
  replace HB := Lib.hid (next HB.out b)
  have HRo := Lib.hid (RowR.own o)
  have HOo := Lib.hid h
  have hso := h.1.short
  clear o h
  clear b
  have C := ranges_any Ao lo.length co lo _ HRo.out (by omega)
  replace C := Lib.hid C
  go_wp2_with fail
  with_reducible refine C.out.mono ?_
  rintro e v11 ⟨B5, d5, rfl, o, b⟩
  clear C
  replace HRa := Lib.hid (HRa.out.on b)
  replace HRb := Lib.hid (HRb.out.on b)
  replace HRx := Lib.hid (HRx.out.on b)
  replace HRy := Lib.hid (HRy.out.on b)
  replace HRo := Lib.hid (HRo.out.on b)
  replace HB := Lib.hid (next HB.out b)
  have HR5 := Lib.hid (RowR.own o)
  clear o
  clear b
  clear HRo
  have C := rBoth_any A0 A1 p0 p1 c0 c1 a b _ HRa.out HRb.out (by omega) (by omega)
  replace C := Lib.hid C
  go_wp2_with fail
  with_reducible refine C.out.mono ?_
  rintro e v12 ⟨B6, d6, l6, rfl, h, o, b⟩
  clear C
  replace HRa := Lib.hid (HRa.out.on b)
  replace HRb := Lib.hid (HRb.out.on b)
  replace HRx := Lib.hid (HRx.out.on b)
  replace HRy := Lib.hid (HRy.out.on b)
  replace HR5 := Lib.hid (HR5.out.on b)
  replace HB := Lib.hid (next HB.out b)
  have HR6 := Lib.hid (RowR.own o)
  have HO6 := Lib.hid h
  have hs6 := h.1.short
  clear o h
  clear b
  have C := rEqual_any B5 B6 lo.length l6.length d5 d6 lo l6 _ HR5.out HR6.out (by omega) (by omega)
  rw [decide_eq_true (Of.one HOo.out HO6.out)] at C
  replace C := Lib.hid C
  go_wp2_with fail
  with_reducible refine C.out.mono ?_
  rintro e v13 ⟨rfl, b⟩
  clear C
  replace HRa := Lib.hid (HRa.out.on b)
  replace HRb := Lib.hid (HRb.out.on b)
  replace HRx := Lib.hid (HRx.out.on b)
  replace HRy := Lib.hid (HRy.out.on b)
  replace HR5 := Lib.hid (HR5.out.on b)
  replace HR6 := Lib.hid (HR6.out.on b)
  replace HB := Lib.hid (next HB.out b)
  clear b
  clear HR5 HR6
  clear HOo HO6 hso hs6
  have C := Same_any Ax Ay p0 p1 cx cy a b _ HRx.out HRy.out (by omega) (by omega)
  replace C := Lib.hid C
  go_wp2_with fail
  with_reducible refine C.out.mono ?_
  rintro e v14 ⟨⟨la', lb', g1, g2, rfl⟩, b⟩
  clear C
  replace HRa := Lib.hid (HRa.out.on b)
  replace HRb := Lib.hid (HRb.out.on b)
  replace HRx := Lib.hid (HRx.out.on b)
  replace HRy := Lib.hid (HRy.out.on b)
  replace HB := Lib.hid (next HB.out b)
  obtain rfl := Of.one HO1.out g1
  obtain rfl := Of.one HO2.out g2
  rw [hq.out]
  clear g1 g2
  clear b
  have C := ranges_any Ax p0 cx a _ HRx.out (by omega)
  replace C := Lib.hid C
  go_wp2_with fail
  with_reducible refine C.out.mono ?_
  rintro e v15 ⟨B7, d7, rfl, o, b⟩
  clear C
  replace HRa := Lib.hid (HRa.out.on b)
  replace HRb := Lib.hid (HRb.out.on b)
  replace HRx := Lib.hid (HRx.out.on b)
  replace HRy := Lib.hid (HRy.out.on b)
  replace HB := Lib.hid (next HB.out b)
  have HR7 := Lib.hid (RowR.own o)
  clear o
  clear b
  have C := rEqual_any B7 A0 p0 p0 d7 c0 a a _ HR7.out HRa.out (by omega) (by omega)
  rw [decide_eq_true rfl] at C
  replace C := Lib.hid C
  go_wp2_with fail
  with_reducible refine C.out.mono ?_
  rintro e v16 ⟨rfl, b⟩
  clear C
  replace HRa := Lib.hid (HRa.out.on b)
  replace HRb := Lib.hid (HRb.out.on b)
  replace HRx := Lib.hid (HRx.out.on b)
  replace HRy := Lib.hid (HRy.out.on b)
  replace HR7 := Lib.hid (HR7.out.on b)
  replace HB := Lib.hid (next HB.out b)
  clear b
  have C := awake_any v16
  replace C := Lib.hid C
  go_wp2_with fail
  with_reducible refine C.out.mono ?_
  rintro e v17 ⟨rfl, b⟩
  clear C
  replace HRa := Lib.hid (HRa.out.on b)
  replace HRb := Lib.hid (HRb.out.on b)
  replace HRx := Lib.hid (HRx.out.on b)
  replace HRy := Lib.hid (HRy.out.on b)
  replace HR7 := Lib.hid (HR7.out.on b)
  replace HB := Lib.hid (next HB.out b)
  clear b
  clear HR7 HRx HRy HRa HRb
  go_wp2_with fail
  go_ret
  exact ⟨rfl, HB.out⟩
end Go.Proofs.Ytjnnaafkdgoflaa
