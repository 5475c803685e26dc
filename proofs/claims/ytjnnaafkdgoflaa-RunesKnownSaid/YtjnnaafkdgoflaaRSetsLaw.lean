/- The law RunesSets, walked. -/
import Derived.Test.YtjnnaafkdgoflaaRAwake
import Derived.Test.YtjnnaafkdgoflaaRSet
import Derived.Test.YtjnnaafkdgoflaaRHas
import Derived.Test.YtjnnaafkdgoflaaRSize
import Derived.Test.YtjnnaafkdgoflaaRPairs
namespace Go.Proofs.Ytjnnaafkdgoflaa
open Go.RowKit

set_option maxRecDepth 100000 in
set_option maxHeartbeats 8000000 in
theorem RunesSets_walk (A0 : Option Addr) (l0 : List Rg) (c0 : Nat) (r : Int) (w : World) (hr0 : RowR w w.heap.size A0 l0.length l0) (hc0 : l0.length ≤ c0) (hs0 : l0.length * 16 ≤ 140737488351232) (wr : (Lit.int .i64 r).wf = true) :
    Calls Try.prog 3 #[.slice A0 l0.length c0, .int .i64 r] w fun e w' => e = .returned (.bool true) ∧ Below w.heap.size w w' := by
  obtain ⟨n0, hn0⟩ : ∃ n, l0.length = n := ⟨_, rfl⟩
  obtain ⟨l, hl⟩ : ∃ a, l0.take 20 = a := ⟨_, rfl⟩
  obtain ⟨p0, hp0⟩ : ∃ p, l.length = p := ⟨_, rfl⟩
  have hmin : min n0 20 = p0 := by rw [← hp0, ← hl, List.length_take, hn0, Nat.min_comm]
  have HRl : Hid (RowR w w.heap.size A0 p0 l) := Lib.hid (by
    have h := RowR.take hr0 (k := p0) (by omega)
    rwa [show l0.take p0 = l by rw [← hl, ← hmin, ← hn0, Nat.min_comm, List.take_eq_take_min (i := 20)]] at h)
  have hp20 : p0 ≤ 20 := by omega
  have HB : Hid (Below w.heap.size w w) := Lib.hid (Below.refl _ _)
  have i0 : min (n0 : Int) 20 = (p0 : Int) := by omega
  have hnc : n0 ≤ c0 := by omega
  have hpc : p0 ≤ c0 := by omega
  have j0 : (p0 : Int) ≤ (c0 : Int) := by omega
  have k0 : (0 : Int) ≤ (p0 : Int) := by omega
  rw [hn0]
  clear hr0 hc0 hs0 wr hmin hn0 hl hp0
  go_enter Try.func3, Try.ntmps3
  have C := set_any A0 p0 c0 l _ HRl.out (by omega)
  replace C := Lib.hid C
  go_wp2_with fail
  with_reducible refine C.out.mono ?_
  rintro e v1 ⟨A1, c1, rfl, o, b⟩
  clear C
  replace HRl := Lib.hid (HRl.out.on b)
  replace HB := Lib.hid (next HB.out b)
  have HRx := Lib.hid (RowR.own o)
  clear o
  clear b
  clear i0 hnc hpc j0 k0
  have C := Of_any A1 p0 c1 l _ HRx.out (by omega)
  replace C := Lib.hid C
  go_wp2_with fail
  with_reducible refine C.out.mono ?_
  rintro e v2 ⟨A2, c2, l2, rfl, h, o, b⟩
  clear C
  replace HRl := Lib.hid (HRl.out.on b)
  replace HRx := Lib.hid (HRx.out.on b)
  replace HB := Lib.hid (next HB.out b)
  have HR2 := Lib.hid (RowR.own o)
  have HO2 := Lib.hid h
  have hs2 := h.1.short
  clear o h
  clear b
  have C := ranges_any A2 l2.length c2 l2 _ HR2.out (by omega)
  replace C := Lib.hid C
  go_wp2_with fail
  with_reducible refine C.out.mono ?_
  rintro e v3 ⟨A3, c3, rfl, o, b⟩
  clear C
  replace HRl := Lib.hid (HRl.out.on b)
  replace HRx := Lib.hid (HRx.out.on b)
  replace HR2 := Lib.hid (HR2.out.on b)
  replace HB := Lib.hid (next HB.out b)
  have HR3 := Lib.hid (RowR.own o)
  clear o
  clear b
  clear HR2
  have C := rOf_any A0 p0 c0 l _ HRl.out (by omega)
  replace C := Lib.hid C
  go_wp2_with fail
  with_reducible refine C.out.mono ?_
  rintro e v4 ⟨A4, c4, l4, rfl, h, o, b⟩
  clear C
  replace HRl := Lib.hid (HRl.out.on b)
  replace HRx := Lib.hid (HRx.out.on b)
  replace HR3 := Lib.hid (HR3.out.on b)
  replace HB := Lib.hid (next HB.out b)
  have HR4 := Lib.hid (RowR.own o)
  have HO4 := Lib.hid h
  have hs4 := h.1.short
  clear o h
  clear b
  have C := rEqual_any A3 A4 l2.length l4.length c3 c4 l2 l4 _ HR3.out HR4.out (by omega) (by omega)
  rw [decide_eq_true (Of.one HO2.out HO4.out)] at C
  replace C := Lib.hid C
  go_wp2_with fail
  with_reducible refine C.out.mono ?_
  rintro e v5 ⟨rfl, b⟩
  clear C
  replace HRl := Lib.hid (HRl.out.on b)
  replace HRx := Lib.hid (HRx.out.on b)
  replace HR3 := Lib.hid (HR3.out.on b)
  replace HR4 := Lib.hid (HR4.out.on b)
  replace HB := Lib.hid (next HB.out b)
  clear b
  clear HR3 HR4
  have C := Not_any A1 p0 c1 l _ HRx.out (by omega)
  replace C := Lib.hid C
  go_wp2_with fail
  with_reducible refine C.out.mono ?_
  rintro e v6 ⟨A6, c6, l6, rfl, h, o, b⟩
  clear C
  replace HRl := Lib.hid (HRl.out.on b)
  replace HRx := Lib.hid (HRx.out.on b)
  replace HB := Lib.hid (next HB.out b)
  have HR6 := Lib.hid (RowR.own o)
  have HO6 := Lib.hid h
  have hs6 := h.1.short
  clear o h
  clear b
  have C := ranges_any A6 l6.length c6 l6 _ HR6.out (by omega)
  replace C := Lib.hid C
  go_wp2_with fail
  with_reducible refine C.out.mono ?_
  rintro e v7 ⟨A7, c7, rfl, o, b⟩
  clear C
  replace HRl := Lib.hid (HRl.out.on b)
  replace HRx := Lib.hid (HRx.out.on b)
  replace HR6 := Lib.hid (HR6.out.on b)
  replace HB := Lib.hid (next HB.out b)
  have HR7 := Lib.hid (RowR.own o)
  clear o
  clear b
  clear HR6
  have C := rNot_any A0 p0 c0 l _ HRl.out (by omega)
  replace C := Lib.hid C
  go_wp2_with fail
  with_reducible refine C.out.mono ?_
  rintro e v8 ⟨A8, c8, l8, rfl, h, o, b⟩
  clear C
  replace HRl := Lib.hid (HRl.out.on b)
  replace HRx := Lib.hid (HRx.out.on b)
  replace HR7 := Lib.hid (HR7.out.on b)
  replace HB := Lib.hid (next HB.out b)
  have HR8 := Lib.hid (RowR.own o)
  have HO8 := Lib.hid h
  have hs8 := h.1.short
  clear o h
  clear b
  have C := rEqual_any A7 A8 l6.length l8.length c7 c8 l6 l8 _ HR7.out HR8.out (by omega) (by omega)
  rw [decide_eq_true (Of.one HO6.out HO8.out)] at C
  replace C := Lib.hid C
  go_wp2_with fail
  with_reducible refine C.out.mono ?_
  rintro e v9 ⟨rfl, b⟩
  clear C
  replace HRl := Lib.hid (HRl.out.on b)
  replace HRx := Lib.hid (HRx.out.on b)
  replace HR7 := Lib.hid (HR7.out.on b)
  replace HR8 := Lib.hid (HR8.out.on b)
  replace HB := Lib.hid (next HB.out b)
  clear b
  clear HR7 HR8
  clear HO2 HO4 HO6 HO8 hs2 hs4 hs6 hs8
  obtain ⟨q, hq⟩ : ∃ q, decide (Vl l) = q := ⟨_, rfl⟩
  replace hq := Lib.hid hq
  have C := Check_any A1 p0 c1 l _ HRx.out (by omega)
  rw [hq.out] at C
  replace C := Lib.hid C
  go_wp2_with fail
  with_reducible refine C.out.mono ?_
  rintro e v10 ⟨rfl, b⟩
  clear C
  replace HRl := Lib.hid (HRl.out.on b)
  replace HRx := Lib.hid (HRx.out.on b)
  replace HB := Lib.hid (next HB.out b)
  clear b
  have C := rCheck_any A0 p0 c0 l _ HRl.out (by omega)
  rw [hq.out] at C
  replace C := Lib.hid C
  go_wp2_with fail
  with_reducible refine C.out.mono ?_
  rintro e v11 ⟨rfl, b⟩
  clear C
  replace HRl := Lib.hid (HRl.out.on b)
  replace HRx := Lib.hid (HRx.out.on b)
  replace HB := Lib.hid (next HB.out b)
  clear b
  have C := Size_sort sort_any A1 p0 c1 l _ HRx.out (by omega)
  replace C := Lib.hid C
  go_wp2_with fail
  with_reducible refine C.out.mono ?_
  rintro e v12 ⟨l9, h9, rfl, b⟩
  clear C
  replace HRl := Lib.hid (HRl.out.on b)
  replace HRx := Lib.hid (HRx.out.on b)
  replace HB := Lib.hid (next HB.out b)
  have HO9 := Lib.hid h9
  clear h9
  clear b
  have C := rSize_any A0 p0 c0 l _ HRl.out (by omega)
  replace C := Lib.hid C
  go_wp2_with fail
  with_reducible refine C.out.mono ?_
  rintro e v13 ⟨l10, h10, rfl, b⟩
  clear C
  replace HRl := Lib.hid (HRl.out.on b)
  replace HRx := Lib.hid (HRx.out.on b)
  replace HB := Lib.hid (next HB.out b)
  obtain rfl := Of.one HO9.out h10
  clear h10 HO9
  generalize sizeR l9 = z
  clear b
  obtain ⟨t, ht⟩ : ∃ t, decide (has l r) = t := ⟨_, rfl⟩
  replace ht := Lib.hid ht
  have C := Has_any A1 p0 c1 l r _ HRx.out (by omega)
  rw [ht.out] at C
  replace C := Lib.hid C
  go_wp2_with fail
  with_reducible refine C.out.mono ?_
  rintro e v14 ⟨rfl, b⟩
  clear C
  replace HRl := Lib.hid (HRl.out.on b)
  replace HRx := Lib.hid (HRx.out.on b)
  replace HB := Lib.hid (next HB.out b)
  clear b
  have C := rHas_any A0 p0 c0 l r _ HRl.out (by omega)
  rw [ht.out] at C
  replace C := Lib.hid C
  go_wp2_with fail
  with_reducible refine C.out.mono ?_
  rintro e vv ⟨rfl, rfl⟩
  clear C
  have C := ranges_any A1 p0 c1 l _ HRx.out (by omega)
  replace C := Lib.hid C
  go_wp2_with fail
  with_reducible refine C.out.mono ?_
  rintro e v15 ⟨A11, c11, rfl, o, b⟩
  clear C
  replace HRl := Lib.hid (HRl.out.on b)
  replace HRx := Lib.hid (HRx.out.on b)
  replace HB := Lib.hid (next HB.out b)
  have HR11 := Lib.hid (RowR.own o)
  clear o
  clear b
  have C := rEqual_any A11 A0 p0 p0 c11 c0 l l _ HR11.out HRl.out (by omega) (by omega)
  rw [decide_eq_true rfl] at C
  replace C := Lib.hid C
  go_wp2_with fail
  with_reducible refine C.out.mono ?_
  rintro e v16 ⟨rfl, b⟩
  clear C
  replace HRl := Lib.hid (HRl.out.on b)
  replace HRx := Lib.hid (HRx.out.on b)
  replace HR11 := Lib.hid (HR11.out.on b)
  replace HB := Lib.hid (next HB.out b)
  clear b
  have C := awake_any v16
  replace C := Lib.hid C
  go_wp2_with fail
  with_reducible refine C.out.mono ?_
  rintro e v17 ⟨rfl, b⟩
  clear C
  replace HRl := Lib.hid (HRl.out.on b)
  replace HRx := Lib.hid (HRx.out.on b)
  replace HR11 := Lib.hid (HR11.out.on b)
  replace HB := Lib.hid (next HB.out b)
  clear b
  clear HR11 HRx HRl hq ht
  go_wp2_with fail
  go_ret
  exact ⟨rfl, HB.out⟩
end Go.Proofs.Ytjnnaafkdgoflaa
