/- The law RunesOnce, walked. -/
import Derived.Test.YtjnnaafkdgoflaaRTwoLaw
namespace Go.Proofs.Ytjnnaafkdgoflaa
open Go.RowKit

theorem not_not {a l6 l7 l : List Rg} (h6 : Of (fun r => isRn r ∧ ¬ has a r) l6) (h7 : Of (fun r => isRn r ∧ ¬ has l6 r) l7) (h : Of (has a) l) : l7 = l :=
  Of.one' h7 h fun n => by
    rw [h6.has n]
    exact ⟨fun ⟨k0, k1⟩ => Classical.byContradiction fun k => k1 ⟨k0, k⟩, fun k => ⟨k.1, fun q => q.2 k⟩⟩
theorem not_join {a b lj ln l8 l9 lo : List Rg} (hj : Of (has ([a, b] : List (List Rg)).flatten) lj) (hn : Of (fun r => isRn r ∧ ¬ has lj r) ln) (h8 : Of (fun r => isRn r ∧ ¬ has a r) l8) (h9 : Of (fun r => isRn r ∧ ¬ has b r) l9)
    (ho : Of (fun r => has l8 r ∧ has l9 r) lo) : ln = lo :=
  Of.one' hn ho fun n => by
    rw [hj.has n, h8.has n, h9.has n]
    simp only [List.flatten_cons, List.flatten_nil, List.append_nil]
    rw [has_app]
    exact ⟨fun ⟨k0, k1⟩ => ⟨⟨k0, fun q => k1 (.inl q)⟩, ⟨k0, fun q => k1 (.inr q)⟩⟩, fun ⟨k0, k1⟩ => ⟨k0.1, fun q => q.elim k0.2 k1.2⟩⟩
theorem has_mem {a b : List Rg} (h : ∀ x, x ∈ a ↔ x ∈ b) (n : Int) : has a n ↔ has b n := and_congr_right fun _ => inR_perm h n
theorem has_swap (a b : List Rg) (n : Int) : has ([a, b] : List (List Rg)).flatten n ↔ has ([b, a] : List (List Rg)).flatten n := has_mem (fun x => by simp [or_comm]) n
theorem drop_memR {l : List Rg} {j : Nat} (h : j < l.length) (x : Rg) : x ∈ l.drop j ↔ x = l.getD j (0, 0) ∨ x ∈ l.drop (j + 1) := by
  rw [List.drop_eq_getElem_cons h, List.mem_cons, List.getD_eq_getElem?_getD, List.getElem?_eq_getElem h]; rfl

set_option maxRecDepth 100000 in
set_option maxHeartbeats 8000000 in
theorem RunesOnce_walk (A0 : Option Addr) (l0 : List Rg) (c0 : Nat) (A1 : Option Addr) (l1 : List Rg) (c1 : Nat) (w : World)
    (hr0 : RowR w w.heap.size A0 l0.length l0) (hc0 : l0.length ≤ c0) (hs0 : l0.length * 16 ≤ 140737488351232)
    (hr1 : RowR w w.heap.size A1 l1.length l1) (hc1 : l1.length ≤ c1) (hs1 : l1.length * 16 ≤ 140737488351232) :
    Calls Try.prog 6 #[.slice A0 l0.length c0, .slice A1 l1.length c1] w fun e w' => e = .returned (.bool true) ∧ Below w.heap.size w w' := by
  obtain ⟨n0, hn0⟩ : ∃ n, l0.length = n := ⟨_, rfl⟩
  obtain ⟨n1, hn1⟩ : ∃ n, l1.length = n := ⟨_, rfl⟩
  obtain ⟨a, ha⟩ : ∃ a, l0.take 15 = a := ⟨_, rfl⟩
  obtain ⟨b, hb⟩ : ∃ a, l1.take 15 = a := ⟨_, rfl⟩
  obtain ⟨p0, hp0⟩ : ∃ p, a.length = p := ⟨_, rfl⟩
  obtain ⟨p1, hp1⟩ : ∃ p, b.length = p := ⟨_, rfl⟩
  have hmin0 : min n0 15 = p0 := by rw [← hp0, ← ha, List.length_take, hn0, Nat.min_comm]
  have hmin1 : min n1 15 = p1 := by rw [← hp1, ← hb, List.length_take, hn1, Nat.min_comm]
  have HRa : Hid (RowR w w.heap.size A0 p0 a) := Lib.hid (by
    have h := RowR.take hr0 (k := p0) (by omega)
    rwa [show l0.take p0 = a by rw [← ha, ← hmin0, ← hn0, Nat.min_comm, List.take_eq_take_min (i := 15)]] at h)
  have HRb : Hid (RowR w w.heap.size A1 p1 b) := Lib.hid (by
    have h := RowR.take hr1 (k := p1) (by omega)
    rwa [show l1.take p1 = b by rw [← hb, ← hmin1, ← hn1, Nat.min_comm, List.take_eq_take_min (i := 15)]] at h)
  have hp15 : p0 ≤ 15 := by omega
  have hq15 : p1 ≤ 15 := by omega
  have HLa := Lib.hid hp0
  have HLb := Lib.hid hp1
  have i0 : min (n0 : Int) 15 = (p0 : Int) := by omega
  have i1 : min (n1 : Int) 15 = (p1 : Int) := by omega
  have hnc0 : n0 ≤ c0 := by omega
  have hnc1 : n1 ≤ c1 := by omega
  have hpc0 : p0 ≤ c0 := by omega
  have hpc1 : p1 ≤ c1 := by omega
  have j0 : (p0 : Int) ≤ (c0 : Int) := by omega
  have j1 : (p1 : Int) ≤ (c1 : Int) := by omega
  have k0 : (0 : Int) ≤ (p0 : Int) := by omega
  have k1 : (0 : Int) ≤ (p1 : Int) := by omega
  rw [hn0, hn1]
  clear hr0 hc0 hs0 hr1 hc1 hs1 hmin0 hmin1 hn0 hn1 ha hb hp0 hp1
  have HB : Hid (Below w.heap.size w w) := Lib.hid (Below.refl _ _)
  obtain ⟨i0', hi0, hz0, hz1, hz2⟩ := info_parts pg_info
  go_enter Try.func6, Try.ntmps6
  go_wp2_with fail
  go_quiet (fail)
  have b := Below.dn (Below.refl w.heap.size w) nq
  replace HRa := Lib.hid (HRa.out.on b)
  replace HRb := Lib.hid (HRb.out.on b)
  replace HB := Lib.hid b
  clear i0 i1 hnc0 hnc1 hpc0 hpc1 j0 j1 k0 k1
  clear b
  obtain ⟨w0, hw0⟩ : ∃ x, w.drewN nq = x := ⟨_, rfl⟩
  rw [hw0] at HRa HRb HB ⊢
  clear hw0
  have C := set_any A0 p0 c0 a _ HRa.out (by omega)
  replace C := Lib.hid C
  go_wp2_with fail
  with_reducible refine C.out.mono ?_
  rintro e v1 ⟨Ax, cx, rfl, o, b⟩
  clear C
  replace HRa := Lib.hid (HRa.out.on b)
  replace HRb := Lib.hid (HRb.out.on b)
  replace HB := Lib.hid (next HB.out b)
  have HRx := Lib.hid (RowR.own o)
  clear o
  clear b
  have C := set_any A1 p1 c1 b _ HRb.out (by omega)
  replace C := Lib.hid C
  go_wp2_with fail
  with_reducible refine C.out.mono ?_
  rintro e v2 ⟨Ay, cy, rfl, o, b⟩
  clear C
  replace HRa := Lib.hid (HRa.out.on b)
  replace HRb := Lib.hid (HRb.out.on b)
  replace HRx := Lib.hid (HRx.out.on b)
  replace HB := Lib.hid (next HB.out b)
  have HRy := Lib.hid (RowR.own o)
  clear o
  clear b
  clear HRa HRb
  have C := Of_any Ax p0 cx a _ HRx.out (by omega)
  replace C := Lib.hid C
  go_wp2_with fail
  with_reducible refine C.out.mono ?_
  rintro e v3 ⟨Aw, cw, lw, rfl, h, o, b⟩
  clear C
  replace HRx := Lib.hid (HRx.out.on b)
  replace HRy := Lib.hid (HRy.out.on b)
  replace HB := Lib.hid (next HB.out b)
  have HRw := Lib.hid (RowR.own o)
  have HOw := Lib.hid h
  have hsw := h.1.short
  clear o h
  clear b
  obtain ⟨k0, hk0⟩ : ∃ k : Int, (p0 : Int) - 1 = k := ⟨_, rfl⟩
  have wk : IntKind.i64.wrap ((p0 : Int) - 1) = k0 := by rw [← hk0]; exact wrap_ok (by omega) (by omega)
  have HK0 : Hid (k0 = (p0 : Int) - 1) := Lib.hid hk0.symm
  clear hk0
  go_wp2_with fail
  go_loopw [8, 9] (fun q p wr => ∃ (j : Nat) (k : Int) (B : List Rg), j ≤ p0 ∧ p = .int .i64 k ∧ Hid (k = (j : Int) - 1) ∧ Hid (∀ x, x ∈ B ↔ x ∈ a.drop j) ∧ Hid (B.length + 2 * j = 2 * p0) ∧ wr.ownsRow v3.heap.size 47 2 q B.length (cR B) ∧ Below v3.heap.size v3 wr) (fun _ p _ => (intOf p + 1).toNat)
  case atStart => exact ⟨p0, k0, [], Nat.le_refl _, rfl, HK0, Lib.hid (fun x => by rw [List.drop_of_length_le (by rw [HLa.out]; exact Nat.le_refl _)]), Lib.hid (by simp), World.ownsRow_nil _ _ _ _, Below.refl _ _⟩
  case round =>
    obtain ⟨j, k, B, hj, rfl, HK, HM, HL, hown, hb⟩ := hrel
    rcases Nat.eq_zero_or_pos j with hj0 | hj0
    · have f1 : decide ((0 : Int) ≤ k) = false := decide_eq_false (by have := HK.out; omega)
      have HM0 : Hid (∀ x, x ∈ B ↔ x ∈ a) := Lib.hid (fun x => by have := HM.out x; rwa [hj0, List.drop_zero] at this)
      have hBl : B.length ≤ 30 := by have := HL.out; omega
      obtain ⟨Ak, ck, rfl⟩ := ownR_slice hown
      have HRk := Lib.hid (RowR.own hown)
      replace HRx := Lib.hid (HRx.out.on hb)
      replace HRy := Lib.hid (HRy.out.on hb)
      replace HRw := Lib.hid (HRw.out.on hb)
      replace HB := Lib.hid (next HB.out hb)
      clear hown hb HM HL hj hj0 HK
      rename World => wq
      have C := Of_any Ak B.length ck B _ HRk.out (by omega)
      replace C := Lib.hid C
      go_wp2_with fail
      with_reducible refine C.out.mono ?_
      rintro e v4 ⟨B1, d1, l1, rfl, h, o, b⟩
      clear C
      replace HRx := Lib.hid (HRx.out.on b)
      replace HRy := Lib.hid (HRy.out.on b)
      replace HRw := Lib.hid (HRw.out.on b)
      replace HRk := Lib.hid (HRk.out.on b)
      replace HB := Lib.hid (next HB.out b)
      have HR1 := Lib.hid (RowR.own o)
      have HO1 := Lib.hid h
      have hs1 := h.1.short
      clear o h
      clear b
      have C := ranges_any B1 l1.length d1 l1 _ HR1.out (by omega)
      replace C := Lib.hid C
      go_wp2_with fail
      with_reducible refine C.out.mono ?_
      rintro e v5 ⟨B2, d2, rfl, o, b⟩
      clear C
      replace HRx := Lib.hid (HRx.out.on b)
      replace HRy := Lib.hid (HRy.out.on b)
      replace HRw := Lib.hid (HRw.out.on b)
      replace HRk := Lib.hid (HRk.out.on b)
      replace HR1 := Lib.hid (HR1.out.on b)
      replace HB := Lib.hid (next HB.out b)
      have HR2 := Lib.hid (RowR.own o)
      clear o
      clear b
      have C := ranges_any Aw lw.length cw lw _ HRw.out (by omega)
      replace C := Lib.hid C
      go_wp2_with fail
      with_reducible refine C.out.mono ?_
      rintro e v6 ⟨B3, d3, rfl, o, b⟩
      clear C
      replace HRx := Lib.hid (HRx.out.on b)
      replace HRy := Lib.hid (HRy.out.on b)
      replace HRw := Lib.hid (HRw.out.on b)
      replace HRk := Lib.hid (HRk.out.on b)
      replace HR1 := Lib.hid (HR1.out.on b)
      replace HR2 := Lib.hid (HR2.out.on b)
      replace HB := Lib.hid (next HB.out b)
      have HR3 := Lib.hid (RowR.own o)
      clear o
      clear b
      have C := rEqual_any B2 B3 l1.length lw.length d2 d3 l1 lw _ HR2.out HR3.out (by omega) (by omega)
      rw [decide_eq_true (Of.one' HO1.out HOw.out (has_mem HM0.out))] at C
      replace C := Lib.hid C
      go_wp2_with fail
      with_reducible refine C.out.mono ?_
      rintro e v7 ⟨rfl, b⟩
      clear C
      replace HRx := Lib.hid (HRx.out.on b)
      replace HRy := Lib.hid (HRy.out.on b)
      replace HRw := Lib.hid (HRw.out.on b)
      replace HRk := Lib.hid (HRk.out.on b)
      replace HR1 := Lib.hid (HR1.out.on b)
      replace HR2 := Lib.hid (HR2.out.on b)
      replace HR3 := Lib.hid (HR3.out.on b)
      replace HB := Lib.hid (next HB.out b)
      clear b
      clear HRk HR1 HR2 HR3
      clear HO1 hs1 HM0 hBl
      have C := Of_any Aw lw.length cw lw _ HRw.out (by omega)
      replace C := Lib.hid C
      go_wp2_with fail
      with_reducible refine C.out.mono ?_
      rintro e v8 ⟨B1, d1, l1, rfl, h, o, b⟩
      clear C
      replace HRx := Lib.hid (HRx.out.on b)
      replace HRy := Lib.hid (HRy.out.on b)
      replace HRw := Lib.hid (HRw.out.on b)
      replace HB := Lib.hid (next HB.out b)
      have HR1 := Lib.hid (RowR.own o)
      have HO1 := Lib.hid h
      have hs1 := h.1.short
      clear o h
      clear b
      have C := ranges_any B1 l1.length d1 l1 _ HR1.out (by omega)
      replace C := Lib.hid C
      go_wp2_with fail
      with_reducible refine C.out.mono ?_
      rintro e v9 ⟨B2, d2, rfl, o, b⟩
      clear C
      replace HRx := Lib.hid (HRx.out.on b)
      replace HRy := Lib.hid (HRy.out.on b)
      replace HRw := Lib.hid (HRw.out.on b)
      replace HR1 := Lib.hid (HR1.out.on b)
      replace HB := Lib.hid (next HB.out b)
      have HR2 := Lib.hid (RowR.own o)
      clear o
      clear b
      have C := ranges_any Aw lw.length cw lw _ HRw.out (by omega)
      replace C := Lib.hid C
      go_wp2_with fail
      with_reducible refine C.out.mono ?_
      rintro e v10 ⟨B3, d3, rfl, o, b⟩
      clear C
      replace HRx := Lib.hid (HRx.out.on b)
      replace HRy := Lib.hid (HRy.out.on b)
      replace HRw := Lib.hid (HRw.out.on b)
      replace HR1 := Lib.hid (HR1.out.on b)
      replace HR2 := Lib.hid (HR2.out.on b)
      replace HB := Lib.hid (next HB.out b)
      have HR3 := Lib.hid (RowR.own o)
      clear o
      clear b
      have C := rEqual_any B2 B3 l1.length lw.length d2 d3 l1 lw _ HR2.out HR3.out (by omega) (by omega)
      rw [decide_eq_true (Of.one' HO1.out HOw.out (fun n => HOw.out.has n))] at C
      replace C := Lib.hid C
      go_wp2_with fail
      with_reducible refine C.out.mono ?_
      rintro e v11 ⟨rfl, b⟩
      clear C
      replace HRx := Lib.hid (HRx.out.on b)
      replace HRy := Lib.hid (HRy.out.on b)
      replace HRw := Lib.hid (HRw.out.on b)
      replace HR1 := Lib.hid (HR1.out.on b)
      replace HR2 := Lib.hid (HR2.out.on b)
      replace HR3 := Lib.hid (HR3.out.on b)
      replace HB := Lib.hid (next HB.out b)
      clear b
      clear HR1 HR2 HR3
      clear HO1 hs1
      have C := Not_any Ax p0 cx a _ HRx.out (by omega)
      replace C := Lib.hid C
      go_wp2_with fail
      with_reducible refine C.out.mono ?_
      rintro e v12 ⟨B6, d6, l6, rfl, h, o, b⟩
      clear C
      replace HRx := Lib.hid (HRx.out.on b)
      replace HRy := Lib.hid (HRy.out.on b)
      replace HRw := Lib.hid (HRw.out.on b)
      replace HB := Lib.hid (next HB.out b)
      have HR6 := Lib.hid (RowR.own o)
      have HO6 := Lib.hid h
      have hs6 := h.1.short
      clear o h
      clear b
      have C := Not_any B6 l6.length d6 l6 _ HR6.out (by omega)
      replace C := Lib.hid C
      go_wp2_with fail
      with_reducible refine C.out.mono ?_
      rintro e v13 ⟨B7, d7, l7, rfl, h, o, b⟩
      clear C
      replace HRx := Lib.hid (HRx.out.on b)
      replace HRy := Lib.hid (HRy.out.on b)
      replace HRw := Lib.hid (HRw.out.on b)
      replace HR6 := Lib.hid (HR6.out.on b)
      replace HB := Lib.hid (next HB.out b)
      have HR7 := Lib.hid (RowR.own o)
      have HO7 := Lib.hid h
      have hs7 := h.1.short
      clear o h
      clear b
      have C := ranges_any B7 l7.length d7 l7 _ HR7.out (by omega)
      replace C := Lib.hid C
      go_wp2_with fail
      with_reducible refine C.out.mono ?_
      rintro e v14 ⟨B2, d2, rfl, o, b⟩
      clear C
      replace HRx := Lib.hid (HRx.out.on b)
      replace HRy := Lib.hid (HRy.out.on b)
      replace HRw := Lib.hid (HRw.out.on b)
      replace HR6 := Lib.hid (HR6.out.on b)
      replace HR7 := Lib.hid (HR7.out.on b)
      replace HB := Lib.hid (next HB.out b)
      have HR2 := Lib.hid (RowR.own o)
      clear o
      clear b
      have C := ranges_any Aw lw.length cw lw _ HRw.out (by omega)
      replace C := Lib.hid C
      go_wp2_with fail
      with_reducible refine C.out.mono ?_
      rintro e v15 ⟨B3, d3, rfl, o, b⟩
      clear C
      replace HRx := Lib.hid (HRx.out.on b)
      replace HRy := Lib.hid (HRy.out.on b)
      replace HRw := Lib.hid (HRw.out.on b)
      replace HR6 := Lib.hid (HR6.out.on b)
      replace HR7 := Lib.hid (HR7.out.on b)
      replace HR2 := Lib.hid (HR2.out.on b)
      replace HB := Lib.hid (next HB.out b)
      have HR3 := Lib.hid (RowR.own o)
      clear o
      clear b
      have C := rEqual_any B2 B3 l7.length lw.length d2 d3 l7 lw _ HR2.out HR3.out (by omega) (by omega)
      rw [decide_eq_true (not_not HO6.out HO7.out HOw.out)] at C
      replace C := Lib.hid C
      go_wp2_with fail
      with_reducible refine C.out.mono ?_
      rintro e v16 ⟨rfl, b⟩
      clear C
      replace HRx := Lib.hid (HRx.out.on b)
      replace HRy := Lib.hid (HRy.out.on b)
      replace HRw := Lib.hid (HRw.out.on b)
      replace HR6 := Lib.hid (HR6.out.on b)
      replace HR7 := Lib.hid (HR7.out.on b)
      replace HR2 := Lib.hid (HR2.out.on b)
      replace HR3 := Lib.hid (HR3.out.on b)
      replace HB := Lib.hid (next HB.out b)
      clear b
      clear HR6 HR7 HR2 HR3
      clear HO6 HO7 hs6 hs7
      have hB := new_below v16 (.cells #[.slice Ax p0 cx, .slice Ay p1 cy] 24)
      have C := Join_any (some ⟨v16.heap.size, 0, none⟩) 2 2 [a, b] _ (SetsR.two HRx.out HRy.out cx cy 24) (by omega) (by simp [HLa.out, HLb.out]; omega)
      replace HRx := Lib.hid (HRx.out.on hB)
      replace HRy := Lib.hid (HRy.out.on hB)
      replace HRw := Lib.hid (HRw.out.on hB)
      replace HB := Lib.hid (next HB.out hB)
      clear hB
      replace C := Lib.hid C
      go_wp2_with fail
      with_reducible refine C.out.mono ?_
      rintro e v17 ⟨Aj, cj, lj, rfl, h, o, b⟩
      clear C
      replace HRx := Lib.hid (HRx.out.on b)
      replace HRy := Lib.hid (HRy.out.on b)
      replace HRw := Lib.hid (HRw.out.on b)
      replace HB := Lib.hid (next HB.out b)
      have HRj := Lib.hid (RowR.own o)
      have HOj := Lib.hid h
      have hsj := h.1.short
      clear o h b
      have C := Not_any Aj lj.length cj lj _ HRj.out (by omega)
      replace C := Lib.hid C
      go_wp2_with fail
      with_reducible refine C.out.mono ?_
      rintro e v18 ⟨An, cn, ln, rfl, h, o, b⟩
      clear C
      replace HRx := Lib.hid (HRx.out.on b)
      replace HRy := Lib.hid (HRy.out.on b)
      replace HRw := Lib.hid (HRw.out.on b)
      replace HRj := Lib.hid (HRj.out.on b)
      replace HB := Lib.hid (next HB.out b)
      have HRn := Lib.hid (RowR.own o)
      have HOn := Lib.hid h
      have hsn := h.1.short
      clear o h
      clear b
      have C := ranges_any An ln.length cn ln _ HRn.out (by omega)
      replace C := Lib.hid C
      go_wp2_with fail
      with_reducible refine C.out.mono ?_
      rintro e v19 ⟨B2, d2, rfl, o, b⟩
      clear C
      replace HRx := Lib.hid (HRx.out.on b)
      replace HRy := Lib.hid (HRy.out.on b)
      replace HRw := Lib.hid (HRw.out.on b)
      replace HRj := Lib.hid (HRj.out.on b)
      replace HRn := Lib.hid (HRn.out.on b)
      replace HB := Lib.hid (next HB.out b)
      have HR2 := Lib.hid (RowR.own o)
      clear o
      clear b
      clear HRj HRn
      have C := Not_any Ax p0 cx a _ HRx.out (by omega)
      replace C := Lib.hid C
      go_wp2_with fail
      with_reducible refine C.out.mono ?_
      rintro e v20 ⟨B8, d8, l8, rfl, h, o, b⟩
      clear C
      replace HRx := Lib.hid (HRx.out.on b)
      replace HRy := Lib.hid (HRy.out.on b)
      replace HRw := Lib.hid (HRw.out.on b)
      replace HR2 := Lib.hid (HR2.out.on b)
      replace HB := Lib.hid (next HB.out b)
      have HR8 := Lib.hid (RowR.own o)
      have HO8 := Lib.hid h
      have hs8 := h.1.short
      clear o h
      clear b
      have C := Not_any Ay p1 cy b _ HRy.out (by omega)
      replace C := Lib.hid C
      go_wp2_with fail
      with_reducible refine C.out.mono ?_
      rintro e v21 ⟨B9, d9, l9, rfl, h, o, b⟩
      clear C
      replace HRx := Lib.hid (HRx.out.on b)
      replace HRy := Lib.hid (HRy.out.on b)
      replace HRw := Lib.hid (HRw.out.on b)
      replace HR2 := Lib.hid (HR2.out.on b)
      replace HR8 := Lib.hid (HR8.out.on b)
      replace HB := Lib.hid (next HB.out b)
      have HR9 := Lib.hid (RowR.own o)
      have HO9 := Lib.hid h
      have hs9 := h.1.short
      clear o h
      clear b
      have C := Both_any B8 B9 l8.length l9.length d8 d9 l8 l9 _ HR8.out HR9.out (by omega) (by omega)
      replace C := Lib.hid C
      go_wp2_with fail
      with_reducible refine C.out.mono ?_
      rintro e v22 ⟨Ao, co, lo, rfl, h, o, b⟩
      clear C
      replace HRx := Lib.hid (HRx.out.on b)
      replace HRy := Lib.hid (HRy.out.on b)
      replace HRw := Lib.hid (HRw.out.on b)
      replace HR2 := Lib.hid (HR2.out.on b)
      replace HR8 := Lib.hid (HR8.out.on b)
      replace HR9 := Lib.hid (HR9.out.on b)
      replace HB := Lib.hid (next HB.out b)
      have HRo := Lib.hid (RowR.own o)
      have HOo := Lib.hid h
      have hso := h.1.short
      clear o h
      clear b
      have C := ranges_any Ao lo.length co lo _ HRo.out (by omega)
      replace C := Lib.hid C
      go_wp2_with fail
      with_reducible refine C.out.mono ?_
      rintro e v23 ⟨B3, d3, rfl, o, b⟩
      clear C
      replace HRx := Lib.hid (HRx.out.on b)
      replace HRy := Lib.hid (HRy.out.on b)
      replace HRw := Lib.hid (HRw.out.on b)
      replace HR2 := Lib.hid (HR2.out.on b)
      replace HR8 := Lib.hid (HR8.out.on b)
      replace HR9 := Lib.hid (HR9.out.on b)
      replace HRo := Lib.hid (HRo.out.on b)
      replace HB := Lib.hid (next HB.out b)
      have HR3 := Lib.hid (RowR.own o)
      clear o
      clear b
      have C := rEqual_any B2 B3 ln.length lo.length d2 d3 ln lo _ HR2.out HR3.out (by omega) (by omega)
      rw [decide_eq_true (not_join HOj.out HOn.out HO8.out HO9.out HOo.out)] at C
      replace C := Lib.hid C
      go_wp2_with fail
      with_reducible refine C.out.mono ?_
      rintro e v24 ⟨rfl, b⟩
      clear C
      replace HRx := Lib.hid (HRx.out.on b)
      replace HRy := Lib.hid (HRy.out.on b)
      replace HRw := Lib.hid (HRw.out.on b)
      replace HR2 := Lib.hid (HR2.out.on b)
      replace HR8 := Lib.hid (HR8.out.on b)
      replace HR9 := Lib.hid (HR9.out.on b)
      replace HRo := Lib.hid (HRo.out.on b)
      replace HR3 := Lib.hid (HR3.out.on b)
      replace HB := Lib.hid (next HB.out b)
      clear b
      clear HR2 HR8 HR9 HRo HR3
      clear HOj HOn HO8 HO9 HOo hsj hsn hs8 hs9 hso
      have HT : Hid (∀ x y, Of (has a) x → Of (has lw) y → decide (x = y) = true) := Lib.hid (fun x y g1 g2 => decide_eq_true (Of.one' g1 g2 (fun n => (HOw.out.has n).symm)))
      have C := Same_any Ax Aw p0 lw.length cx cw a lw _ HRx.out HRw.out (by omega) (by omega)
      replace C := Lib.hid C
      go_wp2_with fail
      with_reducible refine C.out.mono ?_
      rintro e v25 ⟨⟨x1, x2, g1, g2, rfl⟩, b⟩
      clear C
      replace HRx := Lib.hid (HRx.out.on b)
      replace HRy := Lib.hid (HRy.out.on b)
      replace HRw := Lib.hid (HRw.out.on b)
      replace HB := Lib.hid (next HB.out b)
      rw [HT.out x1 x2 g1 g2]
      clear g1 g2 HT
      clear b
      have hB := new_below v25 (.cells #[.slice Ax p0 cx, .slice Ay p1 cy] 24)
      have C := Join_any (some ⟨v25.heap.size, 0, none⟩) 2 2 [a, b] _ (SetsR.two HRx.out HRy.out cx cy 24) (by omega) (by simp [HLa.out, HLb.out]; omega)
      replace HRx := Lib.hid (HRx.out.on hB)
      replace HRy := Lib.hid (HRy.out.on hB)
      replace HRw := Lib.hid (HRw.out.on hB)
      replace HB := Lib.hid (next HB.out hB)
      clear hB
      replace C := Lib.hid C
      go_wp2_with fail
      with_reducible refine C.out.mono ?_
      rintro e v26 ⟨Aj, cj, lj, rfl, h, o, b⟩
      clear C
      replace HRx := Lib.hid (HRx.out.on b)
      replace HRy := Lib.hid (HRy.out.on b)
      replace HRw := Lib.hid (HRw.out.on b)
      replace HB := Lib.hid (next HB.out b)
      have HRj := Lib.hid (RowR.own o)
      have HOj := Lib.hid h
      have hsj := h.1.short
      clear o h b
      have hB := new_below v26 (.cells #[.slice Ay p1 cy, .slice Ax p0 cx] 24)
      have C := Join_any (some ⟨v26.heap.size, 0, none⟩) 2 2 [b, a] _ (SetsR.two HRy.out HRx.out cy cx 24) (by omega) (by simp [HLa.out, HLb.out]; omega)
      replace HRx := Lib.hid (HRx.out.on hB)
      replace HRy := Lib.hid (HRy.out.on hB)
      replace HRw := Lib.hid (HRw.out.on hB)
      replace HRj := Lib.hid (HRj.out.on hB)
      replace HB := Lib.hid (next HB.out hB)
      clear hB
      replace C := Lib.hid C
      go_wp2_with fail
      with_reducible refine C.out.mono ?_
      rintro e v27 ⟨Am, cm, lm, rfl, h, o, b⟩
      clear C
      replace HRx := Lib.hid (HRx.out.on b)
      replace HRy := Lib.hid (HRy.out.on b)
      replace HRw := Lib.hid (HRw.out.on b)
      replace HRj := Lib.hid (HRj.out.on b)
      replace HB := Lib.hid (next HB.out b)
      have HRm := Lib.hid (RowR.own o)
      have HOm := Lib.hid h
      have hsm := h.1.short
      clear o h b
      have HT : Hid (∀ x y, Of (has lj) x → Of (has lm) y → decide (x = y) = true) := Lib.hid (fun x y g1 g2 => decide_eq_true (Of.one' g1 g2 (fun n => (HOj.out.has n).trans ((has_swap a b n).trans (HOm.out.has n).symm))))
      have C := Same_any Aj Am lj.length lm.length cj cm lj lm _ HRj.out HRm.out (by omega) (by omega)
      replace C := Lib.hid C
      go_wp2_with fail
      with_reducible refine C.out.mono ?_
      rintro e v28 ⟨⟨x3, x4, g1, g2, rfl⟩, b⟩
      clear C
      replace HRx := Lib.hid (HRx.out.on b)
      replace HRy := Lib.hid (HRy.out.on b)
      replace HRw := Lib.hid (HRw.out.on b)
      replace HRj := Lib.hid (HRj.out.on b)
      replace HRm := Lib.hid (HRm.out.on b)
      replace HB := Lib.hid (next HB.out b)
      rw [HT.out x3 x4 g1 g2]
      clear g1 g2 HT
      clear b
      have C := awake_any v28
      replace C := Lib.hid C
      go_wp2_with fail
      with_reducible refine C.out.mono ?_
      rintro e v29 ⟨rfl, b⟩
      clear C
      replace HRx := Lib.hid (HRx.out.on b)
      replace HRy := Lib.hid (HRy.out.on b)
      replace HRw := Lib.hid (HRw.out.on b)
      replace HRj := Lib.hid (HRj.out.on b)
      replace HRm := Lib.hid (HRm.out.on b)
      replace HB := Lib.hid (next HB.out b)
      clear b
      clear HRx HRy HRw HRj HRm
      go_wp2_with fail
      go_ret
      exact ⟨rfl, HB.out⟩
    · obtain ⟨i, hi⟩ : ∃ i, j = i + 1 := ⟨j - 1, by omega⟩
      have hki : k = (i : Int) := by have := HK.out; omega
      subst hki
      have hlt : i < p0 := by omega
      obtain ⟨b', off, rfl, hbB, hc⟩ := HRx.out.2 (by omega)
      obtain ⟨c1', c2'⟩ := hc i hlt
      replace c1' := (hb.cell (p := ⟨b', off + i * 2, none⟩) hbB).trans c1'
      replace c2' := (hb.cell (p := ⟨b', off + i * 2 + 1, none⟩) hbB).trans c2'
      obtain ⟨y, hy⟩ : ∃ y, a.getD i (0, 0) = y := ⟨_, rfl⟩
      have HM2 : Hid (∀ x, x ∈ B ++ [y, y] ↔ x ∈ a.drop i) := Lib.hid (fun x => by
        rw [drop_memR (by rw [HLa.out]; exact hlt), hy, List.mem_append, HM.out x, hi]
        simp [or_comm])
      have HL2 : Hid ((B ++ [y, y]).length + 2 * i = 2 * p0) := Lib.hid (by have := HL.out; rw [List.length_append]; simp only [List.length_cons, List.length_nil]; omega)
      have hBl : B.length ≤ 30 := by have := HL.out; omega
      rw [hy] at c1' c2'
      obtain ⟨x1, x2⟩ := y
      dsimp only at c1' c2'
      obtain ⟨k', hk'⟩ : ∃ k', (i : Int) - 1 = k' := ⟨_, rfl⟩
      have wk' : IntKind.i64.wrap ((i : Int) - 1) = k' := by rw [← hk']; exact wrap_ok (by omega) (by omega)
      have HK' : Hid (k' = (i : Int) - 1) := Lib.hid hk'.symm
      have g0 : (0 : Int) ≤ (i : Int) := by omega
      have g1 : (i : Int) < (p0 : Int) := by omega
      have f1 : decide ((0 : Int) ≤ (i : Int)) = true := decide_eq_true g0
      have ag : Value.ownBlock u8 ≠ some b' := fun h => by have := (hown.lt b' h).1; omega
      have hwb : b' < wr.heap.size := by have := hb.size; omega
      have hbs := hb.size
      have HBr := Lib.hid hb
      clear hc hy hb hk' hi hj hj0 HK HM HL wk HK0
      go_wp2_with fail
      go_region_held3 (fun w' => w'.cell? ⟨b', off + i * 2, none⟩ = some (.int .i64 x1) ∧ w'.cell? ⟨b', off + i * 2 + 1, none⟩ = some (.int .i64 x2))
        (first
          | go_keep
          | (go_split_ands
             refine ⟨?_, ?_⟩
             · (rw [hgrow.cell_far _ (by simp; omega) (Ne.symm ag)]; assumption)
             · (rw [hgrow.cell_far _ (by simp; omega) (Ne.symm ag)]; assumption)))
        ((refine step_append_lies _ (by rfl) _ _ _ (by rfl) v3.heap.size 47 i0' _ 2 16 Try.underlying24 hi0 hz0 hz1 hz2 rfl (by omega) u8 B.length (cR B) (by rfl) ((hown.alloc _).drew)
            ⟨wr.heap.size, 0, none⟩ 2 2 [.int .i64 x1, .int .i64 x2, .int .i64 x1, .int .i64 x2] (by rfl) (by rfl) (World.news_of_block (cs := #[.int .i64 x1, .int .i64 x2, .int .i64 x1, .int .i64 x2]) (t := 47) (fr := (0, 0)) (heap_alloc_new wr _)) (by simp [Value.oneCell'])
            (by omega) (by unfold maxLen; omega) (by omega) (by simp; omega) (wr.heap.size + 1) (by simp) ?_; intro gg cap w1 hown1 hgrow hat hlt2))
      all_goals
        have hb2 : Below v3.heap.size v3 w1 := ((HBr.out.alloc HBr.out.size _).drew).grown hgrow (by show _ ≤ (wr.alloc _).heap.size; simp; omega) (fun k hk => (hown.lt k hk).1)
        have hown2 : w1.ownsRow v3.heap.size 47 2 (.slice (some ⟨gg, 0, none⟩) (B.length + 2) cap) (B ++ [(x1, x2), (x1, x2)]).length (cR (B ++ [(x1, x2), (x1, x2)])) := by
          rw [cR_app, List.length_append]; exact hown1
        clear hown hown1 hgrow hat hlt2 HBr ag
        go_wp2_with fail
        exact ⟨⟨i, k', _, by omega, rfl, HK', HM2, HL2, hown2, hb2⟩, by have := HK'.out; simp [intOf]; omega⟩
end Go.Proofs.Ytjnnaafkdgoflaa
