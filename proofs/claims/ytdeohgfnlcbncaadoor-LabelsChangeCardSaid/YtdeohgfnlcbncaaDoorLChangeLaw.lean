/- LabelsChange, walked. -/
import Derived.Test.YtdeohgfnlcbncaaDoorLCleanLaw
import Derived.Test.YtdeohgfnlcbncaaDoorLPartM
import Derived.Test.YtdeohgfnlcbncaaDoorLStore
namespace Go.Proofs.YtdeohgfnlcbncaaDoor
open Go.RowKit Go.Shelf Go.Lib

theorem RowL.cells {w : World} {B b : Nat} {x y : ByteArray} (h : RowL w B (some ⟨b, 0, none⟩) 1 [(x, y)]) : w.cell? ⟨b, 0, none⟩ = some (.string x) ∧ w.cell? ⟨b, 1, none⟩ = some (.string y) := by
  obtain ⟨b', off, e, _, hc⟩ := h.2 (by omega)
  injection e with e
  injection e with e1 e2
  subst e1
  subst e2
  exact hc 0 (by omega)
set_option maxRecDepth 100000 in
set_option maxHeartbeats 16000000 in
theorem LabelsChange_walk (A0 : Option Addr) (l0 : List Lb) (c0 : Nat) (A1 : Option Addr) (ss0 : List ByteArray) (c1 : Nat) (x1 x2 : ByteArray) (w : World)
    (hr0 : RowL w w.heap.size A0 l0.length l0) (hc0 : l0.length ≤ c0) (hz0 : ∀ x ∈ l0, x.1.size ≤ maxLen ∧ x.2.size ≤ maxLen)
    (hr1 : Row w w.heap.size A1 ss0.length (strs ss0)) (hc1 : ss0.length ≤ c1) (hz1 : ∀ s ∈ ss0, s.size ≤ maxLen) (_hT : Tab w) :
    Calls Tryd.prog 3 #[.slice A0 l0.length c0, .slice A1 ss0.length c1, .agg #[.string x1, .string x2]] w fun e w' => e = .returned (.bool true) ∧ Below w.heap.size w w' := by
  obtain ⟨n0, hn0⟩ : ∃ n, l0.length = n := ⟨_, rfl⟩
  obtain ⟨n1, hn1⟩ : ∃ n, ss0.length = n := ⟨_, rfl⟩
  obtain ⟨l, hl⟩ : ∃ a, l0.take 40 = a := ⟨_, rfl⟩
  obtain ⟨ss, hss⟩ : ∃ a, ss0.take 20 = a := ⟨_, rfl⟩
  obtain ⟨p0, hp0⟩ : ∃ p, l.length = p := ⟨_, rfl⟩
  obtain ⟨p1, hp1⟩ : ∃ p, ss.length = p := ⟨_, rfl⟩
  have hmin0 : min n0 40 = p0 := by rw [← hp0, ← hl, List.length_take, hn0, Nat.min_comm]
  have hmin1 : min n1 20 = p1 := by rw [← hp1, ← hss, List.length_take, hn1, Nat.min_comm]
  have HRl : Hid (RowL w w.heap.size A0 p0 l) := Lib.hid (by
    have h := RowL.take hr0 (k := p0) (by omega)
    rwa [show l0.take p0 = l by rw [← hl, ← hmin0, ← hn0, Nat.min_comm, List.take_eq_take_min (i := 40)]] at h)
  have HRn : Hid (Row w w.heap.size A1 p1 (strs ss)) := Lib.hid (by
    have h := Row.takeS hr1 (k := p1) (by omega)
    rwa [show ss0.take p1 = ss by rw [← hss, ← hmin1, ← hn1, Nat.min_comm, List.take_eq_take_min (i := 20)]] at h)
  have HZ0 : Hid (∀ x ∈ l, x.1.size ≤ maxLen) := Lib.hid (fun x hx => (hz0 x (by rw [← hl] at hx; exact List.mem_of_mem_take hx)).1)
  have HZ1 : Hid (∀ s ∈ ss, s.size ≤ maxLen) := Lib.hid (fun x hx => hz1 x (by rw [← hss] at hx; exact List.mem_of_mem_take hx))
  have hp40 : p0 ≤ 40 := by omega
  have hq20 : p1 ≤ 20 := by omega
  have HL := Lib.hid hp0
  have i0 : min (n0 : Int) 40 = (p0 : Int) := by omega
  have i1 : min (n1 : Int) 20 = (p1 : Int) := by omega
  have hnc0 : n0 ≤ c0 := by omega
  have hnc1 : n1 ≤ c1 := by omega
  have hpc0 : p0 ≤ c0 := by omega
  have hpc1 : p1 ≤ c1 := by omega
  have j0 : (p0 : Int) ≤ (c0 : Int) := by omega
  have j1 : (p1 : Int) ≤ (c1 : Int) := by omega
  have k0 : (0 : Int) ≤ (p0 : Int) := by omega
  have k1 : (0 : Int) ≤ (p1 : Int) := by omega
  rw [hn0, hn1]
  obtain ⟨sv, hsv⟩ : ∃ s, setL l x1 x2 = s := ⟨_, rfl⟩
  obtain ⟨dv, hdv⟩ : ∃ s, pickL l (notName x1) = s := ⟨_, rfl⟩
  obtain ⟨bv, hbv⟩ : ∃ s, pickL l (chosen ss true) = s := ⟨_, rfl⟩
  obtain ⟨wv, hwv⟩ : ∃ s, pickL l (chosen ss false) = s := ⟨_, rfl⟩
  have m1 : sv.length ≤ 41 := by rw [← hsv]; exact Nat.le_trans (set_len x1 x2) (by omega)
  have m2 : dv.length ≤ 40 := by rw [← hdv]; exact Nat.le_trans (pick_len _ _) (by omega)
  have m3 : bv.length ≤ 40 := by rw [← hbv]; exact Nat.le_trans (pick_len _ _) (by omega)
  have m4 : wv.length ≤ 40 := by rw [← hwv]; exact Nat.le_trans (pick_len _ _) (by omega)
  have HSV := Lib.hid hsv
  have HDV := Lib.hid hdv
  have HBV := Lib.hid hbv
  have HWV := Lib.hid hwv
  clear hr0 hc0 hr1 hc1 hmin0 hmin1 hn0 hn1 hl hss hp0 hp1 hz0 hz1 hsv hdv hbv hwv
  have HB := Lib.hid (((Below.refl w.heap.size w).alloc (Nat.le_refl _) (.cells #[.string x1, .string x2] 25)))
  have HRq := Lib.hid (RowL.one' w 25 x1 x2)
  replace HRl := Lib.hid (HRl.out.on HB.out)
  replace HRn := Lib.hid (HRn.out.on HB.out)
  go_enter Tryd.func3, Tryd.ntmps3
  go_wp2_with fail
  go_quiet (fail)
  have b := Below.dn (Below.refl (w.alloc (.cells #[.string x1, .string x2] 25)).heap.size (w.alloc (.cells #[.string x1, .string x2] 25))) nq
  replace HRl := Lib.hid (HRl.out.on b)
  replace HRn := Lib.hid (HRn.out.on b)
  replace HRq := Lib.hid (HRq.out.on b)
  replace HB := Lib.hid (next HB.out b)
  clear i0 i1 hnc0 hnc1 hpc0 hpc1 j0 j1 k0 k1 b
  obtain ⟨w0, hw0⟩ : ∃ x, (w.alloc (.cells #[.string x1, .string x2] 25)).drewN nq = x := ⟨_, rfl⟩
  rw [hw0] at HRl HRn HRq HB ⊢
  clear hw0
  have C := (Copy_any A0 p0 c0 l w0 HRl.out (by omega)).mono fun _ _ k => k.rl rfl HL.out
  replace C := Lib.hid C
  go_wp2_with fail
  with_reducible refine C.out.mono ?_
  rintro e v1 ⟨Ai, ci, rfl, r, hni, hci, b⟩
  clear C
  replace HRl := Lib.hid (HRl.out.on b)
  replace HRn := Lib.hid (HRn.out.on b)
  replace HRq := Lib.hid (HRq.out.on b)
  replace HB := Lib.hid (next HB.out b)
  have HRi := Lib.hid r
  clear r
  clear b
  have HRi2 := HRi
  have HRl2 := HRl
  have HBV2 : Hid (Below v1.heap.size v1 v1) := Lib.hid (Below.refl _ _)
  have HQ := Lib.hid (fun W (hb : Below v1.heap.size v1 W) => (HRq.out.on hb).cells)
  have HK1 := Lib.hid (fun W (hb : Below v1.heap.size v1 W) => Set_any Ai p0 ci l x1 x2 W (HRi.out.on hb) (by omega) hni hci)
  have HK2 := Lib.hid (fun W (hb : Below v1.heap.size v1 W) => Drop_any Ai p0 ci l x1 W (HRi.out.on hb) (by omega))
  have HK3 := Lib.hid (fun W (hb : Below v1.heap.size v1 W) => By_any Ai A1 p0 p1 ci c1 l ss W (HRi.out.on hb) (HRn.out.on hb) (by omega) (by omega) HZ1.out HZ0.out)
  have HK4 := Lib.hid (fun W (hb : Below v1.heap.size v1 W) => Without_any Ai A1 p0 p1 ci c1 l ss W (HRi.out.on hb) (HRn.out.on hb) (by omega) (by omega) HZ1.out HZ0.out)
  have hbd : Below v1.heap.size v1 v1.drew := (Below.refl _ _).drew
  rw [HSV.out] at HK1
  rw [HDV.out] at HK2
  rw [HBV.out] at HK3
  rw [HWV.out] at HK4
  go_wp2_with fail
  go_region_held3 (fun v => v.cell? ⟨w.heap.size, 0, none⟩ = some (.string x1) ∧ v.cell? ⟨w.heap.size, 1, none⟩ = some (.string x2))
    (first | exact HQ.out _ hbd | exact HQ.out _ hb4 | exact HQ.out _ hb3 | exact HQ.out _ hb2 | exact HQ.out _ hb1)
    ((first
      | (go_at_call 10
         with_reducible refine (HK1.out _ hbd).mono ?_
         rintro e s1 ⟨Aa, ca, rfl, o1, b1⟩
         have hb1 := next hbd b1)
      | (go_at_call 11
         with_reducible refine (HK2.out _ hb1).mono ?_
         rintro e s2 ⟨Ab, cb, rfl, o2, b2⟩
         have hb2 := next hb1 b2)
      | (go_at_call 12
         with_reducible refine (HK3.out _ hb2).mono ?_
         rintro e s3 ⟨Ac, cc, rfl, o3, b3⟩
         have hb3 := next hb2 b3)
      | (go_at_call 13
         with_reducible refine (HK4.out _ hb3).mono ?_
         rintro e s4 ⟨Ad, cd, rfl, o4, b4⟩
         have hb4 := next hb3 b4)))
  have HWa : Hid (Wr v1.heap.size s4 Aa sv.length) := Lib.hid ((((Wr.own o1).on b2).on b3).on b4)
  have HWb : Hid (Wr v1.heap.size s4 Ab dv.length) := Lib.hid (((((Wr.own o2).low hb1.size)).on b3).on b4)
  have HWd : Hid (Wr v1.heap.size s4 Ad wv.length) := Lib.hid ((Wr.own o4).low hb3.size)
  have HRa := Lib.hid ((((RowL.own o1).on b2).on b3).on b4)
  have HRb := Lib.hid (((RowL.own o2).on b3).on b4)
  have HRc := Lib.hid ((RowL.own o3).on b4)
  have HRd := Lib.hid (RowL.own o4)
  replace HRl := Lib.hid (HRl.out.on hb4)
  replace HRn := Lib.hid (HRn.out.on hb4)
  replace HRq := Lib.hid (HRq.out.on hb4)
  replace HBV2 := Lib.hid hb4
  have HQ4 := Lib.hid (HQ.out _ hb4)
  clear o1 o2 o3 o4 b1 b2 b3 b4 hb1 hb2 hb3 hb4 hbd HK1 HK2 HK3 HK4 HRi HZ0 HZ1
  obtain ⟨q1, q2⟩ := HRq.out.cells
  have C := (rSet_any A0 p0 c0 l x1 x2 s4 HRl.out (by omega)).mono fun _ _ k => k.rl HSV.out rfl
  replace C := Lib.hid C
  go_wp2_with fail
  with_reducible refine C.out.mono ?_
  rintro e v2 ⟨Ae, ce, rfl, r, hne, hce, b⟩
  clear C
  replace HRl := Lib.hid (HRl.out.on b)
  replace HRn := Lib.hid (HRn.out.on b)
  replace HRq := Lib.hid (HRq.out.on b)
  replace HRa := Lib.hid (HRa.out.on b)
  replace HRb := Lib.hid (HRb.out.on b)
  replace HRc := Lib.hid (HRc.out.on b)
  replace HRd := Lib.hid (HRd.out.on b)
  replace HWa := Lib.hid (HWa.out.on b)
  replace HWb := Lib.hid (HWb.out.on b)
  replace HWd := Lib.hid (HWd.out.on b)
  replace HBV2 := Lib.hid (next HBV2.out b)
  have HRe := Lib.hid r
  clear r
  clear b
  clear q1 q2
  have C := eq_yes Aa Ae sv.length ca ce sv v2 HRa.out HRe.out (by omega)
  replace C := Lib.hid C
  go_wp2_with fail
  with_reducible refine C.out.mono ?_
  rintro e v3 ⟨rfl, b⟩
  clear C
  replace HRl := Lib.hid (HRl.out.on b)
  replace HRn := Lib.hid (HRn.out.on b)
  replace HRq := Lib.hid (HRq.out.on b)
  replace HRa := Lib.hid (HRa.out.on b)
  replace HRb := Lib.hid (HRb.out.on b)
  replace HRc := Lib.hid (HRc.out.on b)
  replace HRd := Lib.hid (HRd.out.on b)
  replace HRe := Lib.hid (HRe.out.on b)
  replace HWa := Lib.hid (HWa.out.on b)
  replace HWb := Lib.hid (HWb.out.on b)
  replace HWd := Lib.hid (HWd.out.on b)
  replace HBV2 := Lib.hid (next HBV2.out b)
  clear b
  clear HRa HRe
  obtain ⟨q1, q2⟩ := HRq.out.cells
  have C := (rDrop_any A0 p0 c0 l x1 v3 HRl.out (by omega)).mono fun _ _ k => k.rl HDV.out rfl
  replace C := Lib.hid C
  go_wp2_with fail
  with_reducible refine C.out.mono ?_
  rintro e v4 ⟨Af, cf, rfl, r, hnf, hcf, b⟩
  clear C
  replace HRl := Lib.hid (HRl.out.on b)
  replace HRn := Lib.hid (HRn.out.on b)
  replace HRq := Lib.hid (HRq.out.on b)
  replace HRb := Lib.hid (HRb.out.on b)
  replace HRc := Lib.hid (HRc.out.on b)
  replace HRd := Lib.hid (HRd.out.on b)
  replace HWa := Lib.hid (HWa.out.on b)
  replace HWb := Lib.hid (HWb.out.on b)
  replace HWd := Lib.hid (HWd.out.on b)
  replace HBV2 := Lib.hid (next HBV2.out b)
  have HRf := Lib.hid r
  clear r
  clear b
  clear q1 q2
  have C := eq_yes Ab Af dv.length cb cf dv v4 HRb.out HRf.out (by omega)
  replace C := Lib.hid C
  go_wp2_with fail
  with_reducible refine C.out.mono ?_
  rintro e v5 ⟨rfl, b⟩
  clear C
  replace HRl := Lib.hid (HRl.out.on b)
  replace HRn := Lib.hid (HRn.out.on b)
  replace HRq := Lib.hid (HRq.out.on b)
  replace HRb := Lib.hid (HRb.out.on b)
  replace HRc := Lib.hid (HRc.out.on b)
  replace HRd := Lib.hid (HRd.out.on b)
  replace HRf := Lib.hid (HRf.out.on b)
  replace HWa := Lib.hid (HWa.out.on b)
  replace HWb := Lib.hid (HWb.out.on b)
  replace HWd := Lib.hid (HWd.out.on b)
  replace HBV2 := Lib.hid (next HBV2.out b)
  clear b
  clear HRb HRf
  have C := (rBy_any A0 A1 p0 p1 c0 c1 l ss v5 HRl.out HRn.out (by omega) (by omega)).mono fun _ _ k => k.rl HBV.out rfl
  replace C := Lib.hid C
  go_wp2_with fail
  with_reducible refine C.out.mono ?_
  rintro e v6 ⟨Ag, cg, rfl, r, hng, hcg, b⟩
  clear C
  replace HRl := Lib.hid (HRl.out.on b)
  replace HRn := Lib.hid (HRn.out.on b)
  replace HRq := Lib.hid (HRq.out.on b)
  replace HRc := Lib.hid (HRc.out.on b)
  replace HRd := Lib.hid (HRd.out.on b)
  replace HWa := Lib.hid (HWa.out.on b)
  replace HWb := Lib.hid (HWb.out.on b)
  replace HWd := Lib.hid (HWd.out.on b)
  replace HBV2 := Lib.hid (next HBV2.out b)
  have HRg := Lib.hid r
  clear r
  clear b
  have C := eq_yes Ac Ag bv.length cc cg bv v6 HRc.out HRg.out (by omega)
  replace C := Lib.hid C
  go_wp2_with fail
  with_reducible refine C.out.mono ?_
  rintro e v7 ⟨rfl, b⟩
  clear C
  replace HRl := Lib.hid (HRl.out.on b)
  replace HRn := Lib.hid (HRn.out.on b)
  replace HRq := Lib.hid (HRq.out.on b)
  replace HRc := Lib.hid (HRc.out.on b)
  replace HRd := Lib.hid (HRd.out.on b)
  replace HRg := Lib.hid (HRg.out.on b)
  replace HWa := Lib.hid (HWa.out.on b)
  replace HWb := Lib.hid (HWb.out.on b)
  replace HWd := Lib.hid (HWd.out.on b)
  replace HBV2 := Lib.hid (next HBV2.out b)
  clear b
  clear HRc HRg
  have C := (rWithout_any A0 A1 p0 p1 c0 c1 l ss v7 HRl.out HRn.out (by omega) (by omega)).mono fun _ _ k => k.rl HWV.out rfl
  replace C := Lib.hid C
  go_wp2_with fail
  with_reducible refine C.out.mono ?_
  rintro e v8 ⟨Ah, ch, rfl, r, hnh, hch, b⟩
  clear C
  replace HRl := Lib.hid (HRl.out.on b)
  replace HRn := Lib.hid (HRn.out.on b)
  replace HRq := Lib.hid (HRq.out.on b)
  replace HRd := Lib.hid (HRd.out.on b)
  replace HWa := Lib.hid (HWa.out.on b)
  replace HWb := Lib.hid (HWb.out.on b)
  replace HWd := Lib.hid (HWd.out.on b)
  replace HBV2 := Lib.hid (next HBV2.out b)
  have HRh := Lib.hid r
  clear r
  clear b
  have C := eq_yes Ad Ah wv.length cd ch wv v8 HRd.out HRh.out (by omega)
  replace C := Lib.hid C
  go_wp2_with fail
  with_reducible refine C.out.mono ?_
  rintro e v9 ⟨rfl, b⟩
  clear C
  replace HRl := Lib.hid (HRl.out.on b)
  replace HRn := Lib.hid (HRn.out.on b)
  replace HRq := Lib.hid (HRq.out.on b)
  replace HRd := Lib.hid (HRd.out.on b)
  replace HRh := Lib.hid (HRh.out.on b)
  replace HWa := Lib.hid (HWa.out.on b)
  replace HWb := Lib.hid (HWb.out.on b)
  replace HWd := Lib.hid (HWd.out.on b)
  replace HBV2 := Lib.hid (next HBV2.out b)
  clear b
  clear HRd HRh
  clear HRl HRn HRq
  clear HQ HQ4
  go_wp2_with fail
  go_loopw [12] (fun p wr => ∃ i : Nat, i ≤ sv.length ∧ p = .int .i64 (i : Int) ∧ Hid (Wr v1.heap.size wr Aa sv.length) ∧ Hid (Wr v1.heap.size wr Ab dv.length) ∧ Hid (Wr v1.heap.size wr Ad wv.length) ∧ Hid (Below v1.heap.size v1 wr)) (fun p _ => sv.length - (intOf p).toNat)
  case atStart => exact ⟨0, by omega, rfl, HWa, HWb, HWd, HBV2⟩
  case round =>
    clear HWa HWb HWd HBV2
    obtain ⟨i, hi, rfl, HWa, HWb, HWd, HBV2⟩ := hrel
    by_cases hlt : i < sv.length
    · have f1 : decide ((i : Int) < (sv.length : Int)) = true := decide_eq_true (by omega)
      obtain ⟨g, off, hA, hBg, hgl, hc⟩ := HWa.out (by omega)
      subst hA
      obtain ⟨⟨u, hu⟩, hf⟩ := hc i hlt
      have HW2 := Lib.hid (fun (a : Addr) (v : Value) => And.intro (HWa.out.put a v) (And.intro (HWb.out.put a v) (HWd.out.put a v)))
      have HB2 := Lib.hid (fun (v : Value) => HBV2.out.setCell (p := ⟨g, off + i * 2 + 1, none⟩) hBg v)
      have g0 : (0 : Int) ≤ (i : Int) := by omega
      have g1 : (i : Int) < (sv.length : Int) := by omega
      have HKi := Lib.hid hlt
      clear hc hlt HWa HWb HWd HBV2 hgl hBg
      go_wp2_with fail
      exact ⟨⟨i + 1, HKi.out, by go_num, Lib.hid (HW2.out _ _).1, Lib.hid (HW2.out _ _).2.1, Lib.hid (HW2.out _ _).2.2, Lib.hid (HB2.out _)⟩, by have := HKi.out; simp [intOf]; omega⟩
    · obtain rfl : i = sv.length := by omega
      have f1 : decide ((sv.length : Int) < (sv.length : Int)) = false := decide_eq_false (by omega)
      clear hlt hi
      go_wp2_with fail
      go_loopw [13] (fun p wr => ∃ i : Nat, i ≤ dv.length ∧ p = .int .i64 (i : Int) ∧ Hid (Wr v1.heap.size wr Aa sv.length) ∧ Hid (Wr v1.heap.size wr Ab dv.length) ∧ Hid (Wr v1.heap.size wr Ad wv.length) ∧ Hid (Below v1.heap.size v1 wr)) (fun p _ => dv.length - (intOf p).toNat)
      case atStart => exact ⟨0, by omega, rfl, HWa, HWb, HWd, HBV2⟩
      case round =>
        clear HWa HWb HWd HBV2
        obtain ⟨i, hi, rfl, HWa, HWb, HWd, HBV2⟩ := hrel
        by_cases hlt : i < dv.length
        · have f1 : decide ((i : Int) < (dv.length : Int)) = true := decide_eq_true (by omega)
          obtain ⟨g, off, hA, hBg, hgl, hc⟩ := HWb.out (by omega)
          subst hA
          obtain ⟨⟨u, hu⟩, hf⟩ := hc i hlt
          have HW2 := Lib.hid (fun (a : Addr) (v : Value) => And.intro (HWa.out.put a v) (And.intro (HWb.out.put a v) (HWd.out.put a v)))
          have HB2 := Lib.hid (fun (v : Value) => HBV2.out.setCell (p := ⟨g, off + i * 2 + 1, none⟩) hBg v)
          have g0 : (0 : Int) ≤ (i : Int) := by omega
          have g1 : (i : Int) < (dv.length : Int) := by omega
          have HKi := Lib.hid hlt
          clear hc hlt HWa HWb HWd HBV2 hgl hBg
          go_wp2_with fail
          exact ⟨⟨i + 1, HKi.out, by go_num, Lib.hid (HW2.out _ _).1, Lib.hid (HW2.out _ _).2.1, Lib.hid (HW2.out _ _).2.2, Lib.hid (HB2.out _)⟩, by have := HKi.out; simp [intOf]; omega⟩
        · obtain rfl : i = dv.length := by omega
          have f1 : decide ((dv.length : Int) < (dv.length : Int)) = false := decide_eq_false (by omega)
          clear hlt hi
          go_wp2_with fail
          go_loopw [14] (fun p wr => ∃ i : Nat, i ≤ wv.length ∧ p = .int .i64 (i : Int) ∧ Hid (Wr v1.heap.size wr Aa sv.length) ∧ Hid (Wr v1.heap.size wr Ab dv.length) ∧ Hid (Wr v1.heap.size wr Ad wv.length) ∧ Hid (Below v1.heap.size v1 wr)) (fun p _ => wv.length - (intOf p).toNat)
          case atStart => exact ⟨0, by omega, rfl, HWa, HWb, HWd, HBV2⟩
          case round =>
            clear HWa HWb HWd HBV2
            obtain ⟨i, hi, rfl, HWa, HWb, HWd, HBV2⟩ := hrel
            by_cases hlt : i < wv.length
            · have f1 : decide ((i : Int) < (wv.length : Int)) = true := decide_eq_true (by omega)
              obtain ⟨g, off, hA, hBg, hgl, hc⟩ := HWd.out (by omega)
              subst hA
              obtain ⟨⟨u, hu⟩, hf⟩ := hc i hlt
              have HW2 := Lib.hid (fun (a : Addr) (v : Value) => And.intro (HWa.out.put a v) (And.intro (HWb.out.put a v) (HWd.out.put a v)))
              have HB2 := Lib.hid (fun (v : Value) => HBV2.out.setCell (p := ⟨g, off + i * 2 + 1, none⟩) hBg v)
              have g0 : (0 : Int) ≤ (i : Int) := by omega
              have g1 : (i : Int) < (wv.length : Int) := by omega
              have HKi := Lib.hid hlt
              clear hc hlt HWa HWb HWd HBV2 hgl hBg
              go_wp2_with fail
              exact ⟨⟨i + 1, HKi.out, by go_num, Lib.hid (HW2.out _ _).1, Lib.hid (HW2.out _ _).2.1, Lib.hid (HW2.out _ _).2.2, Lib.hid (HB2.out _)⟩, by have := HKi.out; simp [intOf]; omega⟩
            · obtain rfl : i = wv.length := by omega
              have f1 : decide ((wv.length : Int) < (wv.length : Int)) = false := decide_eq_false (by omega)
              clear hlt hi
              have HRi := Lib.hid (HRi2.out.on HBV2.out)
              have HRl := Lib.hid (HRl2.out.on HBV2.out)
              replace HBV2 := Lib.hid (next HB.out HBV2.out)
              clear HWa HWb HWd HRi2 HRl2 HB
              have C := eq_yes Ai A0 p0 ci c0 l _ HRi.out HRl.out (by omega)
              replace C := Lib.hid C
              go_wp2_with fail
              with_reducible refine C.out.mono ?_
              rintro e v10 ⟨rfl, b⟩
              clear C
              replace HRi := Lib.hid (HRi.out.on b)
              replace HRl := Lib.hid (HRl.out.on b)
              replace HBV2 := Lib.hid (next HBV2.out b)
              clear b
              clear HRi HRl
              have C := works_any v10
              replace C := Lib.hid C
              go_wp2_with fail
              with_reducible refine C.out.mono ?_
              rintro e v11 ⟨rfl, b⟩
              clear C
              replace HBV2 := Lib.hid (next HBV2.out b)
              clear b
              go_wp2_with fail
              go_ret
              exact ⟨rfl, HBV2.out⟩
end Go.Proofs.YtdeohgfnlcbncaaDoor
