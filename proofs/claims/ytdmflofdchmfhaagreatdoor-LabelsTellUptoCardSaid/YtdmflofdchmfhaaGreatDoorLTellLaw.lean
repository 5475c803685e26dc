/- LabelsTell, walked. -/
import Derived.Test.YtdmflofdchmfhaaGreatDoorLZKeyP
import Derived.Test.YtdmflofdchmfhaaGreatDoorLZTextP
import Derived.Test.YtdmflofdchmfhaaGreatDoorLZTextM
import Derived.Test.YtdmflofdchmfhaaGreatDoorLZGet
import Derived.Test.YtdmflofdchmfhaaGreatDoorLZCmp
import Derived.Test.YtdmflofdchmfhaaGreatDoorLZOf
import Derived.Test.YtdmflofdchmfhaaGreatDoorLZClean
import Derived.Test.YtdmflofdchmfhaaGreatDoorLWorks
import Derived.Test.YtdmflofdchmfhaaGreatDoorLCmp2
import Derived.Test.YtdmflofdchmfhaaGreatDoorLStore
namespace Go.Proofs.YtdmflofdchmfhaaGreatDoor
open Go.RowKit Go.Shelf Go.Lib

/-- The names of n labels may be written, in memory from B on. -/
def WrN (B : Nat) (w : World) (A : Option Addr) (n : Nat) : Prop :=
  0 < n → ∃ g off, A = some ⟨g, off, none⟩ ∧ B ≤ g ∧ g < w.heap.size ∧ ∀ j, j < n → (∃ u, w.cell? ⟨g, off + j * 2, none⟩ = some u) ∧ w.frozen? ⟨g, off + j * 2, none⟩ = false
theorem WrN.own {w : World} {B n c : Nat} {e : TypeId} {A : Option Addr} {l : List Lb} (h : w.ownsRow B e 2 (.slice A n c) n (cL l)) : WrN B w A n := by
  intro h0
  have hl : l.length = n := by have := h.1; rw [cL_len] at this; omega
  obtain ⟨g, cap', hv, _, hlt⟩ := h.form h0
  injection hv with hA
  subst hA
  have hb := h.lt g rfl
  refine ⟨g, 0, rfl, hb.1, hb.2, fun j hj => ?_⟩
  have hg := cL_get l j (by omega)
  rw [Nat.zero_add]
  exact ⟨⟨_, (h.cellAt (j * 2) (by omega)).trans hg.1⟩, h.frozenAt _⟩
theorem WrN.on {B : Nat} {w w' : World} {A : Option Addr} {n : Nat} (h : WrN B w A n) (hb : Below w.heap.size w w') : WrN B w' A n := fun h0 => by
  obtain ⟨g, off, e, h1, h2, h3⟩ := h h0
  refine ⟨g, off, e, h1, Nat.lt_of_lt_of_le h2 hb.size, fun j hj => ?_⟩
  obtain ⟨⟨u, hu⟩, hf⟩ := h3 j hj
  exact ⟨⟨u, (hb.cell (p := ⟨g, off + j * 2, none⟩) h2).trans hu⟩, (by simpa only [World.frozen?, hb.block g h2] using hf)⟩
theorem WrN.put {B : Nat} {w : World} {A : Option Addr} {n : Nat} (h : WrN B w A n) (a : Addr) (v : Value) : WrN B (w.setCell a v) A n := fun h0 => by
  obtain ⟨g, off, e, h1, h2, h3⟩ := h h0
  refine ⟨g, off, e, h1, by rw [World.size_setCell]; exact h2, fun j hj => ?_⟩
  obtain ⟨⟨u, hu⟩, hf⟩ := h3 j hj
  refine ⟨?_, by rw [World.frozen?_setCell]; exact hf⟩
  by_cases k : a = ⟨g, off + j * 2, none⟩
  · subst k
    exact ⟨v, World.cell?_setCell_same _ _ _ hu⟩
  · exact ⟨u, (World.cell?_setCell_other _ _ _ _ k).trans hu⟩
theorem of_own (A : Option Addr) (n c : Nat) (l l' : List Lb) (m : Nat) (z : Int) (w : World) (hr : RowL w w.heap.size A n l) (hn : n ≤ 1000000) (h : ofL nmS l = (l', z)) (hm : l'.length = m) : Calls Tryz.prog 5 #[.slice A n c] w
    fun e w' => ∃ A' c', e = .returned (.tuple #[.slice A' m c', .int .i64 z]) ∧ w'.ownsRow w.heap.size 29 2 (.slice A' m c') m (cL l') ∧ Below w.heap.size w w' :=
  (Of_any A n c l w hr hn).mono fun e w' k => by
    subst hm
    obtain ⟨A', c', rfl, o, b⟩ := k
    rw [h] at o ⊢
    exact ⟨A', c', rfl, o, b⟩
theorem rof_rl (A : Option Addr) (n c : Nat) (l l' : List Lb) (m : Nat) (z : Int) (w : World) (hr : RowL w w.heap.size A n l) (hn : n ≤ 1000000) (h : ofL nmS l = (l', z)) (hm : l'.length = m) : Calls Tryz.prog 6 #[.slice A n c] w
    fun e w' => ∃ A' c', e = .returned (.tuple #[.slice A' m c', .int .i64 z]) ∧ RowL w' w'.heap.size A' m l' ∧ Below w.heap.size w w' :=
  (rOfL_any A n c l w hr hn).mono fun e w' k => by
    subst hm
    obtain ⟨A', c', rfl, o, b⟩ := k
    rw [h] at o ⊢
    exact ⟨A', c', rfl, o, b⟩
theorem ofL_len (l : List Lb) : (ofL nmS l).1.length ≤ l.length := by
  unfold ofL
  split
  · split
    · exact sortL_len _ l rfl
    · simp
  · simp
theorem RowL.of_pairsM {M : Nat} {w : World} {a : Addr} {n : Nat} {V0 V1 : Nat → Value} (h : ∀ i, i < n → w.cell? (a.add (i * 2)) = some (V0 i) ∧ w.cell? (a.add (i * 2 + 1)) = some (V1 i) ∧ ∃ s t : ByteArray, V0 i = .string s ∧ V1 i = .string t ∧ s.size ≤ M ∧ t.size ≤ M) :
    ∃ l : List Lb, l.length = n ∧ RowL w w.heap.size (some a) n l ∧ ∀ x ∈ l, x.1.size ≤ M ∧ x.2.size ≤ M := by
  have h' : ∀ i, i < n → ∃ q : Lb, (w.cell? (a.add (i * 2)) = some (.string q.1) ∧ w.cell? (a.add (i * 2 + 1)) = some (.string q.2)) ∧ q.1.size ≤ M ∧ q.2.size ≤ M := fun i hi => by
    obtain ⟨h1, h2, s, t, e1, e2, e3⟩ := h i hi
    exact ⟨(s, t), ⟨by rw [h1, e1], by rw [h2, e2]⟩, e3⟩
  obtain ⟨q, hq⟩ := Go.Deep.choose_lt h'
  refine ⟨(List.range n).map q, by simp, ⟨by simp, fun h0 => ?_⟩, fun e he => ?_⟩
  · obtain ⟨b, off, spot⟩ := a
    have hspot : spot = none := by simpa [Addr.add] using World.cell?_spot (hq 0 h0).1.1
    subst hspot
    obtain ⟨⟨h1, _⟩, _⟩ := hq 0 h0
    rw [addr_addL] at h1
    refine ⟨b, off, rfl, World.block_lt_of_cell? w _ h1, fun j hj => ?_⟩
    obtain ⟨⟨h1, h2⟩, _⟩ := hq j hj
    rw [addr_addL] at h1 h2
    rw [show ((List.range n).map q).getD j noL = q j by simp [List.getD_eq_getElem?_getD, hj]]
    exact ⟨h1, h2⟩
  · obtain ⟨i, hi, rfl⟩ := List.mem_map.1 he
    exact (hq i (List.mem_range.1 hi)).2
set_option maxRecDepth 100000 in
set_option maxHeartbeats 16000000 in
theorem LabelsTell_walk (A0 : Option Addr) (l0 : List Lb) (c0 : Nat) (A1 : Option Addr) (l1 : List Lb) (c1 : Nat) (s0 : ByteArray) (w : World)
    (hr0 : RowL w w.heap.size A0 l0.length l0) (hc0 : l0.length ≤ c0) (hz0 : ∀ x ∈ l0, x.1.size ≤ 1048576 ∧ x.2.size ≤ 1048576)
    (hr1 : RowL w w.heap.size A1 l1.length l1) (hc1 : l1.length ≤ c1) (_hz1 : ∀ x ∈ l1, x.1.size ≤ 1048576 ∧ x.2.size ≤ 1048576) (hs0 : s0.size ≤ 140737488351232) (hT : Tab w) :
    Calls Tryz.prog 3 #[.slice A0 l0.length c0, .slice A1 l1.length c1, .string s0] w fun e w' => e = .returned (.bool true) ∧ Below w.heap.size w w' := by
  obtain ⟨n0, hn0⟩ : ∃ n, l0.length = n := ⟨_, rfl⟩
  obtain ⟨n1, hn1⟩ : ∃ n, l1.length = n := ⟨_, rfl⟩
  obtain ⟨l, hl⟩ : ∃ a, l0.take 40 = a := ⟨_, rfl⟩
  obtain ⟨mm, hmm⟩ : ∃ a, l1.take 40 = a := ⟨_, rfl⟩
  obtain ⟨p0, hp0⟩ : ∃ p, l.length = p := ⟨_, rfl⟩
  obtain ⟨p1, hp1⟩ : ∃ p, mm.length = p := ⟨_, rfl⟩
  have hmin0 : min n0 40 = p0 := by rw [← hp0, ← hl, List.length_take, hn0, Nat.min_comm]
  have hmin1 : min n1 40 = p1 := by rw [← hp1, ← hmm, List.length_take, hn1, Nat.min_comm]
  have HRl : Hid (RowL w w.heap.size A0 p0 l) := Lib.hid (by
    have h := RowL.take hr0 (k := p0) (by omega)
    rwa [show l0.take p0 = l by rw [← hl, ← hmin0, ← hn0, Nat.min_comm, List.take_eq_take_min (i := 40)]] at h)
  have HRm : Hid (RowL w w.heap.size A1 p1 mm) := Lib.hid (by
    have h := RowL.take hr1 (k := p1) (by omega)
    rwa [show l1.take p1 = mm by rw [← hmm, ← hmin1, ← hn1, Nat.min_comm, List.take_eq_take_min (i := 40)]] at h)
  have HZ : Hid (∀ x ∈ l, x.1.size ≤ 2000000 ∧ x.2.size ≤ 2000000) := Lib.hid (fun x hx => have h := hz0 x (by rw [← hl] at hx; exact List.mem_of_mem_take hx); ⟨by omega, by omega⟩)
  obtain ⟨k, hk⟩ : ∃ k : Nat, min (s0.size : Int) 300 = (k : Int) := ⟨min s0.size 300, by omega⟩
  have hk2 : (k : Int) ≤ (s0.size : Int) := by omega
  have hk0 : (0 : Int) ≤ (k : Int) := by omega
  obtain ⟨t, ht⟩ : ∃ t, s0.extract 0 k = t := ⟨_, rfl⟩
  have hts : t.size ≤ 300 := by rw [← ht, ByteArray.size_extract]; omega
  have HTS := Lib.hid hts
  have HT := Lib.hid hT
  have hp40 : p0 ≤ 40 := by omega
  have hq40 : p1 ≤ 40 := by omega
  have HL := Lib.hid hp0
  have i0 : min (n0 : Int) 40 = (p0 : Int) := by omega
  have i1 : min (n1 : Int) 40 = (p1 : Int) := by omega
  have hnc0 : n0 ≤ c0 := by omega
  have hnc1 : n1 ≤ c1 := by omega
  have hpc0 : p0 ≤ c0 := by omega
  have hpc1 : p1 ≤ c1 := by omega
  have j0 : (p0 : Int) ≤ (c0 : Int) := by omega
  have j1 : (p1 : Int) ≤ (c1 : Int) := by omega
  have k0 : (0 : Int) ≤ (p0 : Int) := by omega
  have k1 : (0 : Int) ≤ (p1 : Int) := by omega
  rw [hn0, hn1]
  obtain ⟨ov, oz, hov⟩ : ∃ a b, ofL nmS l = (a, b) := ⟨_, _, rfl⟩
  obtain ⟨on, hon⟩ : ∃ n, ov.length = n := ⟨_, rfl⟩
  have hon40 : on ≤ 40 := by have h := ofL_len l; rw [hov, hon] at h; omega
  have HOV := Lib.hid hov
  have HON := Lib.hid hon
  have ez : (oz == oz) = true := beq_self_eq_true _
  clear hr0 hc0 hr1 hc1 hmin0 hmin1 hn0 hn1 hl hmm hp0 hp1 hz0 hov hon hT hs0 hts
  have HB := Lib.hid (Below.refl w.heap.size w)
  go_enter Tryz.func3, Tryz.ntmps3
  go_wp2_with fail
  go_quiet (fail)
  have b := Below.dn (Below.refl w.heap.size w) nq
  replace HRl := Lib.hid (HRl.out.on b)
  replace HRm := Lib.hid (HRm.out.on b)
  replace HB := Lib.hid (next HB.out b)
  clear i0 i1 hnc0 hnc1 hpc0 hpc1 j0 j1 k0 k1 b hk hk2 hk0 ht
  obtain ⟨w0, hw0⟩ : ∃ x, w.drewN nq = x := ⟨_, rfl⟩
  rw [hw0] at HRl HRm HB ⊢
  clear hw0
  have C := (Copy_any A0 p0 c0 l w0 HRl.out (by omega)).mono fun _ _ k => k.rl rfl HL.out
  replace C := Lib.hid C
  go_wp2_with fail
  with_reducible refine C.out.mono ?_
  rintro e v1 ⟨Ai, ci, rfl, r, hni, hci, b⟩
  clear C
  replace HRl := Lib.hid (HRl.out.on b)
  replace HRm := Lib.hid (HRm.out.on b)
  replace HB := Lib.hid (next HB.out b)
  have HRi := Lib.hid r
  clear r
  clear b
  have HRi2 := HRi
  have HRl2 := HRl
  have HRm2 := HRm
  have HBV2 : Hid (Below v1.heap.size v1 v1) := Lib.hid (Below.refl _ _)
  have C := of_own Ai p0 ci l ov on oz v1 HRi.out (by omega) HOV.out HON.out
  replace C := Lib.hid C
  go_wp2_with fail
  with_reducible refine C.out.mono ?_
  rintro e v2 ⟨Aa, ca, rfl, r, b⟩
  clear C
  replace HRl := Lib.hid (HRl.out.on b)
  replace HRm := Lib.hid (HRm.out.on b)
  replace HRi := Lib.hid (HRi.out.on b)
  replace HBV2 := Lib.hid (next HBV2.out b)
  have HWa : Hid (WrN v1.heap.size v2 Aa on) := Lib.hid (WrN.own r)
  have HRa := Lib.hid (RowL.own r)
  clear r
  clear b
  have C := rof_rl A0 p0 c0 l ov on oz v2 HRl.out (by omega) HOV.out HON.out
  replace C := Lib.hid C
  go_wp2_with fail
  with_reducible refine C.out.mono ?_
  rintro e v3 ⟨Ab, cb, rfl, r, b⟩
  clear C
  replace HRl := Lib.hid (HRl.out.on b)
  replace HRm := Lib.hid (HRm.out.on b)
  replace HRi := Lib.hid (HRi.out.on b)
  replace HRa := Lib.hid (HRa.out.on b)
  replace HWa := Lib.hid (HWa.out.on b)
  replace HBV2 := Lib.hid (next HBV2.out b)
  have HRb := Lib.hid r
  clear r
  clear b
  have C := eq_yes Aa Ab on ca cb ov v3 HRa.out HRb.out (by omega)
  replace C := Lib.hid C
  go_wp2_with fail
  with_reducible refine C.out.mono ?_
  rintro e v4 ⟨rfl, b⟩
  clear C
  replace HRl := Lib.hid (HRl.out.on b)
  replace HRm := Lib.hid (HRm.out.on b)
  replace HRi := Lib.hid (HRi.out.on b)
  replace HRa := Lib.hid (HRa.out.on b)
  replace HRb := Lib.hid (HRb.out.on b)
  replace HWa := Lib.hid (HWa.out.on b)
  replace HBV2 := Lib.hid (next HBV2.out b)
  clear b
  clear HRa HRb
  clear HRl HRm HRi
  go_wp2_with fail
  go_loopw [12] (fun p wr => ∃ i : Nat, i ≤ on ∧ p = .int .i64 (i : Int) ∧ Hid (WrN v1.heap.size wr Aa on) ∧ Hid (Below v1.heap.size v1 wr)) (fun p _ => on - (intOf p).toNat)
  case atStart => exact ⟨0, by omega, rfl, HWa, HBV2⟩
  case round =>
    clear HWa HBV2
    obtain ⟨i, hi, rfl, HWa, HBV2⟩ := hrel
    by_cases hlt : i < on
    · have f1 : decide ((i : Int) < (on : Int)) = true := decide_eq_true (by omega)
      obtain ⟨g, off, hA, hBg, hgl, hc⟩ := HWa.out (by omega)
      subst hA
      obtain ⟨⟨u, hu⟩, hf⟩ := hc i hlt
      have HW2 := Lib.hid (fun (a : Addr) (v : Value) => HWa.out.put a v)
      have HB2 := Lib.hid (fun (v : Value) => HBV2.out.setCell (p := ⟨g, off + i * 2, none⟩) hBg v)
      have g0 : (0 : Int) ≤ (i : Int) := by omega
      have g1 : (i : Int) < (on : Int) := by omega
      have HKi := Lib.hid hlt
      clear hc hlt HWa HBV2 hgl hBg
      go_wp2_with fail
      exact ⟨⟨i + 1, HKi.out, by go_num, Lib.hid (HW2.out _ _), Lib.hid (HB2.out _)⟩, by have := HKi.out; simp [intOf]; omega⟩
    · obtain rfl : i = on := by omega
      have f1 : decide ((i : Int) < (i : Int)) = false := decide_eq_false (by omega)
      clear hlt hi
      have HRi := Lib.hid (HRi2.out.on HBV2.out)
      have HRl := Lib.hid (HRl2.out.on HBV2.out)
      have HRm := Lib.hid (HRm2.out.on HBV2.out)
      replace HBV2 := Lib.hid (next HB.out HBV2.out)
      have HTc := Lib.hid (HT.out.below HBV2.out)
      clear HWa HRi2 HRl2 HRm2 HB HT
      obtain ⟨qn, hqn⟩ : ∃ x, nmS t = x := ⟨_, rfl⟩
      have tqn0 : (qn == qn) = true := beq_self_eq_true _
      have C := IsName_any t wr
      rw [hqn] at C
      replace C := Lib.hid C
      go_wp2_with fail
      with_reducible refine C.out.mono ?_
      rintro e v5 ⟨rfl, b⟩
      clear C
      replace HRi := Lib.hid (HRi.out.on b)
      replace HRl := Lib.hid (HRl.out.on b)
      replace HRm := Lib.hid (HRm.out.on b)
      replace HTc := Lib.hid (HTc.out.below b)
      replace HBV2 := Lib.hid (next HBV2.out b)
      clear b
      have C := (rIsName_any t v5).mono (R' := fun e w' => e = .returned (.bool (nmS t)) ∧ Below (v5).heap.size (v5) w') (fun _ _ h => ⟨h.1, h.2 ▸ Below.refl _ _⟩)
      rw [hqn] at C
      replace C := Lib.hid C
      go_wp2_with fail
      with_reducible refine C.out.mono ?_
      rintro e v6 ⟨rfl, b⟩
      clear C
      replace HRi := Lib.hid (HRi.out.on b)
      replace HRl := Lib.hid (HRl.out.on b)
      replace HRm := Lib.hid (HRm.out.on b)
      replace HTc := Lib.hid (HTc.out.below b)
      replace HBV2 := Lib.hid (next HBV2.out b)
      clear b
      obtain ⟨kc, hkc⟩ : ∃ x, chkL nmS l = x := ⟨_, rfl⟩
      have tkc0 : (kc == kc) = true := beq_self_eq_true _
      have C := Check_any Ai p0 ci l v6 HRi.out (by omega)
      rw [hkc] at C
      replace C := Lib.hid C
      go_wp2_with fail
      with_reducible refine C.out.mono ?_
      rintro e v7 ⟨rfl, b⟩
      clear C
      replace HRi := Lib.hid (HRi.out.on b)
      replace HRl := Lib.hid (HRl.out.on b)
      replace HRm := Lib.hid (HRm.out.on b)
      replace HTc := Lib.hid (HTc.out.below b)
      replace HBV2 := Lib.hid (next HBV2.out b)
      clear b
      have C := rChkL_any A0 p0 c0 l v7 HRl.out (by omega)
      rw [hkc] at C
      replace C := Lib.hid C
      go_wp2_with fail
      with_reducible refine C.out.mono ?_
      rintro e v8 ⟨rfl, b⟩
      clear C
      replace HRi := Lib.hid (HRi.out.on b)
      replace HRl := Lib.hid (HRl.out.on b)
      replace HRm := Lib.hid (HRm.out.on b)
      replace HTc := Lib.hid (HTc.out.below b)
      replace HBV2 := Lib.hid (next HBV2.out b)
      clear b
      obtain ⟨gv, hgv⟩ : ∃ x, getL l t = x := ⟨_, rfl⟩
      have tgv0 : (gv.toList == gv.toList) = true := beq_self_eq_true _
      have C := Get_any Ai p0 ci l t v8 HRi.out (by omega)
      rw [hgv] at C
      replace C := Lib.hid C
      go_wp2_with fail
      with_reducible refine C.out.mono ?_
      rintro e v9 ⟨rfl, b⟩
      clear C
      replace HRi := Lib.hid (HRi.out.on b)
      replace HRl := Lib.hid (HRl.out.on b)
      replace HRm := Lib.hid (HRm.out.on b)
      replace HTc := Lib.hid (HTc.out.below b)
      replace HBV2 := Lib.hid (next HBV2.out b)
      clear b
      have C := (rGet_any A0 p0 c0 l t v9 HRl.out (by omega)).mono (R' := fun e w' => e = .returned (.string (getL l t)) ∧ Below (v9).heap.size (v9) w') (fun _ _ h => ⟨h.1, h.2 ▸ Below.refl _ _⟩)
      rw [hgv] at C
      replace C := Lib.hid C
      go_wp2_with fail
      with_reducible refine C.out.mono ?_
      rintro e v10 ⟨rfl, b⟩
      clear C
      replace HRi := Lib.hid (HRi.out.on b)
      replace HRl := Lib.hid (HRl.out.on b)
      replace HRm := Lib.hid (HRm.out.on b)
      replace HTc := Lib.hid (HTc.out.below b)
      replace HBV2 := Lib.hid (next HBV2.out b)
      clear b
      obtain ⟨cv, hcv⟩ : ∃ x, ofl (cleanB (bl t)) = x := ⟨_, rfl⟩
      have tcv0 : (cv.toList == cv.toList) = true := beq_self_eq_true _
      have C := Clean_any t v10
      rw [hcv] at C
      replace C := Lib.hid C
      go_wp2_with fail
      with_reducible refine C.out.mono ?_
      rintro e v11 ⟨rfl, b⟩
      clear C
      replace HRi := Lib.hid (HRi.out.on b)
      replace HRl := Lib.hid (HRl.out.on b)
      replace HRm := Lib.hid (HRm.out.on b)
      replace HTc := Lib.hid (HTc.out.below b)
      replace HBV2 := Lib.hid (next HBV2.out b)
      clear b
      have C := rClean_any t (by have := HTS.out; omega) v11
      rw [hcv] at C
      replace C := Lib.hid C
      go_wp2_with fail
      with_reducible refine C.out.mono ?_
      rintro e v12 ⟨rfl, b⟩
      clear C
      replace HRi := Lib.hid (HRi.out.on b)
      replace HRl := Lib.hid (HRl.out.on b)
      replace HRm := Lib.hid (HRm.out.on b)
      replace HTc := Lib.hid (HTc.out.below b)
      replace HBV2 := Lib.hid (next HBV2.out b)
      clear b
      obtain ⟨cm, hcm⟩ : ∃ x, cmpL l mm = x := ⟨_, rfl⟩
      have tcm0 : (cm == cm) = true := beq_self_eq_true _
      have C := Compare_any Ai A1 p0 p1 ci c1 l mm v12 HRi.out HRm.out (by omega) (by omega)
      rw [hcm] at C
      replace C := Lib.hid C
      go_wp2_with fail
      with_reducible refine C.out.mono ?_
      rintro e v13 ⟨rfl, b⟩
      clear C
      replace HRi := Lib.hid (HRi.out.on b)
      replace HRl := Lib.hid (HRl.out.on b)
      replace HRm := Lib.hid (HRm.out.on b)
      replace HTc := Lib.hid (HTc.out.below b)
      replace HBV2 := Lib.hid (next HBV2.out b)
      clear b
      have C := rCompare_any A0 A1 p0 p1 c0 c1 l mm v13 HRl.out HRm.out (by omega) (by omega)
      rw [hcm] at C
      replace C := Lib.hid C
      go_wp2_with fail
      with_reducible refine C.out.mono ?_
      rintro e v14 ⟨rfl, b⟩
      clear C
      replace HRi := Lib.hid (HRi.out.on b)
      replace HRl := Lib.hid (HRl.out.on b)
      replace HRm := Lib.hid (HRm.out.on b)
      replace HTc := Lib.hid (HTc.out.below b)
      replace HBV2 := Lib.hid (next HBV2.out b)
      clear b
      obtain ⟨sm, hsm⟩ : ∃ x, decide (l = mm) = x := ⟨_, rfl⟩
      have tsm0 : (sm == sm) = true := beq_self_eq_true _
      have C := Same_any Ai A1 p0 p1 ci c1 l mm v14 HRi.out HRm.out (by omega) (by omega)
      rw [hsm] at C
      replace C := Lib.hid C
      go_wp2_with fail
      with_reducible refine C.out.mono ?_
      rintro e v15 ⟨rfl, b⟩
      clear C
      replace HRi := Lib.hid (HRi.out.on b)
      replace HRl := Lib.hid (HRl.out.on b)
      replace HRm := Lib.hid (HRm.out.on b)
      replace HTc := Lib.hid (HTc.out.below b)
      replace HBV2 := Lib.hid (next HBV2.out b)
      clear b
      have C := rSame_any A0 A1 p0 p1 c0 c1 l mm v15 HRl.out HRm.out (by omega) (by omega)
      rw [hsm] at C
      replace C := Lib.hid C
      go_wp2_with fail
      with_reducible refine C.out.mono ?_
      rintro e v16 ⟨rfl, b⟩
      clear C
      replace HRi := Lib.hid (HRi.out.on b)
      replace HRl := Lib.hid (HRl.out.on b)
      replace HRm := Lib.hid (HRm.out.on b)
      replace HTc := Lib.hid (HTc.out.below b)
      replace HBV2 := Lib.hid (next HBV2.out b)
      clear b
      have htx : ofl (tkZ l p0 ++ [125]) = textS l := by rw [text_eq, HL.out]
      obtain ⟨tv, htv⟩ : ∃ x, textS l = x := ⟨_, rfl⟩
      have ttv0 : (tv.toList == tv.toList) = true := beq_self_eq_true _
      have C := TextW_any Ai p0 ci l v16 HRi.out (by omega) HZ.out
      rw [htv] at C
      replace C := Lib.hid C
      go_wp2_with fail
      with_reducible refine C.out.mono ?_
      rintro e v17 ⟨rfl, b⟩
      clear C
      replace HRi := Lib.hid (HRi.out.on b)
      replace HRl := Lib.hid (HRl.out.on b)
      replace HRm := Lib.hid (HRm.out.on b)
      replace HTc := Lib.hid (HTc.out.below b)
      replace HBV2 := Lib.hid (next HBV2.out b)
      clear b
      have C := rTextL_any A0 p0 c0 l v17 HRl.out (by omega) HZ.out
      rw [htx] at C
      rw [htv] at C
      replace C := Lib.hid C
      go_wp2_with fail
      with_reducible refine C.out.mono ?_
      rintro e v18 ⟨rfl, b⟩
      clear C
      replace HRi := Lib.hid (HRi.out.on b)
      replace HRl := Lib.hid (HRl.out.on b)
      replace HRm := Lib.hid (HRm.out.on b)
      replace HTc := Lib.hid (HTc.out.below b)
      replace HBV2 := Lib.hid (next HBV2.out b)
      clear b
      obtain ⟨kv, hkv⟩ : ∃ x, ofl (keyL l) = x := ⟨_, rfl⟩
      have tkv0 : (kv.toList == kv.toList) = true := beq_self_eq_true _
      have C := KeyW_any Ai p0 ci l v18 HRi.out (by omega) HZ.out HTc.out
      rw [hkv] at C
      replace C := Lib.hid C
      go_wp2_with fail
      with_reducible refine C.out.mono ?_
      rintro e v19 ⟨rfl, b⟩
      clear C
      replace HRi := Lib.hid (HRi.out.on b)
      replace HRl := Lib.hid (HRl.out.on b)
      replace HRm := Lib.hid (HRm.out.on b)
      replace HTc := Lib.hid (HTc.out.below b)
      replace HBV2 := Lib.hid (next HBV2.out b)
      clear b
      have C := rKey_any A0 p0 c0 l v19 HRl.out (by omega) HZ.out
      rw [hkv] at C
      replace C := Lib.hid C
      go_wp2_with fail
      with_reducible refine C.out.mono ?_
      rintro e v20 ⟨rfl, b⟩
      clear C
      replace HRi := Lib.hid (HRi.out.on b)
      replace HRl := Lib.hid (HRl.out.on b)
      replace HRm := Lib.hid (HRm.out.on b)
      replace HTc := Lib.hid (HTc.out.below b)
      replace HBV2 := Lib.hid (next HBV2.out b)
      clear b
      have C := eq_yes Ai A0 p0 ci c0 l v20 HRi.out HRl.out (by omega)
      replace C := Lib.hid C
      go_wp2_with fail
      with_reducible refine C.out.mono ?_
      rintro e v21 ⟨rfl, b⟩
      clear C
      replace HRi := Lib.hid (HRi.out.on b)
      replace HRl := Lib.hid (HRl.out.on b)
      replace HRm := Lib.hid (HRm.out.on b)
      replace HTc := Lib.hid (HTc.out.below b)
      replace HBV2 := Lib.hid (next HBV2.out b)
      clear b
      have C := works_any v21
      replace C := Lib.hid C
      go_wp2_with fail
      with_reducible refine C.out.mono ?_
      rintro e v22 ⟨rfl, b⟩
      clear C
      replace HRi := Lib.hid (HRi.out.on b)
      replace HRl := Lib.hid (HRl.out.on b)
      replace HRm := Lib.hid (HRm.out.on b)
      replace HTc := Lib.hid (HTc.out.below b)
      replace HBV2 := Lib.hid (next HBV2.out b)
      clear b
      go_wp2_with fail
      go_ret
      exact ⟨rfl, HBV2.out⟩
end Go.Proofs.YtdmflofdchmfhaaGreatDoor
