/- CutsNames, walked. -/
import Derived.Test.YtomjdicedjdpnaaCNamesP
import Derived.Test.YtomjdicedjdpnaaCMatchLaw
import Derived.Test.YtomjdicedjdpnaaLBy
namespace Go.Proofs.Ytomjdicedjdpnaa
open Go.RowKit

theorem conv_row {P : Program} (v : World) (src dst e : TypeId) (b c : Nat) (l : List Nat) (hs : P.underlying src = some (.slice e)) (he : P.underlying e = some (.int .u8)) (hd : P.underlying dst = some .string) (hb : Byt l)
    (hc : ∀ j, j < l.length → v.cell? ⟨b, j, none⟩ = some (.int .u8 ((l.getD j 0 : Nat) : Int))) : (convert src dst (.slice (some ⟨b, 0, none⟩) l.length c)).run P v = .ok (.string (ofl l)) v := by
  have h := run_convert_bytes_back v src dst e ⟨b, 0, none⟩ c (l.map UInt8.ofNat) hs he hd (fun j hj => by
    rw [List.length_map] at hj
    rw [Addr.add_lit, Nat.zero_add, hc j hj]
    have hx := hb (l[j]) (List.getElem_mem hj)
    simp only [List.getElem_map, UInt8.toNat_ofNat', List.getD_eq_getElem?_getD, List.getElem?_eq_getElem hj, Option.getD_some]
    rw [Nat.mod_eq_of_lt (by omega)])
  rw [List.length_map] at h
  exact h
theorem own_on1 {w w' : World} {base n : Nat} {e : TypeId} {v : Value} {xs : List Value} (h : w.ownsRow base e 1 v n xs) (hb : Below w.heap.size w w') : w'.ownsRow base e 1 v n xs :=
  h.kept (row := none) ⟨hb.os, hb.tape, hb.output, hb.size, fun j hj _ => hb.block j hj⟩ (by rcases h : v.ownBlock with _ | g <;> simp)
theorem want_len (f : Nat → Bool) (k : Nat) : (wantK f k).length ≤ k := by
  unfold wantK
  rw [List.length_map]
  exact Nat.le_trans (List.length_filter_le _ _) (by simp)
theorem want_mem (f : Nat → Bool) {k : Nat} (h : k ≤ 20) : (∀ s ∈ wantK f k, s.size ≤ maxLen) ∧ (∀ x ∈ (itK (fun _ => true) k).filter told, x.1.size ≤ maxLen) ∧ ((itK (fun _ => true) k).filter told).length ≤ 20 ∧ ((itK f k).filter told).length ≤ 20 := by
  have e : ∀ i, (nmB i).size = 1 := fun i => rfl
  refine ⟨fun s hs => ?_, fun x hx => ?_, ?_, ?_⟩
  · unfold wantK at hs
    obtain ⟨i, _, rfl⟩ := List.mem_map.1 hs
    rw [e]; unfold maxLen; omega
  · have hx1 := (List.mem_filter.1 hx).1
    unfold itK at hx1
    obtain ⟨i, _, rfl⟩ := List.mem_map.1 hx1
    show (selB (fun _ => true) i).size ≤ maxLen
    unfold selB
    rw [if_pos rfl, e]; unfold maxLen; omega
  · exact Nat.le_trans (List.length_filter_le _ _) (by unfold itK; simpa using h)
  · exact Nat.le_trans (List.length_filter_le _ _) (by unfold itK; simpa using h)
theorem conv_nm (i : Nat) (hi : i < 20) (W : World) : (convert 41 9 (.slice (some ⟨W.heap.size, 0, none⟩) 1 1)).run Try.prog (W.alloc (.cells #[.int .u8 (97 + (i : Int))] 5)) = .ok (.string (nmB i)) (W.alloc (.cells #[.int .u8 (97 + (i : Int))] 5)) :=
  conv_row (P := Try.prog) (W.alloc (.cells #[.int .u8 (97 + (i : Int))] 5)) 41 9 5 W.heap.size 1 [97 + i] Try.underlying41 Try.underlying5 Try.underlying9 (Byt.cons (by omega) Byt.nil) (fun j hj => by
    have hj0 : j = 0 := by simpa using hj
    subst hj0
    rw [World.cell?_alloc_at _ _ _ _ (by simp)]; simp)
theorem rep_xs (k : Nat) (hk : k < 20) (w : World) : Calls Try.prog 24 #[.string ⟨#[120]⟩, .int .i64 (k : Int)] w fun e w' => e = .returned (.string (xs k)) ∧ Below w.heap.size w w' :=
  Try.strings_Repeat ⟨#[120]⟩ k w (by omega) (by show 1 * k ≤ _; omega)
set_option maxRecDepth 100000 in
set_option maxHeartbeats 8000000 in
theorem CutsNames_in (x y : Int) (w : World) (hx : (Lit.int .i64 x).wf = true) (_ : (Lit.int .i64 y).wf = true) (hM : MX w) :
    Calls Try.prog 6 #[.int .i64 x, .int .i64 y] w fun e w' => e = .returned (.bool true) ∧ Below w.heap.size w w' := by
  obtain ⟨f, hf⟩ : ∃ f : Nat → Bool, f = fun i => !(bits BinOp.and IntKind.i64 (y / 2 ^ i) 1 == 1) := ⟨_, rfl⟩
  have HFd : Hid (∀ k, f k = !(bits BinOp.and IntKind.i64 (y / 2 ^ k) 1 == 1)) := Lib.hid (fun k => by rw [hf])
  clear hf
  obtain ⟨i0, hi0, hz0, hz1, hz2⟩ := info_parts1 str_info1
  obtain ⟨n, hn⟩ : ∃ n : Nat, x % 20 = (n : Int) := ⟨(x % 20).toNat, by omega⟩
  have hn20 : n < 20 := by omega
  have C := Lib.hid (works_any w hM)
  have CB := Lib.hid (fun u => (show Calls Try.prog 23 #[.int .i64 x, .int .i64 20] u fun e w' => e = .returned (.int .i64 (n : Int)) ∧ u = w' from by have h := Bring_any x 20 u hx (by omega) (by omega); rwa [hn] at h))
  have HM := Lib.hid hM
  clear hM hx hn
  go_enter Try.func6, Try.ntmps6
  go_wp2_with fail
  with_reducible refine C.out.mono ?_
  rintro e w1 ⟨rfl, b1⟩
  have HB := Lib.hid b1
  replace HM := Lib.hid (HM.out.on b1)
  clear b1 C
  go_wp2_with fail
  with_reducible refine (CB.out _).mono ?_
  rintro e w2 ⟨rfl, rfl⟩
  clear CB
  go_wp2_with fail
  go_loopw [6, 7, 8, 9, 10] (fun p a l q i v => ∃ (k : Nat), k ≤ n ∧ i = .int .i64 (k : Int) ∧ p = .string (patK f k) ∧ a = .string (patK (fun _ => true) k) ∧ l = .string (lnK k) ∧ Hid (v.ownsRow w1.heap.size 9 1 q (wantK f k).length (strs (wantK f k))) ∧ Hid (Below w1.heap.size w1 v)) (fun _ _ _ _ i _ => n - (intOf i).toNat)
  case atStart => exact ⟨0, by omega, rfl, rfl, rfl, rfl, Lib.hid (World.ownsRow_nil _ _ _ _), Lib.hid (Below.refl _ _)⟩
  case round =>
    obtain ⟨k, hk, rfl, rfl, rfl, rfl, HO, HBw⟩ := hrel
    rename World => v
    obtain ⟨m, hm⟩ : ∃ m, (wantK f k).length = m := ⟨_, rfl⟩
    have hmk : m ≤ k := by rw [← hm]; exact want_len f k
    rw [hm] at HO
    have HMm := Lib.hid hm
    obtain ⟨Ao, co, ho⟩ := own_sliceS HO.out
    subst ho
    clear hm
    by_cases hlt : k < n
    · have g0 : (0 : Int) ≤ (k : Int) := by omega
      have g1 : (k : Int) < (n : Int) := by omega
      have f1 : decide ((k : Int) < (n : Int)) = true := decide_eq_true g1
      have hcv := fun W => conv_nm k (by omega) W
      have HR := Lib.hid (fun u => rep_xs k (by omega) u)
      have hnm := (nmB_all k (by omega))
      obtain ⟨nm, hnmE⟩ : ∃ z, nmB k = z := ⟨_, rfl⟩
      obtain ⟨xk, hxk⟩ : ∃ z, xs k = z := ⟨_, rfl⟩
      rw [hxk] at HR
      rw [hnmE] at hcv
      have szf := patK_size f (k := k) (by omega)
      have sza := patK_size (fun _ => true) (k := k) (by omega)
      have szl := lnK_size k (by omega)
      generalize hP : patK f k = P at szf ⊢
      generalize hA : patK (fun _ => true) k = A at sza ⊢
      generalize hL : lnK k = L at szl ⊢
      have nms : nm.size = 1 := by rw [← hnmE]; rfl
      have xks : xk.size ≤ 20 := by rw [← hxk]; exact hnm.2.2.2.2
      obtain ⟨A1, hA1⟩ : ∃ z, A ++ (⟨#[60]⟩ : ByteArray) = z := ⟨_, rfl⟩
      obtain ⟨A2, hA2⟩ : ∃ z, A1 ++ nm = z := ⟨_, rfl⟩
      obtain ⟨A3, hA3⟩ : ∃ z, A2 ++ (⟨#[62, 59]⟩ : ByteArray) = z := ⟨_, rfl⟩
      obtain ⟨P1, hP1⟩ : ∃ z, P ++ (⟨#[60]⟩ : ByteArray) = z := ⟨_, rfl⟩
      obtain ⟨P2, hP2⟩ : ∃ z, P1 ++ nm = z := ⟨_, rfl⟩
      obtain ⟨P3, hP3⟩ : ∃ z, P2 ++ (⟨#[62, 59]⟩ : ByteArray) = z := ⟨_, rfl⟩
      obtain ⟨P4, hP4⟩ : ∃ z, P ++ (⟨#[60, 95, 62, 59]⟩ : ByteArray) = z := ⟨_, rfl⟩
      obtain ⟨L1, hL1⟩ : ∃ z, L ++ xk = z := ⟨_, rfl⟩
      obtain ⟨L2, hL2⟩ : ∃ z, L1 ++ (⟨#[59]⟩ : ByteArray) = z := ⟨_, rfl⟩
      have y1 : A1.size = A.size + 1 := by rw [← hA1, ByteArray.size_append]; rfl
      have y2 : A2.size = A1.size + nm.size := by rw [← hA2, ByteArray.size_append]
      have y3 : P1.size = P.size + 1 := by rw [← hP1, ByteArray.size_append]; rfl
      have y4 : P2.size = P1.size + nm.size := by rw [← hP2, ByteArray.size_append]
      have y5 : L1.size = L.size + xk.size := by rw [← hL1, ByteArray.size_append]
      have q1 := add_runC _ _ _ hA1 (by show A.size + 1 ≤ _; omega)
      have q2 := add_runC _ _ _ hA2 (by omega)
      have q3 := add_runC _ _ _ hA3 (by show A2.size + 2 ≤ _; omega)
      have q4 := add_runC _ _ _ hP1 (by show P.size + 1 ≤ _; omega)
      have q5 := add_runC _ _ _ hP2 (by omega)
      have q6 := add_runC _ _ _ hP3 (by show P2.size + 2 ≤ _; omega)
      have q7 := add_runC _ _ _ hP4 (by show P.size + 4 ≤ _; omega)
      have q8 := add_runC _ _ _ hL1 (by omega)
      have q9 := add_runC _ _ _ hL2 (by show L1.size + 1 ≤ _; omega)
      have HE := Lib.hid (And.intro hA3 (And.intro hP3 (And.intro hP4 hL2)))
      have HE2 : Hid (A3 = patK (fun _ => true) (k + 1) ∧ L2 = lnK (k + 1) ∧ (f k = true → P3 = patK f (k + 1)) ∧ (f k = false → P4 = patK f (k + 1))) := Lib.hid (by
        refine ⟨?_, ?_, fun h => ?_, fun h => ?_⟩
        · rw [patK, hA, ← hA3, ← hA2, ← hA1, ← hnmE]; rfl
        · rw [lnK, hL, hxk, ← hL2, ← hL1]; rfl
        · rw [patK, hP, ← hP3, ← hP2, ← hP1, ← hnmE, selB, if_pos h]
        · rw [patK, hP, ← hP4, selB, if_neg (by rw [h]; decide)]
          simp only [ByteArray.append_assoc]; rfl)
      have hfk := HFd.out k
      have hws := wantK_succ f k
      rw [hnmE] at hws
      have HWS := Lib.hid hws
      have HK := Lib.hid hlt
      have HB1 := Lib.hid (HBw.out.alloc HBw.out.size (.cells #[.int .u8 (97 + (k : Int))] 5))
      have HO1 := Lib.hid (HO.out.alloc (.cells #[.int .u8 (97 + (k : Int))] 5))
      clear hws hnm y1 y2 y3 y4 y5 hA1 hA2 hA3 hP1 hP2 hP3 hP4 hL1 hL2 hP hA hL hxk hnmE HE szf sza szl nms xks hlt
      cases hq : (bits BinOp.and IntKind.i64 (y / 2 ^ k) 1 == 1) with
      | true =>
        rw [hq] at hfk
        have HF : Hid (f k = false) := Lib.hid hfk
        clear hfk
        go_wp2_with fail
        with_reducible refine (HR.out _).mono ?_
        rintro e v2 ⟨rfl, b2⟩
        have HB2 := Lib.hid (next HB1.out b2)
        have HO2 : Hid (v2.ownsRow w1.heap.size 9 1 (.slice Ao m co) (wantK f (k + 1)).length (strs (wantK f (k + 1)))) := Lib.hid (by
          rw [HWS.out, if_neg (by rw [HF.out]; decide), List.append_nil, HMm.out]
          exact own_on1 HO1.out b2)
        clear b2 HO1 HB1
        go_wp2_with fail
        obtain ⟨e1, e2, _, e3⟩ := HE2.out
        refine ⟨⟨k + 1, HK.out, by go_num, ?_, ?_, ?_, HO2, HB2⟩, by have := HK.out; simp [intOf]; omega⟩
        · rw [e3 HF.out]
        · rw [e1]
        · rw [e2]
      | false =>
        rw [hq] at hfk
        have HF : Hid (f k = true) := Lib.hid hfk
        clear hfk
        go_wp2_with fail
        with_reducible refine (HR.out _).mono ?_
        rintro e v2 ⟨rfl, b2⟩
        have HB2 := Lib.hid (next HB1.out b2)
        have HO2 := Lib.hid (own_on1 HO1.out b2)
        have hsz := HB2.out.size
        have hrow1 := Row.oneS v2 9 nm
        clear b2 HO1 HB1
        go_wp2_with (at_builtin; refine wpList_app _ rfl _ _ 22 rfl w1.heap.size 9 i0 (.string ByteArray.empty) 16 Try.underlying22 hi0 hz0 hz1 hz2 rfl _ m _ rfl (HO2.out.alloc _) _ _ 1 1 _ rfl hrow1 (strs_one1 [nm]) (by unfold maxLen; omega) (by omega) (by rw [World.size_alloc]; omega) ?_)
        intro v' w' ho _ hb
        have HO3 : Hid (w'.ownsRow w1.heap.size 9 1 v' (wantK f (k + 1)).length (strs (wantK f (k + 1)))) := Lib.hid (by
          rw [HWS.out, if_pos HF.out, List.length_append, HMm.out]
          simpa [strs] using ho)
        have HB3 := Lib.hid ((HB2.out.alloc hsz (.cells #[.string nm] 9)).trans hb)
        obtain ⟨A2', c2, e2⟩ := own_sliceS ho
        subst e2
        clear ho hb hsz hrow1
        go_wp2_with fail
        obtain ⟨e1, e2, e3, _⟩ := HE2.out
        refine ⟨⟨k + 1, HK.out, by go_num, ?_, ?_, ?_, HO3, HB3⟩, by have := HK.out; simp [intOf]; omega⟩
        · rw [e3 HF.out]
        · rw [e1]
        · rw [e2]
    · obtain rfl : k = n := by omega
      have f3 : ¬ ((k : Int) < (k : Int)) := by omega
      have f1 : decide ((k : Int) < (k : Int)) = false := decide_eq_false f3
      have HRow := Lib.hid (Row.own HO.out)
      replace HB := Lib.hid (next HB.out HBw.out)
      replace HM := Lib.hid (HM.out.on HBw.out)
      have sz1 := patK_size f (k := k) (by omega)
      have C := Lib.hid (New_any (patK f k) (by omega) v HM.out)
      have hok := ok_pat f (k := k) (by omega)
      clear HO HBw hk
      by_cases hw0 : wantK f k = []
      · have hm0 : 0 = m := by have := HMm.out; rw [hw0] at this; exact this
        subst hm0
        have HNo : Hid (¬ okC (bl (patK f k))) := Lib.hid (fun q => hok.1 q hw0)
        clear hok hw0
        go_wp2_with fail
        with_reducible refine C.out.mono ?_
        rintro e v2 ⟨b2, ⟨q, _⟩ | ⟨_, rfl⟩⟩
        · exact absurd q HNo.out
        · replace HB := Lib.hid (next HB.out b2)
          go_wp2_with fail
          go_ret
          exact ⟨rfl, HB.out⟩
      · have hm0 : 0 < m := by
          rcases Nat.eq_zero_or_pos m with h | h
          · exact absurd (List.length_eq_zero_iff.1 (HMm.out.trans h)) hw0
          · exact h
        have hk0 : 0 < k := by omega
        have mz : ((m : Int) == 0) = false := by rw [beq_eq_false_iff_ne]; omega
        have HOk : Hid (okC (bl (patK f k)) ∧ wantK f k ≠ []) := Lib.hid ⟨hok.2 hw0, hw0⟩
        have CX := Lib.hid (fun u (h : MX u) => (lcut_any (patK (fun _ => true) k) (lnK k) (by have := patK_size (fun _ => true) (k := k) (by omega); omega) (by have := lnK_size k (by omega); omega) u h).mono fun _ _ q => q.flat)
        have HX := Lib.hid (cut_it (fun _ => true) (k := k) (by omega) (wantK_all hk0))
        have HMt := Lib.hid (it_match f (k := k) (by omega))
        have HNm := Lib.hid (nms_want f (k := k) (by omega))
        have HPk := Lib.hid (pick_it f (k := k) (by omega))
        have HWl := Lib.hid (want_mem f (k := k) (by omega))
        clear hok hw0
        go_wp2_with fail
        with_reducible refine C.out.mono ?_
        rintro e v2 ⟨b2, ⟨_, b, rfl, hc⟩ | ⟨q, _⟩⟩
        · replace HB := Lib.hid (next HB.out b2)
          replace HM := Lib.hid (HM.out.on b2)
          replace HRow := Lib.hid (HRow.out.on b2)
          have HC := Lib.hid hc
          replace C := Lib.hid (CX.out v2 HM.out)
          clear b2 hc CX
          go_wp2_with fail
          with_reducible refine C.out.mono ?_
          rintro e v3 ⟨A3, n3, c3, rfl, b3, r3⟩
          rw [HX.out] at r3 ⊢
          replace HB := Lib.hid (next HB.out b3)
          replace HM := Lib.hid (HM.out.on b3)
          replace HRow := Lib.hid (HRow.out.on b3)
          replace HC := Lib.hid (HC.out.on b3)
          have HR3 := Lib.hid r3
          replace C := Lib.hid ((Match_any b _ _ (lnK k) v3 HC.out (caps_ne HOk.out.1) (Nat.le_trans (okC_len HOk.out.1) (by omega)) (by have := lnK_size k (by omega); omega) HM.out).mono fun _ _ q => q.flat)
          rw [HMt.out] at C
          clear b3 r3
          go_wp2_with fail
          with_reducible refine C.out.mono ?_
          rintro e v4 ⟨A4, n4, c4, rfl, b4, r4⟩
          replace HB := Lib.hid (next HB.out b4)
          replace HRow := Lib.hid (HRow.out.on b4)
          replace HR3 := Lib.hid (HR3.out.on b4)
          have HR4 := Lib.hid r4
          replace C := Lib.hid (Names_any b _ _ v4 (HC.out.on b4) (Nat.le_trans (okC_len HOk.out.1) (by omega)))
          rw [HNm.out] at C
          clear b4 r4
          go_wp2_with fail
          with_reducible refine C.out.mono ?_
          rintro e v5 ⟨A5, c5, rfl, o5, b5⟩
          rw [HMm.out] at o5 ⊢
          replace HB := Lib.hid (next HB.out b5)
          replace HRow := Lib.hid (HRow.out.on b5)
          replace HR3 := Lib.hid (HR3.out.on b5)
          replace HR4 := Lib.hid (HR4.out.on b5)
          replace C := Lib.hid (texts_self A5 Ao m c5 co (wantK f k) v5 (Row.own o5) HRow.out (by omega))
          clear b5 o5
          go_wp2_with fail
          with_reducible refine C.out.mono ?_
          rintro e v6 ⟨rfl, b6⟩
          replace HB := Lib.hid (next HB.out b6)
          replace HRow := Lib.hid (HRow.out.on b6)
          replace HR3 := Lib.hid (HR3.out.on b6)
          replace HR4 := Lib.hid (HR4.out.on b6)
          have hw := HWl.out
          have l3 : n3 ≤ 20 := by have q := HR3.out.1; rw [Option.getD_some] at q; omega
          replace C := Lib.hid (By_any A3 Ao n3 m c3 co _ (wantK f k) v6 HR3.out HRow.out (by omega) (by omega) hw.1 (by rw [Option.getD_some]; exact hw.2.1))
          rw [Option.getD_some, HPk.out] at C
          clear b6 l3 hw
          go_wp2_with fail
          with_reducible refine C.out.mono ?_
          rintro e v7 ⟨A7, c7, rfl, o7, b7⟩
          replace HB := Lib.hid (next HB.out b7)
          replace HR4 := Lib.hid (HR4.out.on b7)
          have r7 := RowL.own o7
          replace C := Lib.hid (same_self A4 A7 n4 _ c4 c7 ((itK f k).filter told) v7 HR4.out r7 (Nat.le_trans HWl.out.2.2.2 (by omega)))
          clear b7 o7 r7
          go_wp2_with fail
          with_reducible refine C.out.mono ?_
          rintro e v8 ⟨rfl, b8⟩
          replace HB := Lib.hid (next HB.out b8)
          go_wp2_with fail
          go_ret
          exact ⟨rfl, HB.out⟩
        · exact absurd HOk.out.1 q
end Go.Proofs.Ytomjdicedjdpnaa
