/- LabelsParts, walked. -/
import Derived.Test.YtdeohgfnlcbncaaDoorLOrderLaw
import Derived.Test.YtdeohgfnlcbncaaDoorLNames
namespace Go.Proofs.YtdeohgfnlcbncaaDoor
open Go.RowKit Go.Shelf Go.Lib

def repW (z : Nat) : ByteArray := ofl (List.replicate z 119)
theorem repW_eq (z : Nat) : (⟨(Lib.repeatL (ByteArray.mk #[119]).data.toList z).toArray⟩ : ByteArray) = repW z := by
  unfold repW ofl
  refine congrArg (fun l : List UInt8 => ByteArray.mk l.toArray) ?_
  induction z with
  | zero => rfl
  | succ n ih => rw [Lib.repeatL, ih, List.replicate_succ]; rfl
theorem repW_size (z : Nat) : (repW z).size = z := by rw [repW, ofl_size, List.length_replicate]
theorem near_max {l : List Lb} (h : ∀ x ∈ l, NearL x) : ∀ x ∈ l, x.1.size ≤ maxLen := fun x hx => by
  have := (near_smallL h x hx).1
  unfold maxLen; omega
theorem pick_set_len (l : List Lb) (n v : ByteArray) (k : Nat) (h : l.length ≤ k) : (setL l n v).length ≤ k + 1 := Nat.le_trans (set_len n v) (by omega)
set_option maxRecDepth 100000 in
set_option maxHeartbeats 16000000 in
theorem LabelsParts_walk (A0 : Option Addr) (l0 : List Int) (c0 : Nat) (bits : Int) (u v : Int) (w : World)
    (hr0 : Row w w.heap.size A0 l0.length (ints .i64 l0)) (hc0 : l0.length ≤ c0) (hs0 : c0 * 8 ≤ 140737488351232) (hu0 : ∀ x ∈ l0, (Lit.int .i64 x).wf = true)
    (wb : (Lit.int .i64 bits).wf = true) (wu : (Lit.int .i64 u).wf = true) (wv : (Lit.int .i64 v).wf = true) (_hT : Tab w) :
    Calls Tryd.prog 5 #[.slice A0 l0.length c0, .int .i64 bits, .agg #[.int .i64 u, .int .i64 v]] w fun e w' => e = .returned (.bool true) ∧ Below w.heap.size w w' := by
  have hm0 : l0.length ≤ 140737488351232 := by omega
  have HU0 := Lib.hid hu0
  have HRx := Lib.hid hr0
  obtain ⟨n0, hn0⟩ : ∃ n, l0.length = n := ⟨_, rfl⟩
  rw [hn0] at HRx hm0 ⊢
  clear hn0 hc0 hs0 hr0 hu0
  obtain ⟨l, hl⟩ : ∃ l, nearTo (vOf l0) 8 = l := ⟨_, rfl⟩
  have hl8 : l.length ≤ 8 := by rw [← hl]; exact near_len _ _
  have HNL : Hid (∀ x ∈ l, NearL x) := Lib.hid (by rw [← hl]; exact near_all l0)
  have HOr : Hid (Ord l) := Lib.hid (by rw [← hl]; exact near_ord _ 8 (by omega))
  have HL := Lib.hid hl
  clear hl
  obtain ⟨ss, hss⟩ : ∃ ss, namesL bits 9 = ss := ⟨_, rfl⟩
  have hs9 : ss.length ≤ 9 := by rw [← hss]; exact names_len _ _
  have HSM : Hid (∀ s ∈ ss, s.size ≤ maxLen) := Lib.hid (by rw [← hss]; exact names_small _ _)
  have HN := Lib.hid (fun v : World => (show Calls Tryd.prog 26 #[.int .i64 bits] v (SOut v ss) from by rw [← hss]; exact names_any bits v wb))
  obtain ⟨pin, hpin⟩ : ∃ p, pickL l (chosen ss true) = p := ⟨_, rfl⟩
  obtain ⟨pout, hpout⟩ : ∃ p, pickL l (chosen ss false) = p := ⟨_, rfl⟩
  have hpi8 : pin.length ≤ 8 := by rw [← hpin]; exact Nat.le_trans (pick_len _ _) hl8
  have hpo8 : pout.length ≤ 8 := by rw [← hpout]; exact Nat.le_trans (pick_len _ _) hl8
  have HPI := Lib.hid hpin
  have HPO := Lib.hid hpout
  have HCI : Hid (chkL nmS pin = 0) := Lib.hid (by rw [← hpin]; exact chk_pick hl8 HOr.out HNL.out _)
  have HCO : Hid (chkL nmS pout = 0) := Lib.hid (by rw [← hpout]; exact chk_pick hl8 HOr.out HNL.out _)
  clear hss hpin hpout wb
  obtain ⟨B, hB⟩ : ∃ B : Nat, u % 9 = (B : Int) := ⟨(u % 9).toNat, by omega⟩
  obtain ⟨Z, hZ⟩ : ∃ Z : Nat, v % 3 = (Z : Int) := ⟨(v % 3).toNat, by omega⟩
  have hB9 : B < 9 := by omega
  have hZ3 : Z < 3 := by omega
  have HB9 := Lib.hid (fun W : World => (show Calls Tryd.prog 28 #[.int .i64 u, .int .i64 9] W fun e w' => e = .returned (.int .i64 (B : Int)) ∧ W = w' from by have k := Bring_any u 9 W wu (by omega) (by omega); rwa [hB] at k))
  have HZ3 := Lib.hid (fun W : World => (show Calls Tryd.prog 28 #[.int .i64 v, .int .i64 3] W fun e w' => e = .returned (.int .i64 (Z : Int)) ∧ W = w' from by have k := Bring_any v 3 W wv (by omega) (by omega); rwa [hZ] at k))
  have HRp := Lib.hid (fun W : World => (show Calls Tryd.prog 29 #[.string ⟨#[119]⟩, .int .i64 (Z : Int)] W fun e w' => e = .returned (.string (repW Z)) ∧ Below W.heap.size W w' from by
    have k := Tryd.strings_Repeat ⟨#[119]⟩ Z W (by omega) (by show 1 * Z ≤ _; omega)
    rwa [repW_eq] at k))
  have wa : IntKind.i64.wrap (97 + (B : Int)) = 97 + (B : Int) := by rw [IntKind.wrap_i64]; omega
  have wb : IntKind.u8.wrap (97 + (B : Int)) = 97 + (B : Int) := by rw [IntKind.wrap_u8]; omega
  have HCV := Lib.hid (fun W : World => (show (convert 44 9 (.slice (some ⟨W.heap.size, 0, none⟩) 1 1)).run Tryd.prog (W.alloc (.cells #[.int .u8 (97 + (B : Int))] 5)) = .ok (.string (nmI B)) (W.alloc (.cells #[.int .u8 (97 + (B : Int))] 5)) from
    conv_row (P := Tryd.prog) (W.alloc (.cells #[.int .u8 (97 + (B : Int))] 5)) 44 9 5 W.heap.size 1 [97 + B] Tryd.underlying44 Tryd.underlying5 Tryd.underlying9 (Byt.cons (by omega) Byt.nil) (fun j hj => by
      have hj0 : j = 0 := by simpa using hj
      subst hj0
      rw [World.cell?_alloc_at _ _ _ _ (by simp)]; simp)))
  obtain ⟨sv, hsv⟩ : ∃ s, setL l (nmI B) (repW Z) = s := ⟨_, rfl⟩
  obtain ⟨dv, hdv⟩ : ∃ d, pickL l (notName (nmI B)) = d := ⟨_, rfl⟩
  have hsv9 : sv.length ≤ 9 := by rw [← hsv]; exact pick_set_len l _ _ 8 hl8
  have hdv8 : dv.length ≤ 8 := by rw [← hdv]; exact Nat.le_trans (pick_len _ _) hl8
  have HCS : Hid (chkL nmS sv = 0) := Lib.hid (by rw [← hsv]; exact chk_set hl8 HOr.out HNL.out hB9 (by rw [repW_size]; omega))
  have HCD : Hid (chkL nmS dv = 0) := Lib.hid (by rw [← hdv]; exact chk_pick hl8 HOr.out HNL.out _)
  have HGS : Hid (getL sv (nmI B) = repW Z) := Lib.hid (by rw [← hsv]; exact get_set HOr.out _ _)
  have HGD : Hid (getL dv (nmI B) = ByteArray.empty) := Lib.hid (by rw [← hdv]; exact get_drop HOr.out _)
  have HDS : Hid (pickL sv (notName (nmI B)) = dv) := Lib.hid (by rw [← hsv, ← hdv]; exact drop_set HOr.out _ _)
  have HWO : Hid (pickL l (chosen [nmI B] false) = dv) := Lib.hid (by rw [chosen_one]; exact hdv)
  have HSV := Lib.hid hsv
  have HDV := Lib.hid hdv
  have HNZ : Hid ((nmI B).size ≤ maxLen) := Lib.hid (by show (ofl [97 + B]).size ≤ _; rw [ofl_size]; unfold maxLen; simp)
  obtain ⟨nm, hnm⟩ : ∃ x, nmI B = x := ⟨_, rfl⟩
  obtain ⟨vl, hvl⟩ : ∃ x, repW Z = x := ⟨_, rfl⟩
  rw [hnm] at HCV HGS HGD HDS HWO HSV HDV HNZ
  rw [hvl] at HRp HGS HSV
  clear hB hZ wu wv hsv hdv hnm hvl
  have HB := Lib.hid (((Below.refl w.heap.size w).alloc (Nat.le_refl _) (.cells #[.int .i64 u, .int .i64 v] 40)))
  have HRq := Lib.hid (Row.two w 40 (.int .i64 u) (.int .i64 v))
  replace HRx := Lib.hid (HRx.out.on HB.out)
  go_enter Tryd.func5, Tryd.ntmps5
  go_wp2_with fail
  obtain ⟨w0, hw0⟩ : ∃ x, w.alloc (.cells #[.int .i64 u, .int .i64 v] 40) = x := ⟨_, rfl⟩
  rw [hw0] at HB HRq HRx ⊢
  clear hw0

  have C := works_any w0
  replace C := Lib.hid C
  with_reducible refine C.out.mono ?_
  rintro e v1 ⟨rfl, b⟩
  clear C
  replace HRx := Lib.hid (HRx.out.on b)
  replace HRq := Lib.hid (HRq.out.on b)
  replace HB := Lib.hid (next HB.out b)
  clear b
  have C := near_rl A0 l0 l n0 c0 v1 HRx.out hm0 HU0.out HL
  replace C := Lib.hid C
  go_wp2_with fail
  with_reducible refine C.out.mono ?_
  rintro e v2 ⟨Al, cl, rfl, r, hnl, hcl, b⟩
  clear C
  replace HRx := Lib.hid (HRx.out.on b)
  replace HRq := Lib.hid (HRq.out.on b)
  replace HB := Lib.hid (next HB.out b)
  have HRl := Lib.hid r
  clear r
  clear b
  clear HRx
  have C := HN.out v2
  replace C := Lib.hid C
  go_wp2_with fail
  with_reducible refine C.out.mono ?_
  rintro e v3 ⟨An, cn, rfl, r, b⟩
  clear C
  replace HRq := Lib.hid (HRq.out.on b)
  replace HRl := Lib.hid (HRl.out.on b)
  replace HB := Lib.hid (next HB.out b)
  have HRn := Lib.hid r
  clear r
  clear b
  have C := (By_any Al An l.length ss.length cl cn l ss v3 HRl.out HRn.out (by omega) (by omega) HSM.out (near_max HNL.out)).mono fun _ _ k => k.rl HPI.out rfl
  replace C := Lib.hid C
  go_wp2_with fail
  with_reducible refine C.out.mono ?_
  rintro e v4 ⟨Ai, ci, rfl, r, hni, hci, b⟩
  clear C
  replace HRq := Lib.hid (HRq.out.on b)
  replace HRl := Lib.hid (HRl.out.on b)
  replace HRn := Lib.hid (HRn.out.on b)
  replace HB := Lib.hid (next HB.out b)
  have HRi := Lib.hid r
  clear r
  clear b
  clear HRn
  have C := HN.out v4
  replace C := Lib.hid C
  go_wp2_with fail
  with_reducible refine C.out.mono ?_
  rintro e v5 ⟨Am, cm, rfl, r, b⟩
  clear C
  replace HRq := Lib.hid (HRq.out.on b)
  replace HRl := Lib.hid (HRl.out.on b)
  replace HRi := Lib.hid (HRi.out.on b)
  replace HB := Lib.hid (next HB.out b)
  have HRm := Lib.hid r
  clear r
  clear b
  have C := (Without_any Al Am l.length ss.length cl cm l ss v5 HRl.out HRm.out (by omega) (by omega) HSM.out (near_max HNL.out)).mono fun _ _ k => k.rl HPO.out rfl
  replace C := Lib.hid C
  go_wp2_with fail
  with_reducible refine C.out.mono ?_
  rintro e v6 ⟨Ao, co, rfl, r, hno, hco, b⟩
  clear C
  replace HRq := Lib.hid (HRq.out.on b)
  replace HRl := Lib.hid (HRl.out.on b)
  replace HRi := Lib.hid (HRi.out.on b)
  replace HRm := Lib.hid (HRm.out.on b)
  replace HB := Lib.hid (next HB.out b)
  have HRo := Lib.hid r
  clear r
  clear b
  clear HRm
  clear HN HSM
  have HBo := HB
  go_wp2_with fail
  go_loopw [10, 11] (fun o p wr => ∃ (i m : Nat) (A : Option Addr) (c : Nat), i ≤ pout.length ∧ o = .slice A m c ∧ p = .int .i64 (i : Int) ∧ m ≤ c ∧ c ≤ 9223372036854775807 ∧ Hid (RowL wr wr.heap.size A m (allT l ss i)) ∧ Hid (Below v6.heap.size v6 wr)) (fun _ p _ => pout.length - (intOf p).toNat)
  case atStart => exact ⟨0, pin.length, Ai, ci, by omega, rfl, rfl, hni, hci, Lib.hid (by rw [allT_zero HOr.out, HPI.out]; exact HRi.out), Lib.hid (Below.refl _ _)⟩
  case round =>
    obtain ⟨i, m, A, c, hi, rfl, rfl, hmc, hc9, HRA, HBw⟩ := hrel
    have hm8 : m ≤ 8 := by rw [← HRA.out.1]; exact Nat.le_trans (List.length_filter_le _ _) hl8
    by_cases hlt : i < pout.length
    · have f1 : decide ((i : Int) < (pout.length : Int)) = true := decide_eq_true (by omega)
      have HRi2 := Lib.hid (HRi.out.on HBw.out)
      obtain ⟨b, off, rfl, hbB, hc⟩ := HRo.out.2 (by omega)
      obtain ⟨d1, d2⟩ := hc i hlt
      have d1 := (HBw.out.cell (p := ⟨b, off + i * 2, none⟩) hbB).trans d1
      have d2 := (HBw.out.cell (p := ⟨b, off + i * 2 + 1, none⟩) hbB).trans d2
      obtain ⟨x, hx⟩ : ∃ x, pout.getD i noL = x := ⟨_, rfl⟩
      rw [hx] at d1 d2
      obtain ⟨x1, x2⟩ := x
      dsimp only at d1 d2
      have HG : Hid (getL pin x1 = ByteArray.empty) := Lib.hid (by have k := in_not_out HOr.out ss (i := i) (by rw [HPO.out]; exact hlt); rw [HPO.out, HPI.out, hx] at k; exact k)
      have HS : Hid (setL (allT l ss i) x1 x2 = allT l ss (i + 1)) := Lib.hid (by have k := allT_next HOr.out ss (i := i) (by rw [HPO.out]; exact hlt); rw [HPO.out, hx] at k; exact k)
      have g0 : (0 : Int) ≤ (i : Int) := by omega
      have g1 : (i : Int) < (pout.length : Int) := by omega
      have HKi := Lib.hid hlt
      have C := Lib.hid (Get_any Ai pin.length ci pin x1 wr HRi2.out (by omega))
      have HD1 := Lib.hid d1
      have HD2 := Lib.hid d2
      clear hc hx hlt
      clear d2
      rw [HG.out] at C
      go_wp2_with fail
      with_reducible refine C.out.mono ?_
      rintro e wg ⟨rfl, b3⟩
      clear C d1
      have hblt : b < wr.heap.size := Nat.lt_of_lt_of_le hbB HBw.out.size
      have d1 := (b3.cell (p := ⟨b, off + i * 2, none⟩) hblt).trans HD1.out
      have d2 := (b3.cell (p := ⟨b, off + i * 2 + 1, none⟩) hblt).trans HD2.out
      have HRA2 := Lib.hid (HRA.out.on b3)
      have HBg := Lib.hid (HBw.out.trans (b3.mono HBw.out.size))
      have HCs := Lib.hid (fun W (hb : Below wg.heap.size wg W) => (Set_any A m c (allT l ss i) x1 x2 W (HRA2.out.on hb) (by omega) hmc hc9).mono fun _ _ k => k.rl HS.out rfl)
      clear HD1 HD2 HRi2 b3
      go_wp2_with fail
      have hbd : Below wg.heap.size wg wg.drew := (Below.refl _ _).drew
      go_region_held3 (fun v => v.cell? ⟨b, off + i * 2, none⟩ = some (.string x1) ∧ v.cell? ⟨b, off + i * 2 + 1, none⟩ = some (.string x2))
        (first | exact ⟨d1, d2⟩ | exact ⟨e1, e2⟩)
        ((go_at_call 10
          with_reducible refine (HCs.out _ hbd).mono ?_
          rintro e w5 ⟨A5, c5, rfl, r5, hn5, hc5, b5⟩
          have hbl2 : b < wg.heap.size := Nat.lt_of_lt_of_le hbB HBg.out.size
          have e1 := (b5.cell (p := ⟨b, off + i * 2, none⟩) hbl2).trans d1
          have e2 := (b5.cell (p := ⟨b, off + i * 2 + 1, none⟩) hbl2).trans d2))
      have HB5 := Lib.hid (HBg.out.trans ((hbd.trans b5).mono HBg.out.size))
      have HR5 := Lib.hid r5
      obtain ⟨m5, hm5⟩ : ∃ m5, (allT l ss (i + 1)).length = m5 := ⟨_, rfl⟩
      rw [hm5] at HR5 hn5 ⊢
      clear hbl2 e1 e2 b5 r5 hbd hm5 d1 d2
      go_wp2_with fail
      exact ⟨⟨i + 1, m5, A5, c5, HKi.out, rfl, by go_num, hn5, hc5, HR5, HB5⟩, by have := HKi.out; simp [intOf]; omega⟩
    · obtain rfl : i = pout.length := by omega
      have f1 : decide ((pout.length : Int) < (pout.length : Int)) = false := decide_eq_false (by omega)
      have hall : allT l ss pout.length = l := by have k := allT_all HOr.out ss; rwa [HPO.out] at k
      rw [hall] at HRA
      obtain rfl : l.length = m := HRA.out.1
      replace HRq := Lib.hid (HRq.out.on HBw.out)
      replace HRl := Lib.hid (HRl.out.on HBw.out)
      replace HRi := Lib.hid (HRi.out.on HBw.out)
      replace HRo := Lib.hid (HRo.out.on HBw.out)
      replace HB := Lib.hid (next HB.out HBw.out)
      have HRa := HRA
      clear hall HRA HBw hi hlt hm8 HBo
      have q0 : wr.cell? ⟨w.heap.size, 0, none⟩ = some (.int .i64 u) := by obtain ⟨b, off, e, _, hc⟩ := HRq.out.2 (by omega); injection e with e; injection e with e1 e2; subst e1; subst e2; exact hc 0 (by omega)
      have q1 : wr.cell? ⟨w.heap.size, 1, none⟩ = some (.int .i64 v) := by obtain ⟨b, off, e, _, hc⟩ := HRq.out.2 (by omega); injection e with e; injection e with e1 e2; subst e1; subst e2; exact hc 1 (by omega)
      have hcv := HCV.out wr
      go_wp2_with fail
      with_reducible refine (HB9.out _).mono ?_
      rintro e wq ⟨rfl, rfl⟩
      have b := (Below.refl _ wr).alloc (Nat.le_refl _) (.cells #[.int .u8 (97 + (B : Int))] 5)
      replace HRq := Lib.hid (HRq.out.on b)
      replace HRl := Lib.hid (HRl.out.on b)
      replace HRi := Lib.hid (HRi.out.on b)
      replace HRo := Lib.hid (HRo.out.on b)
      replace HRa := Lib.hid (HRa.out.on b)
      replace HB := Lib.hid (next HB.out b)
      clear b q0
      replace q1 : (wr.alloc (.cells #[.int .u8 (97 + (B : Int))] 5)).cell? ⟨w.heap.size, 1, none⟩ = some (.int .i64 v) := by obtain ⟨b, off, e, _, hc⟩ := HRq.out.2 (by omega); injection e with e; injection e with e1 e2; subst e1; subst e2; exact hc 1 (by omega)
      go_wp2_with fail
      with_reducible refine (HZ3.out _).mono ?_
      rintro e wq2 ⟨rfl, rfl⟩
      clear q1 hcv
      obtain ⟨wb, hwb⟩ : ∃ x, wr.alloc (.cells #[.int .u8 (97 + (B : Int))] 5) = x := ⟨_, rfl⟩
      rw [hwb] at HRq HRl HRi HRo HRa HB ⊢
      clear hwb
      have hvv : (vl.toList == vl.toList) = true := beq_self_eq_true _
      have C := HRp.out wb
      replace C := Lib.hid C
      go_wp2_with fail
      with_reducible refine C.out.mono ?_
      rintro e v7 ⟨rfl, b⟩
      clear C
      replace HRq := Lib.hid (HRq.out.on b)
      replace HRl := Lib.hid (HRl.out.on b)
      replace HRi := Lib.hid (HRi.out.on b)
      replace HRo := Lib.hid (HRo.out.on b)
      replace HRa := Lib.hid (HRa.out.on b)
      replace HB := Lib.hid (next HB.out b)
      clear b
      have C := (Set_any Al l.length cl l nm vl v7 HRl.out (by omega) hnl hcl).mono fun _ _ k => k.rl HSV.out rfl
      replace C := Lib.hid C
      go_wp2_with fail
      with_reducible refine C.out.mono ?_
      rintro e v8 ⟨As, cs, rfl, r, hns, hcs, b⟩
      clear C
      replace HRq := Lib.hid (HRq.out.on b)
      replace HRl := Lib.hid (HRl.out.on b)
      replace HRi := Lib.hid (HRi.out.on b)
      replace HRo := Lib.hid (HRo.out.on b)
      replace HRa := Lib.hid (HRa.out.on b)
      replace HB := Lib.hid (next HB.out b)
      have HRs := Lib.hid r
      clear r
      clear b
      have C := (Drop_any Al l.length cl l nm v8 HRl.out (by omega)).mono fun _ _ k => k.rl HDV.out rfl
      replace C := Lib.hid C
      go_wp2_with fail
      with_reducible refine C.out.mono ?_
      rintro e v9 ⟨Ad, cd, rfl, r, hnd, hcd, b⟩
      clear C
      replace HRq := Lib.hid (HRq.out.on b)
      replace HRl := Lib.hid (HRl.out.on b)
      replace HRi := Lib.hid (HRi.out.on b)
      replace HRo := Lib.hid (HRo.out.on b)
      replace HRa := Lib.hid (HRa.out.on b)
      replace HRs := Lib.hid (HRs.out.on b)
      replace HB := Lib.hid (next HB.out b)
      have HRd := Lib.hid r
      clear r
      clear b
      have C := Check_any Ai pin.length ci pin v9 HRi.out (by omega)
      rw [HCI.out] at C
      replace C := Lib.hid C
      go_wp2_with fail
      with_reducible refine C.out.mono ?_
      rintro e v10 ⟨rfl, b⟩
      clear C
      replace HRq := Lib.hid (HRq.out.on b)
      replace HRl := Lib.hid (HRl.out.on b)
      replace HRi := Lib.hid (HRi.out.on b)
      replace HRo := Lib.hid (HRo.out.on b)
      replace HRa := Lib.hid (HRa.out.on b)
      replace HRs := Lib.hid (HRs.out.on b)
      replace HRd := Lib.hid (HRd.out.on b)
      replace HB := Lib.hid (next HB.out b)
      clear b
      clear HRi
      have C := Check_any Ao pout.length co pout v10 HRo.out (by omega)
      rw [HCO.out] at C
      replace C := Lib.hid C
      go_wp2_with fail
      with_reducible refine C.out.mono ?_
      rintro e v11 ⟨rfl, b⟩
      clear C
      replace HRq := Lib.hid (HRq.out.on b)
      replace HRl := Lib.hid (HRl.out.on b)
      replace HRo := Lib.hid (HRo.out.on b)
      replace HRa := Lib.hid (HRa.out.on b)
      replace HRs := Lib.hid (HRs.out.on b)
      replace HRd := Lib.hid (HRd.out.on b)
      replace HB := Lib.hid (next HB.out b)
      clear b
      clear HRo
      have C := Check_any As sv.length cs sv v11 HRs.out (by omega)
      rw [HCS.out] at C
      replace C := Lib.hid C
      go_wp2_with fail
      with_reducible refine C.out.mono ?_
      rintro e v12 ⟨rfl, b⟩
      clear C
      replace HRq := Lib.hid (HRq.out.on b)
      replace HRl := Lib.hid (HRl.out.on b)
      replace HRa := Lib.hid (HRa.out.on b)
      replace HRs := Lib.hid (HRs.out.on b)
      replace HRd := Lib.hid (HRd.out.on b)
      replace HB := Lib.hid (next HB.out b)
      clear b
      have C := Check_any Ad dv.length cd dv v12 HRd.out (by omega)
      rw [HCD.out] at C
      replace C := Lib.hid C
      go_wp2_with fail
      with_reducible refine C.out.mono ?_
      rintro e v13 ⟨rfl, b⟩
      clear C
      replace HRq := Lib.hid (HRq.out.on b)
      replace HRl := Lib.hid (HRl.out.on b)
      replace HRa := Lib.hid (HRa.out.on b)
      replace HRs := Lib.hid (HRs.out.on b)
      replace HRd := Lib.hid (HRd.out.on b)
      replace HB := Lib.hid (next HB.out b)
      clear b
      have C := eq_yes A Al l.length c cl l v13 HRa.out HRl.out (by omega)
      replace C := Lib.hid C
      go_wp2_with fail
      with_reducible refine C.out.mono ?_
      rintro e v14 ⟨rfl, b⟩
      clear C
      replace HRq := Lib.hid (HRq.out.on b)
      replace HRl := Lib.hid (HRl.out.on b)
      replace HRa := Lib.hid (HRa.out.on b)
      replace HRs := Lib.hid (HRs.out.on b)
      replace HRd := Lib.hid (HRd.out.on b)
      replace HB := Lib.hid (next HB.out b)
      clear b
      clear HRa
      have C := Get_any As sv.length cs sv nm v14 HRs.out (by omega)
      rw [HGS.out] at C
      replace C := Lib.hid C
      go_wp2_with fail
      with_reducible refine C.out.mono ?_
      rintro e v15 ⟨rfl, b⟩
      clear C
      replace HRq := Lib.hid (HRq.out.on b)
      replace HRl := Lib.hid (HRl.out.on b)
      replace HRs := Lib.hid (HRs.out.on b)
      replace HRd := Lib.hid (HRd.out.on b)
      replace HB := Lib.hid (next HB.out b)
      clear b
      have C := Get_any Ad dv.length cd dv nm v15 HRd.out (by omega)
      rw [HGD.out] at C
      replace C := Lib.hid C
      go_wp2_with fail
      with_reducible refine C.out.mono ?_
      rintro e v16 ⟨rfl, b⟩
      clear C
      replace HRq := Lib.hid (HRq.out.on b)
      replace HRl := Lib.hid (HRl.out.on b)
      replace HRs := Lib.hid (HRs.out.on b)
      replace HRd := Lib.hid (HRd.out.on b)
      replace HB := Lib.hid (next HB.out b)
      clear b
      have C := (Drop_any As sv.length cs sv nm v16 HRs.out (by omega)).mono fun _ _ k => k.rl HDS.out rfl
      replace C := Lib.hid C
      go_wp2_with fail
      with_reducible refine C.out.mono ?_
      rintro e v17 ⟨At, ct, rfl, r, hnt, hct, b⟩
      clear C
      replace HRq := Lib.hid (HRq.out.on b)
      replace HRl := Lib.hid (HRl.out.on b)
      replace HRs := Lib.hid (HRs.out.on b)
      replace HRd := Lib.hid (HRd.out.on b)
      replace HB := Lib.hid (next HB.out b)
      have HRt := Lib.hid r
      clear r
      clear b
      clear HRs
      have C := eq_yes At Ad dv.length ct cd dv v17 HRt.out HRd.out (by omega)
      replace C := Lib.hid C
      go_wp2_with fail
      with_reducible refine C.out.mono ?_
      rintro e v18 ⟨rfl, b⟩
      clear C
      replace HRq := Lib.hid (HRq.out.on b)
      replace HRl := Lib.hid (HRl.out.on b)
      replace HRd := Lib.hid (HRd.out.on b)
      replace HRt := Lib.hid (HRt.out.on b)
      replace HB := Lib.hid (next HB.out b)
      clear b
      clear HRt
      have b := (Below.refl _ v18).alloc (Nat.le_refl _) (.cells #[.string nm] 9)
      replace HRq := Lib.hid (HRq.out.on b)
      replace HRl := Lib.hid (HRl.out.on b)
      replace HRd := Lib.hid (HRd.out.on b)
      replace HB := Lib.hid (next HB.out b)
      clear b
      have hr1 := Row.one v18 9 (.string nm)
      have hr2 : Row (v18.alloc (.cells #[.string nm] 9)) (v18.alloc (.cells #[.string nm] 9)).heap.size (some ⟨v18.heap.size, 0, none⟩) 1 (strs [nm]) := by rw [World.size_alloc]; exact hr1
      have HW := Lib.hid ((Without_any Al (some ⟨v18.heap.size, 0, none⟩) l.length 1 cl 1 l [nm] _ HRl.out hr2 (by omega) (by omega) (by intro s hs; rw [List.mem_singleton.1 hs]; exact HNZ.out) (near_max HNL.out)).mono fun _ _ k => k.rl HWO.out rfl)
      clear hr1 hr2
      go_wp2_with fail
      with_reducible refine HW.out.mono ?_
      rintro e vw ⟨Aw, cw, rfl, r, hnw, hcw, b⟩
      replace HRq := Lib.hid (HRq.out.on b)
      replace HRl := Lib.hid (HRl.out.on b)
      replace HRd := Lib.hid (HRd.out.on b)
      replace HB := Lib.hid (next HB.out b)
      have HRw := Lib.hid r
      clear r b HW
      have C := eq_yes Aw Ad dv.length cw cd dv vw HRw.out HRd.out (by omega)
      replace C := Lib.hid C
      go_wp2_with fail
      with_reducible refine C.out.mono ?_
      rintro e v19 ⟨rfl, b⟩
      clear C
      replace HRq := Lib.hid (HRq.out.on b)
      replace HRl := Lib.hid (HRl.out.on b)
      replace HRd := Lib.hid (HRd.out.on b)
      replace HRw := Lib.hid (HRw.out.on b)
      replace HB := Lib.hid (next HB.out b)
      clear b
      go_wp2_with fail
      go_ret
      exact ⟨rfl, HB.out⟩
end Go.Proofs.YtdeohgfnlcbncaaDoor
