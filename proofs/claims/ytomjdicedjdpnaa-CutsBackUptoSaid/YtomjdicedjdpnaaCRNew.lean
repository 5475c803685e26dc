/- The document's New. -/
import Derived.Test.YtomjdicedjdpnaaCJoin
import Derived.Test.YtomjdicedjdpnaaCPart
import Derived.Test.YtomjdicedjdpnaaQuoteA
import Derived.StillTailTactics
namespace Go.Proofs.Ytomjdicedjdpnaa
open Go.RowKit

/-- What New answers. -/
def NewOut (w : World) (p : List Nat) (e : Ending) (w' : World) : Prop :=
  Below w.heap.size w w' ∧ ((okC p ∧ ∃ b, e = .returned (.tuple #[.pointer (some ⟨b, 0, none⟩), .int .i64 0]) ∧ CAt w' b (ofl (segs 0 p).1) (capsL p)) ∨ (¬ okC p ∧ e = .returned (.tuple #[.pointer none, .int .i64 180])))
theorem part_info : (Try.prog.info? 71).map (fun i => (i.zero, i.size, i.bytes)) = some (some (.agg #[.string ByteArray.empty, .string ByteArray.empty]), 2, 32) := by kernel_rfl
theorem add_runC (a b S : ByteArray) (h : a ++ b = S) (hs : a.size + b.size ≤ 1000000000) : ∀ w, Sem.run Try.prog (Op.stringOp .add a b) w = Result.ok (.string S) w := fun w => by
  rw [run_string_add_sum w a b (by omega), h]
theorem headD_ext {r : ByteArray} {c : Nat} {t : List Nat} (h : bl r = c :: t) : bl (r.extract 0 1) = [c] ∧ bl (r.extract 1 r.size) = t := by
  constructor
  · rw [bl_extract, h]; rfl
  · have e := bl_len r
    rw [h] at e
    rw [bl_extract, ← e, h]
    simp
set_option maxRecDepth 100000 in
set_option maxHeartbeats 8000000 in
theorem rNew_any (s : ByteArray) (hs : s.size ≤ 1000000) (w : World) : Calls Try.prog 9 #[.string s] w (NewOut w (bl s)) := by
  obtain ⟨i0, hi0, hz0, hz1, hz2⟩ := info_partsL part_info
  have HC0 := Lib.hid (CSt.new w 67 71)
  have HB0 := Lib.hid ((Below.refl w.heap.size w).alloc (Nat.le_refl _) (.cells #[.string ByteArray.empty, .slice none 0 0] 67))
  by_cases h256 : s.size ≤ 256
  · have f0 : decide ((256 : Int) < (s.size : Int)) = false := decide_eq_false (by omega)
    have H256 := Lib.hid h256
    go_enter Try.func9, Try.ntmps9
    go_wp2_with fail
    go_loopw [5] (fun p wr => ∃ (r A : ByteArray) (a : Option Addr) (n c : Nat) (l : List Lb), p = .string r ∧ r.size ≤ s.size ∧ Hid (CSt w 67 71 A a n c l wr) ∧ Hid (joinC (bl A) (toC l) (segs 0 (bl r)) = segs 0 (bl s)) ∧ Hid (fineC (toC l))) (fun p _ => strLen p)
    case atStart => exact ⟨s, ByteArray.empty, none, 0, 0, [], rfl, Nat.le_refl _, HC0, Lib.hid rfl, Lib.hid fineC_nil⟩
    case round =>
      clear HC0 HB0
      obtain ⟨r, A, a, n, c, l, rfl, hrs, HS, HJ, HF⟩ := hrel
      have hc0 := HS.out.c0
      have hn := HS.out.len
      have hjl := joinC_len HJ.out
      rw [bl_len, bl_len, toC_len] at hjl
      obtain ⟨q1, q2, q3, q4⟩ := hc0
      rcases hL : bl r with _ | ⟨x, t⟩
      · have he := empty_yes hL
        have hseg : (bl A, toC l) = segs 0 (bl s) := by
          rw [← HJ.out, hL]
          show _ = joinC (bl A) (toC l) ([], [])
          rcases List.eq_nil_or_concat (toC l) with e | ⟨t, y, e⟩
          · rw [e, joinC_nil, List.append_nil]
          · rw [e, List.concat_eq_append, joinC_snoc, List.append_nil, List.append_nil]
        have hA : ofl (segs 0 (bl s)).1 = A := by rw [← hseg]; exact bl_inj (bl_ofl (bl_byt A))
        have hC : capsL (bl s) = l := by unfold capsL; rw [← hseg]; exact ofC_toC l
        have HAt := Lib.hid HS.out.at
        have hok : okC (bl s) ↔ 0 < (nmsL l).length := by
          have e : namesC (segs 0 (bl s)).2 = (nmsL l).map bl := by rw [← hseg, nmsL_names]
          unfold okC
          rw [e, ← hseg]
          constructor
          · rintro ⟨_, _, h3⟩
            rcases Nat.eq_zero_or_pos (nmsL l).length with h | h
            · rw [List.length_eq_zero_iff.1 h] at h3; exact absurd rfl h3
            · exact h
          · intro h
            refine ⟨by rw [bl_len]; exact H256.out, HF.out, fun e => ?_⟩
            rw [List.map_eq_nil_iff.1 e] at h
            exact absurd h (by simp)
        have HN := Lib.hid (rNames_any w.heap.size A l wr HS.out.at (by omega))
        have HB := Lib.hid HS.out.2.2
        have HG := Lib.hid (And.intro hok (And.intro hA hC))
        obtain ⟨m, hm⟩ : ∃ m, (nmsL l).length = m := ⟨_, rfl⟩
        rw [hm] at hok
        unfold SOut at HN
        rw [hm] at HN
        by_cases hm0 : m = 0
        · subst hm0
          have HNo : Hid (¬ okC (bl s)) := Lib.hid (fun k => absurd (hok.1 k) (by omega))
          clear hjl hn q1 q2 q3 q4 hL hseg hA hC hok hm
          go_wp2_with fail
          with_reducible refine HN.out.mono ?_
          rintro e w2 ⟨A2, c2, rfl, _, b⟩
          have HB2 := Lib.hid (next HB.out b)
          clear b
          go_wp2_with fail
          go_ret2
          exact ⟨HB2.out, .inr ⟨HNo.out, rfl⟩⟩
        · have HYes : Hid (okC (bl s)) := Lib.hid (hok.2 (by omega))
          have t1 : ((m : Int) == 0) = false := by rw [beq_eq_false_iff_ne]; omega
          clear hjl hn q1 q2 q3 q4 hL hseg hA hC hok hm
          go_wp2_with fail
          with_reducible refine HN.out.mono ?_
          rintro e w2 ⟨A2, c2, rfl, _, b⟩
          have HB2 := Lib.hid (next HB.out b)
          have HA2 := Lib.hid (HAt.out.on b)
          clear b
          go_wp2_with fail
          go_ret2
          exact ⟨HB2.out, .inl ⟨HYes.out, w.heap.size, rfl, by rw [HG.out.2.1, HG.out.2.2]; exact HA2.out⟩⟩
      · have hne := isEmpty_no hL
        have HL := Lib.hid hL
        have hrl : bl r ≠ [] := by rw [hL]; simp
        obtain ⟨hx8, hln, h00, h0⟩ := first_byte hL
        have HP := Lib.hid (rPart18_any r (by omega))
        by_cases hc : capN (bl r) = []
        · rw [show capS (bl r) = 0 by unfold capS; rw [if_pos hc], hc] at HP
          have he := headD_ext hL
          obtain ⟨h1, hh1⟩ : ∃ h, r.extract 0 1 = h := ⟨_, rfl⟩
          obtain ⟨r2, hr2⟩ : ∃ h, r.extract 1 r.size = h := ⟨_, rfl⟩
          rw [hh1, hr2] at he
          have hh1z : h1.size = 1 := by rw [← bl_len, he.1]; rfl
          have hzr : r2.size + 1 = r.size := by rw [← bl_len, he.2, hln]
          have HE := Lib.hid he
          have m1 : (1 : Int) ≤ (r.size : Int) := by omega
          rcases List.eq_nil_or_concat l with el | ⟨l0, y, el⟩
          · subst el
            obtain rfl : n = 0 := hn.symm
            obtain ⟨A2, hA2⟩ : ∃ A2, A ++ h1 = A2 := ⟨_, rfl⟩
            have ha := add_runC A h1 A2 hA2 (by omega)
            have HJ2 : Hid (joinC (bl A2) (toC []) (segs 0 (bl r2)) = segs 0 (bl s)) := Lib.hid (by
              rw [← HJ.out, ← hA2, bl_append, HE.out.1, HE.out.2]
              have := join_char0 (A := bl A) hrl hc
              rw [hL] at this
              rw [hL]
              exact this)
            have hr2s : r2.size ≤ s.size := by omega
            have hmeas : r2.size < r.size := by omega
            clear hjl hn hL hrl hln hc hh1z hzr hA2 he h0
            go_wp2_with fail
            with_reducible refine (HP.out _).mono ?_
            rintro e w2 ⟨rfl, rfl⟩
            go_wp2_with fail
            go_still_tail 8, (by kernel_rfl)
            change wpList _ _ _ _ _ wr.drew
            have HSd := Lib.hid (HS.out.on (Below.refl _ _).drew)
            clear q1 q2 q3 q4
            obtain ⟨q1, q2, q3, q4⟩ := HSd.out.c0
            have HS2 := Lib.hid (HSd.out.ahead A2)
            clear HSd HS
            generalize wr.drew = V at *
            go_wp2_with fail
            exact ⟨⟨r2, A2, a, 0, c, [], rfl, hr2s, HS2, HJ2, HF⟩, hmeas⟩
          · rw [List.concat_eq_append] at el
            subst el
            obtain ⟨g, rfl, b1, b2, b3, hgl, hst⟩ := HS.out.last
            have hy2 := hjl.2.2 (toC l0) (bl y.1, bl y.2) (toC_snoc l0 y)
            simp only [bl_len] at hy2
            obtain ⟨k, hk⟩ : ∃ k, l0.length = k := ⟨_, rfl⟩
            rw [hk] at b1 b2 b3 hst
            have hnk : n = k + 1 := by rw [← hn, ← hk]; simp
            have i1 : (n : Int) - 1 = (k : Int) := by omega
            have i2 : ((n : Int) == 0) = false := by rw [beq_eq_false_iff_ne]; omega
            have i3 : (0 : Int) ≤ (k : Int) := by omega
            have i4 : (k : Int) < (n : Int) := by omega
            have hn9 : (n : Int) ≤ 1000000 := by omega
            obtain ⟨y1, y2⟩ := y
            dsimp only at b1 b2 hst hy2
            obtain ⟨A2, hA2⟩ : ∃ A2, y2 ++ h1 = A2 := ⟨_, rfl⟩
            have ha := add_runC y2 h1 A2 hA2 (by omega)
            have HJ2 : Hid (joinC (bl A) (toC (l0 ++ [(y1, A2)])) (segs 0 (bl r2)) = segs 0 (bl s)) := Lib.hid (by
              rw [← HJ.out, ← hA2, toC_snoc, toC_snoc, bl_append, HE.out.1, HE.out.2]
              have := join_char (A := bl A) (l := toC l0) (x := (bl y1, bl y2)) hrl hc
              rw [hL] at this
              rw [hL]
              exact this)
            have HF2 : Hid (fineC (toC (l0 ++ [(y1, A2)]))) := Lib.hid (by
              rw [toC_snoc, fineC_snoc]
              have h := HF.out
              rw [toC_snoc, fineC_snoc] at h
              exact h)
            have HK := Lib.hid hk
            have hr2s : r2.size ≤ s.size := by omega
            have hmeas : r2.size < r.size := by omega
            clear hjl hn hL hrl hln hc hh1z hzr hA2 he h0 hst hy2 hk hnk hgl
            go_wp2_with fail
            with_reducible refine (HP.out _).mono ?_
            rintro e w2 ⟨rfl, rfl⟩
            go_wp2_with fail
            have hw1 : IntKind.i64.wrap (k : Int) = (k : Int) := by rw [IntKind.wrap_i64]; omega
            go_still_tail 26, (by kernel_rfl)
            clear hw1
            change wpList _ _ _ _ _ wr.drew
            have HSd := Lib.hid (HS.out.on (Below.refl _ _).drew)
            clear q1 q2 q3 q4 b1 b2 b3
            obtain ⟨q1, q2, q3, q4⟩ := HSd.out.c0
            obtain ⟨g', e', b1, b2, b3, _, hst⟩ := HSd.out.last
            injection e' with e'
            injection e' with e' _ _
            subst e'
            rw [HK.out] at b1 b2 b3 hst
            have HS2 := Lib.hid (hst A2)
            clear HSd HS hst
            generalize wr.drew = V at *
            go_wp2_with fail
            exact ⟨⟨r2, A, _, n, c, l0 ++ [(y1, A2)], rfl, hr2s, HS2, HJ2, HF2⟩, hmeas⟩
        · obtain ⟨kp, hkp⟩ : ∃ k, capS (bl r) = k := ⟨_, rfl⟩
          obtain ⟨nm, hnm⟩ : ∃ x, ofl (capN (bl r)) = x := ⟨_, rfl⟩
          rw [hkp, hnm] at HP
          obtain ⟨tt, hsh, hnb⟩ := capN_shape hc
          have hbn : bl nm = capN (bl r) := by
            rw [← hnm]
            refine bl_ofl fun z hz => ?_
            exact bl_byt r z (by rw [hsh]; simp [hz])
          have hkl : kp = (capN (bl r)).length + 2 := by rw [← hkp]; unfold capS; rw [if_neg hc]
          have hkr : kp ≤ r.size := by
            have := congrArg List.length hsh
            rw [bl_len] at this
            simp only [List.length_cons, List.length_append] at this
            omega
          have k0 : (0 : Int) ≤ (kp : Int) := by omega
          have k1 : (kp : Int) ≤ (r.size : Int) := by omega
          have k2 : decide ((0 : Int) < (kp : Int)) = true := decide_eq_true (by omega)
          have k3 : decide (0 < kp) = true := decide_eq_true (by omega)
          obtain ⟨r2, hr2⟩ : ∃ h, r.extract kp r.size = h := ⟨_, rfl⟩
          have hb2 : bl r2 = (bl r).drop kp := by rw [← hr2, bl_extract, ← bl_len, List.take_length]
          have hr2s : r2.size ≤ s.size := by rw [← bl_len, hb2, List.length_drop, bl_len]; omega
          have hmeas : r2.size < r.size := by rw [← bl_len, hb2, List.length_drop, bl_len]; omega
          have HJ2 : Hid (joinC (bl A) (toC (l ++ [(nm, ByteArray.empty)])) (segs 0 (bl r2)) = segs 0 (bl s)) := Lib.hid (by
            rw [← HJ.out, toC_snoc, hb2, hkl, hbn]
            exact join_cap hc)
          have HBad : Hid (¬ (((toC l) = [] ∨ ((toC l).getLastD ([], [])).2 ≠ []) ∧ bl nm ∉ namesC (toC l)) → ¬ okC (bl s)) := Lib.hid (by
            rw [hbn]
            exact bad_cap hc HJ.out)
          have HF2 : Hid ((((toC l) = [] ∨ ((toC l).getLastD ([], [])).2 ≠ []) ∧ bl nm ∉ namesC (toC l)) → fineC (toC (l ++ [(nm, ByteArray.empty)]))) := Lib.hid (fun k => by
            rw [toC_snoc, fineC_snoc]
            exact ⟨HF.out, k.1, k.2⟩)
          have hr := HS.out.row
          have HR := Lib.hid hr
          have hl9 : n ≤ 1000000 := by omega
          have HB := Lib.hid HS.out.2.2
          clear hkp hnm hkl hkr hr hb2 hsh hnb hbn hjl hln h0
          rcases List.eq_nil_or_concat l with el | ⟨l0, y, el⟩
          · subst el
            obtain rfl : n = 0 := hn.symm
            have HL1 : Hid ((toC ([] : List Lb)) = [] ∨ ((toC ([] : List Lb)).getLastD ([], [])).2 ≠ []) := Lib.hid (.inl rfl)
            clear hL hrl hc hn
            go_wp2_with fail
            with_reducible refine (HP.out _).mono ?_
            rintro e w2 ⟨rfl, rfl⟩
            go_wp2_with fail
            go_quiet (fail)
            have HSn := Lib.hid (HS.out.on (Below.dn (Below.refl wr.heap.size wr) nq))
            clear q1 q2 q3 q4 HS HR HB 
            obtain ⟨V, hV⟩ : ∃ V, wr.drewN nq = V := ⟨_, rfl⟩
            rw [hV] at HSn ⊢
            clear hV
            go_wp2_with fail
            go_loopw [8] (fun p v => ∃ i : Nat, i ≤ 0 ∧ p = .int .i64 (i : Int) ∧ Hid (nm ≠ ⟨#[95]⟩ → ∀ j, j < i → (([] : List Lb).getD j noL).1 ≠ nm) ∧ Hid (CSt w 67 71 A a 0 c ([] : List Lb) v)) (fun p _ => 0 - (intOf p).toNat)
            case atStart => exact ⟨0, by omega, rfl, Lib.hid (fun _ j hj => by omega), HSn⟩
            case round =>
              clear HSn
              obtain ⟨i, hi, rfl, HI, HSn⟩ := hrel
              rename World => v
              obtain ⟨q1, q2, q3, q4⟩ := HSn.out.c0
              have HR := Lib.hid HSn.out.row
              have HB := Lib.hid HSn.out.2.2
              by_cases hlt : i < 0
              · exact absurd hlt (by omega)
              · obtain rfl : 0 = i := by omega
                have f1 : decide ((0 : Int) < (0 : Int)) = false := decide_eq_false (by omega)
                have HIn : Hid (bl nm ∉ namesC (toC ([] : List Lb))) := Lib.hid (fun hm => by
                  obtain ⟨h1, x, hx, h2⟩ := namesC_mem.1 hm
                  obtain ⟨j, hj, e⟩ := List.getElem_of_mem hx
                  have hjn : j < 0 := by have := HSn.out.len; omega
                  refine HI.out h1 j hjn ?_
                  rw [List.getD_eq_getElem?_getD, List.getElem?_eq_getElem hj, Option.getD_some, e]
                  exact h2)
                have HF3 := Lib.hid (HF2.out ⟨HL1.out, HIn.out⟩)
                have hvs : w.heap.size + 1 ≤ (v.alloc (.cells #[.string nm, .string ⟨#[]⟩] 71)).heap.size := by rw [World.size_alloc]; have := HSn.out.lt; omega
                have hrow1 := RowL.one v 71 nm ⟨#[]⟩
                have HBa := Lib.hid ((Below.refl v.heap.size v).alloc (Nat.le_refl _) (.cells #[.string nm, .string ⟨#[]⟩] 71))
                clear HI HIn hlt hi
                go_wp2_with (at_builtin; refine wpList_appL _ rfl _ _ 65 rfl (w.heap.size + 1) 71 i0 Try.underlying65 hi0 hz0 hz1 hz2 _ 0 _ rfl (HSn.out.on HBa.out).2.1 _ _ 1 1 [(nm, ⟨#[]⟩)] rfl hrow1 (by omega) hvs ?_)
                intro v' w' ho _ hb
                obtain ⟨A2, c2, e2⟩ := ownL_slice ho
                subst e2
                have hc2 : cL ([] : List Lb) ++ cL [((nm, ⟨#[]⟩) : Lb)] = cL (([] : List Lb) ++ [((nm, ⟨#[]⟩) : Lb)]) := (cL_app _ _).symm
                rw [hc2] at ho
                obtain ⟨p1, p2, p3, p4⟩ := (HSn.out.on HBa.out).put ho hb
                have HSe := Lib.hid p1
                clear ho hb hc2 p1 hrow1 q1 q2 q3 q4
                go_wp2_with fail
                exact ⟨⟨r2, A, A2, 0 + 1, c2, ([] : List Lb) ++ [(nm, ⟨#[]⟩)], rfl, hr2s, HSe, HJ2, HF3⟩, hmeas⟩
          · rw [List.concat_eq_append] at el
            subst el
            obtain ⟨g, rfl, b1, b2, b3, hgl, hst⟩ := HS.out.last
            obtain ⟨k, hk⟩ : ∃ k, l0.length = k := ⟨_, rfl⟩
            rw [hk] at b1 b2 b3 hst
            have hnk : n = k + 1 := by rw [← hn, ← hk]; simp
            have i1 : (n : Int) - 1 = (k : Int) := by omega
            have i2 : decide ((0 : Int) < (n : Int)) = true := decide_eq_true (by omega)
            have i5 : decide (0 < n) = true := decide_eq_true (by omega)
            have i3 : (0 : Int) ≤ (k : Int) := by omega
            have i4 : (k : Int) < (n : Int) := by omega
            have hw1 : IntKind.i64.wrap (k : Int) = (k : Int) := by rw [IntKind.wrap_i64]; omega
            by_cases hy : y.2 = ByteArray.empty
            · have HN : Hid (¬ okC (bl s)) := Lib.hid (HBad.out (by
                rw [toC_snoc, List.getLastD_concat]
                rintro ⟨h1 | h1, _⟩
                · simp at h1
                · exact h1 (by rw [hy]; rfl)))
              rw [hy] at b2
              have t3 : ByteArray.empty.toList.isEmpty = true := by rw [ByteArray.toList_eq]; rfl
              clear hL hrl hc hn hk hnk hst hgl hy
              go_wp2_with fail
              with_reducible refine (HP.out _).mono ?_
              rintro e w2 ⟨rfl, rfl⟩
              go_wp2_with fail
              go_quiet (fail)
              replace HB := Lib.hid (next HB.out (Below.dn (Below.refl wr.heap.size wr) nq))
              go_wp2_with fail
              go_ret2
              exact ⟨HB.out, .inr ⟨HN.out, rfl⟩⟩
            · have t3 : y.2.toList.isEmpty = false := by
                cases hyl : bl y.2 with
                | nil => exact absurd (bl_nil.2 hyl) hy
                | cons c t => exact isEmpty_no hyl
              have HL1 : Hid ((toC (l0 ++ [y])) = [] ∨ ((toC (l0 ++ [y])).getLastD ([], [])).2 ≠ []) := Lib.hid (.inr (by
                rw [toC_snoc, List.getLastD_concat]
                exact fun h1 => hy (bl_nil.2 h1)))
              obtain ⟨y1, y2⟩ := y
              dsimp only at b1 b2 t3
              clear hL hrl hc hn hk hnk hst hgl hy
              go_wp2_with fail
              with_reducible refine (HP.out _).mono ?_
              rintro e w2 ⟨rfl, rfl⟩
              go_wp2_with fail
              go_quiet (fail)
              have HSn := Lib.hid (HS.out.on (Below.dn (Below.refl wr.heap.size wr) nq))
              clear q1 q2 q3 q4 HS HR HB b1 b2 b3 hw1
              obtain ⟨V, hV⟩ : ∃ V, wr.drewN nq = V := ⟨_, rfl⟩
              rw [hV] at HSn ⊢
              clear hV
              go_wp2_with fail
              go_loopw [8] (fun p v => ∃ i : Nat, i ≤ n ∧ p = .int .i64 (i : Int) ∧ Hid (nm ≠ ⟨#[95]⟩ → ∀ j, j < i → ((l0 ++ [(y1, y2)]).getD j noL).1 ≠ nm) ∧ Hid (CSt w 67 71 A (some ⟨g, 0, none⟩) n c (l0 ++ [(y1, y2)]) v)) (fun p _ => n - (intOf p).toNat)
              case atStart => exact ⟨0, by omega, rfl, Lib.hid (fun _ j hj => by omega), HSn⟩
              case round =>
                clear HSn
                obtain ⟨i, hi, rfl, HI, HSn⟩ := hrel
                rename World => v
                obtain ⟨q1, q2, q3, q4⟩ := HSn.out.c0
                have HR := Lib.hid HSn.out.row
                have HB := Lib.hid HSn.out.2.2
                by_cases hlt : i < n
                · obtain ⟨g2, off, hA, hgB, hc⟩ := HR.out.2 (by omega)
                  injection hA with hA
                  injection hA with hA1 hA2 _
                  subst hA1
                  subst hA2
                  have a1 := (hc i hlt).1
                  rw [Nat.zero_add] at a1
                  obtain ⟨x, hx⟩ : ∃ x, ((l0 ++ [(y1, y2)]).getD i noL).1 = x := ⟨_, rfl⟩
                  rw [hx] at a1
                  have g0 : (0 : Int) ≤ (i : Int) := by omega
                  have g1 : (i : Int) < (n : Int) := by omega
                  have f1 : decide ((i : Int) < (n : Int)) = true := decide_eq_true g1
                  have HK := Lib.hid hlt
                  by_cases hu : nm = ⟨#[95]⟩
                  · have t1 : (nm.toList == [95]) = true := (lit_eq nm [95]).trans (decide_eq_true hu)
                    have HI2 : Hid (nm ≠ ⟨#[95]⟩ → ∀ j, j < i + 1 → ((l0 ++ [(y1, y2)]).getD j noL).1 ≠ nm) := Lib.hid (fun k => absurd hu k)
                    clear hu hx hc hlt
                    go_wp2_with fail
                    exact ⟨⟨i + 1, HK.out, by go_num, HI2, HSn⟩, by have := HK.out; simp [intOf]; omega⟩
                  · have t1 : (nm.toList == [95]) = false := (lit_eq nm [95]).trans (decide_eq_false hu)
                    by_cases hxn : x = nm
                    · have t2 : (x.toList == nm.toList) = true := (eq_eq x nm).trans (decide_eq_true hxn)
                      have HN : Hid (¬ okC (bl s)) := Lib.hid (HBad.out (by
                        rintro ⟨_, k⟩
                        have hil : i < ((l0 ++ [(y1, y2)])).length := by have := HSn.out.len; omega
                        exact k (namesC_mem.2 ⟨hu, (l0 ++ [(y1, y2)]).getD i noL, getD_memL hil, by rw [hx, hxn]⟩)))
                      clear hu hx hc hlt hxn
                      go_wp2_with fail
                      go_ret2
                      exact ⟨HB.out, .inr ⟨HN.out, rfl⟩⟩
                    · have t2 : (x.toList == nm.toList) = false := (eq_eq x nm).trans (decide_eq_false hxn)
                      have HI2 : Hid (nm ≠ ⟨#[95]⟩ → ∀ j, j < i + 1 → ((l0 ++ [(y1, y2)]).getD j noL).1 ≠ nm) := Lib.hid (fun k j hj => by
                        rcases Nat.lt_succ_iff_lt_or_eq.1 hj with hj | rfl
                        · exact HI.out k j hj
                        · rw [hx]; exact hxn)
                      clear hu hx hc hlt hxn
                      go_wp2_with fail
                      exact ⟨⟨i + 1, HK.out, by go_num, HI2, HSn⟩, by have := HK.out; simp [intOf]; omega⟩
                · obtain rfl : n = i := by omega
                  have f1 : decide ((n : Int) < (n : Int)) = false := decide_eq_false (by omega)
                  have HIn : Hid (bl nm ∉ namesC (toC (l0 ++ [(y1, y2)]))) := Lib.hid (fun hm => by
                    obtain ⟨h1, x, hx, h2⟩ := namesC_mem.1 hm
                    obtain ⟨j, hj, e⟩ := List.getElem_of_mem hx
                    have hjn : j < n := by have := HSn.out.len; omega
                    refine HI.out h1 j hjn ?_
                    rw [List.getD_eq_getElem?_getD, List.getElem?_eq_getElem hj, Option.getD_some, e]
                    exact h2)
                  have HF3 := Lib.hid (HF2.out ⟨HL1.out, HIn.out⟩)
                  have hvs : w.heap.size + 1 ≤ (v.alloc (.cells #[.string nm, .string ⟨#[]⟩] 71)).heap.size := by rw [World.size_alloc]; have := HSn.out.lt; omega
                  have hrow1 := RowL.one v 71 nm ⟨#[]⟩
                  have HBa := Lib.hid ((Below.refl v.heap.size v).alloc (Nat.le_refl _) (.cells #[.string nm, .string ⟨#[]⟩] 71))
                  clear HI HIn hlt hi
                  go_wp2_with (at_builtin; refine wpList_appL _ rfl _ _ 65 rfl (w.heap.size + 1) 71 i0 Try.underlying65 hi0 hz0 hz1 hz2 _ n _ rfl (HSn.out.on HBa.out).2.1 _ _ 1 1 [(nm, ⟨#[]⟩)] rfl hrow1 (by omega) hvs ?_)
                  intro v' w' ho _ hb
                  obtain ⟨A2, c2, e2⟩ := ownL_slice ho
                  subst e2
                  have hc2 : cL (l0 ++ [(y1, y2)]) ++ cL [((nm, ⟨#[]⟩) : Lb)] = cL ((l0 ++ [(y1, y2)]) ++ [((nm, ⟨#[]⟩) : Lb)]) := (cL_app _ _).symm
                  rw [hc2] at ho
                  obtain ⟨p1, p2, p3, p4⟩ := (HSn.out.on HBa.out).put ho hb
                  have HSe := Lib.hid p1
                  clear ho hb hc2 p1 hrow1 q1 q2 q3 q4
                  go_wp2_with fail
                  exact ⟨⟨r2, A, A2, n + 1, c2, (l0 ++ [(y1, y2)]) ++ [(nm, ⟨#[]⟩)], rfl, hr2s, HSe, HJ2, HF3⟩, hmeas⟩
  · have f0 : decide ((256 : Int) < (s.size : Int)) = true := decide_eq_true (by omega)
    have hno : ¬ okC (bl s) := fun k => by have := k.1; rw [bl_len] at this; omega
    have HN := Lib.hid hno
    clear hno
    go_enter Try.func9, Try.ntmps9
    go_wp2_with fail
    go_ret2
    exact ⟨HB0.out, .inr ⟨HN.out, rfl⟩⟩
end Go.Proofs.Ytomjdicedjdpnaa
