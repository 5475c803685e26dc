/- The document's Both, Equal, Check, Size. -/
import Derived.Test.YtjnnaafkdgoflaaRDoc
namespace Go.Proofs.Ytjnnaafkdgoflaa
open Go.RowKit

theorem own_lowR {w : World} {base base' n : Nat} {e : TypeId} {v : Value} {xs : List Value} (hb : base' ≤ base) (h : w.ownsRow base e 2 v n xs) : w.ownsRow base' e 2 v n xs :=
  ⟨h.1, h.2.imp id (fun ⟨g, cap, cur, h1, h2, r⟩ => ⟨g, cap, cur, h1, Nat.le_trans hb h2, r⟩)⟩
theorem RowR.len {w : World} {B n : Nat} {A : Option Addr} {l : List Rg} (h : RowR w B A n l) : RowR w B A l.length l := by rw [h.1]; exact h
set_option maxRecDepth 100000 in
set_option maxHeartbeats 4000000 in
theorem rBoth_any (A A' : Option Addr) (n m c c' : Nat) (a b : List Rg) (w : World) (hr : RowR w w.heap.size A n a) (hs : RowR w w.heap.size A' m b) (hn : n ≤ 1000000000) (hm : m ≤ 1000000000) :
    Calls Try.prog 25 #[.slice A n c, .slice A' m c'] w (OutR 45 w (fun r => has a r ∧ has b r)) := by
  obtain ⟨i0, hi, hz0, hz1, hz2⟩ := info_parts rg_info
  have HC1 := Lib.hid (rNot_any A n c a w hr hn)
  have HC2 := Lib.hid (fun w' (hb : Below w.heap.size w w') => rNot_any A' m c' b w' (hs.on hb) hm)
  clear hr hs
  go_enter Try.func25, Try.ntmps25
  go_wp2_with fail
  with_reducible refine HC1.out.mono ?_
  rintro e w1 ⟨A1, c1, l1, rfl, h1, o1, b1⟩
  have HO1 := Lib.hid h1
  have hsh := h1.1.short
  have hr1 := RowR.own o1
  clear h1 HC1
  go_wp2_with (at_builtin; refine wpList_appR _ rfl (.tmp 6) (.tmp 8) 22 rfl w.heap.size 45 i0 Try.underlying22 hi hz0 hz1 hz2 _ 0 [] rfl (World.ownsRow_nil _ _ _ _) _ _ _ _ _ rfl hr1 (by omega) b1.size ?_)
  intro v2 w2 o2 _ b2
  have hb2 : Below w.heap.size w w2 := b1.trans b2
  have HC3 := Lib.hid (HC2.out w2 hb2)
  have HB2 := Lib.hid hb2
  have HOw := Lib.hid o2
  clear o1 o2 b1 b2 hb2 hr1 HC2
  go_wp2_with fail
  with_reducible refine HC3.out.mono ?_
  rintro e w3 ⟨A3, c3, l3, rfl, h3, o3, b3⟩
  have HO3 := Lib.hid h3
  have hsh3 := h3.1.short
  have hr3 := RowR.own o3
  have hb3 := next HB2.out b3
  have o2 := own_onR HOw.out b3
  clear h3 HC3 HOw HB2 o3 b3
  go_wp2_with (at_builtin; refine wpList_appR _ rfl (.tmp 9) (.tmp 11) 22 rfl w.heap.size 45 i0 Try.underlying22 hi hz0 hz1 hz2 _ _ _ rfl o2 _ _ _ _ _ rfl hr3 (by omega) hb3.size ?_)
  intro v4 w4 o4 _ b4
  have hb4 : Below w.heap.size w w4 := hb3.trans b4
  obtain ⟨A4, c4, rfl⟩ := ownR_slice o4
  have ho : w4.ownsRow w.heap.size 45 2 (.slice A4 (0 + l1.length + l3.length) c4) (0 + l1.length + l3.length) (cR (l1 ++ l3)) := by
    rw [cR_app]; simpa using o4
  have HC5 := Lib.hid (rNot_any A4 (0 + l1.length + l3.length) c4 (l1 ++ l3) w4 (RowR.own ho) (by omega))
  rw [Nat.zero_add] at HC5
  have HB4 := Lib.hid hb4
  have HS : Hid (∀ r, (isRn r ∧ ¬ has (l1 ++ l3) r) ↔ (has a r ∧ has b r)) := Lib.hid (fun r => by
    have e1 := HO1.out.2 r
    have e3 := HO3.out.2 r
    unfold has
    rw [inR_append, e1, e3]
    unfold has
    constructor
    · rintro ⟨k0, k1⟩
      exact ⟨⟨k0, Classical.byContradiction fun k => k1 ⟨k0, .inl ⟨k0, fun q => k q.2⟩⟩⟩, ⟨k0, Classical.byContradiction fun k => k1 ⟨k0, .inr ⟨k0, fun q => k q.2⟩⟩⟩⟩
    · rintro ⟨⟨k0, k1⟩, _, k2⟩
      exact ⟨k0, fun q => q.2.elim (fun q => q.2 ⟨k0, k1⟩) (fun q => q.2 ⟨k0, k2⟩)⟩)
  clear o2 o4 ho hb3 hb4 b4 hr3 hsh hsh3 HO1 HO3
  go_wp2_with fail
  with_reducible refine HC5.out.mono ?_
  rintro e w5 ⟨A5, c5, l5, rfl, h5, o5, b5⟩
  have HF := Lib.hid (h5.same HS.out)
  have hb5 := next HB4.out b5
  have o6 : w5.ownsRow w.heap.size 45 2 (.slice A5 l5.length c5) l5.length (cR l5) := own_lowR HB4.out.size o5
  clear h5 HC5 o5 b5
  go_wp2_with fail
  go_ret
  exact ⟨A5, c5, l5, rfl, HF.out, o6, hb5⟩
theorem getD_neR {es fs : List Rg} {j : Nat} (h : es.getD j (0, 0) ≠ fs.getD j (0, 0)) : es ≠ fs := by
  rintro rfl
  exact h rfl
set_option maxRecDepth 100000 in
set_option maxHeartbeats 4000000 in
theorem rEqual_any (A A' : Option Addr) (n m c c' : Nat) (es fs : List Rg) (w : World) (hr : RowR w w.heap.size A n es) (hs : RowR w w.heap.size A' m fs) (hn : n ≤ 1000000000) (hm : m ≤ 1000000000) :
    Calls Try.prog 10 #[.slice A n c, .slice A' m c'] w fun e w' => e = .returned (.bool (decide (es = fs))) ∧ Below w.heap.size w w' := by
  by_cases hne : n = m
  · subst hne
    have HR := Lib.hid hr
    have HS := Lib.hid hs
    clear hr hs
    go_enter Try.func10, Try.ntmps10
    go_wp2_with fail
    go_loopw [5] (fun s5 wr => ∃ k : Nat, k ≤ n ∧ s5 = .int .i64 k ∧ Hid (es.take k = fs.take k) ∧ Below w.heap.size w wr) (fun i _ => n - (intOf i).toNat)
    case atStart => exact ⟨0, Nat.zero_le _, rfl, Lib.hid rfl, Below.refl _ _⟩
    case round =>
      obtain ⟨k, hk, rfl, HT, hb⟩ := hrel
      rename World => wr
      by_cases hlt : k < n
      · have hlt' : (k : Int) < (n : Int) := by omega
        have hk0 : (0 : Int) ≤ (k : Int) := by omega
        obtain ⟨b, off, rfl, hb1, h1⟩ := HR.out.2 (by omega)
        obtain ⟨b', off', rfl, hb2, h2⟩ := HS.out.2 (by omega)
        obtain ⟨a1, a2⟩ := h1 k hlt
        obtain ⟨a3, a4⟩ := h2 k hlt
        replace a1 := (hb.cell (p := ⟨b, off + k * 2, none⟩) hb1).trans a1
        replace a2 := (hb.cell (p := ⟨b, off + k * 2 + 1, none⟩) hb1).trans a2
        replace a3 := (hb.cell (p := ⟨b', off' + k * 2, none⟩) hb2).trans a3
        replace a4 := (hb.cell (p := ⟨b', off' + k * 2 + 1, none⟩) hb2).trans a4
        obtain ⟨⟨t, s⟩, hx⟩ : ∃ x, es.getD k (0, 0) = x := ⟨_, rfl⟩
        obtain ⟨⟨t', s'⟩, hx'⟩ : ∃ x, fs.getD k (0, 0) = x := ⟨_, rfl⟩
        have HX : Hid (es.getD k (0, 0) = (t, s) ∧ fs.getD k (0, 0) = (t', s')) := Lib.hid ⟨hx, hx'⟩
        rw [hx] at a1 a2
        rw [hx'] at a3 a4
        dsimp only at a1 a2 a3 a4
        replace hb := Lib.hid hb
        clear hx hx' h1 h2
        by_cases hte : t = t'
        · subst hte
          have hb1 : (t == t) = true := beq_self_eq_true t
          by_cases hse : s = s'
          · subst hse
            have hb2 : (s == s) = true := beq_self_eq_true s
            have HT1 : Hid (es.take (k + 1) = fs.take (k + 1)) := Lib.hid (by
              rw [take_snocR (by rw [HR.out.1]; exact hlt), take_snocR (by rw [HS.out.1]; exact hlt), HT.out, HX.out.1, HX.out.2])
            go_wp2_with fail
            go_quiet (fail)
            go_wp2_with fail
            refine ⟨⟨k + 1, hlt, by go_num, HT1, Below.dn hb.out _⟩, ?_⟩
            simp [intOf]
            omega
          · have hb2 : (s == s') = false := beq_eq_false_iff_ne.2 hse
            have HF : Hid (decide (es = fs) = false) := Lib.hid (decide_eq_false (getD_neR (j := k) (by rw [HX.out.1, HX.out.2]; simpa using hse)))
            go_wp2_with fail
            go_quiet (fail)
            go_wp2_with fail
            go_ret
            exact ⟨by rw [HF.out]; rfl, Below.dn hb.out _⟩
        · have hb1 : (t == t') = false := beq_eq_false_iff_ne.2 hte
          have HF : Hid (decide (es = fs) = false) := Lib.hid (decide_eq_false (getD_neR (j := k) (by rw [HX.out.1, HX.out.2]; simp [hte])))
          go_wp2_with fail
          go_quiet (fail)
          go_wp2_with fail
          go_ret
          exact ⟨by rw [HF.out]; rfl, Below.dn hb.out _⟩
      · have hkn : k = n := by omega
        subst hkn
        have HF : Hid (decide (es = fs) = true) := Lib.hid (by
          have := HT.out
          rw [List.take_of_length_le (by rw [HR.out.1]; exact Nat.le_refl _), List.take_of_length_le (by rw [HS.out.1]; exact Nat.le_refl _)] at this
          simp [this])
        clear hlt hk
        go_wp2_with fail
        go_ret
        exact ⟨by rw [HF.out]; rfl, hb⟩
  · have hne' : ¬ (n : Int) = (m : Int) := by omega
    have HF : Hid (decide (es = fs) = false) := Lib.hid (by
      rw [decide_eq_false_iff_not]
      rintro rfl
      exact hne (hr.1.symm.trans hs.1))
    clear hr hs
    go_enter Try.func10, Try.ntmps10
    go_wp2
    go_ret
    exact ⟨by rw [HF.out]; rfl, Below.refl _ _⟩
instance (l : List Rg) : Decidable (Vl l) := by unfold Vl; infer_instance
theorem Vl.iff_own {l out : List Rg} (h : Of (has l) out) : l = out ↔ Vl l :=
  ⟨fun e => by rw [e]; exact h.1, fun hv => Vl.one hv h.1 fun n => ⟨fun k => (h.2 n).2 ⟨hv.rune k, k⟩, fun k => ((h.2 n).1 k).2⟩⟩
set_option maxRecDepth 100000 in
theorem rCheck_any (A : Option Addr) (n c : Nat) (l : List Rg) (w : World) (hr : RowR w w.heap.size A n l) (hn : n ≤ 1000000000) :
    Calls Try.prog 17 #[.slice A n c] w fun e w' => e = .returned (.bool (decide (Vl l))) ∧ Below w.heap.size w w' := by
  have HC1 := Lib.hid (rOf_any A n c l w hr hn)
  have HR := Lib.hid hr
  clear hr
  go_enter Try.func17, Try.ntmps17
  go_wp2_with fail
  with_reducible refine HC1.out.mono ?_
  rintro e w1 ⟨A1, c1, l1, rfl, h1, o1, b1⟩
  have HC2 := Lib.hid (rEqual_any A A1 n l1.length c c1 l l1 w1 (HR.out.on b1) (RowR.own o1) hn (by have := h1.1.short; omega))
  have HF : Hid (decide (l = l1) = decide (Vl l)) := Lib.hid (decide_eq_decide.2 (Vl.iff_own h1))
  have HB := Lib.hid b1
  clear HC1 h1 o1 b1
  go_wp2_with fail
  with_reducible refine HC2.out.mono ?_
  rintro e w2 ⟨rfl, b2⟩
  have hb2 := next HB.out b2
  rw [HF.out]
  clear b2 HC2
  go_wp2_with fail
  go_ret
  exact ⟨rfl, hb2⟩
end Go.Proofs.Ytjnnaafkdgoflaa
