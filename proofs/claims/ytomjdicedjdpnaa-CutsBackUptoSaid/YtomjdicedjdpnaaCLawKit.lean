/- The laws' helpers. -/
import Derived.Test.YtomjdicedjdpnaaCNew
import Derived.Test.YtomjdicedjdpnaaCNames
import Derived.Test.YtomjdicedjdpnaaCMatch
namespace Go.Proofs.Ytomjdicedjdpnaa
open Go.RowKit

set_option maxRecDepth 100000 in
set_option maxHeartbeats 4000000 in
theorem same18_any (A A' : Option Addr) (n m c c' : Nat) (es fs : List Lb) (w : World) (hr : RowL w w.heap.size A n es) (hs : RowL w w.heap.size A' m fs) (hn : n ≤ 100000000) (hm : m ≤ 100000000) :
    Calls Try.prog 13 #[.slice A n c, .slice A' m c'] w fun e w' => e = .returned (.bool (decide (es = fs))) ∧ Below w.heap.size w w' := by
  by_cases hne : n = m
  · subst hne
    have HR := Lib.hid hr
    have HS := Lib.hid hs
    have b0 : ((n : Int) == (n : Int)) = true := beq_self_eq_true _
    clear hr hs
    go_enter Try.func13, Try.ntmps13
    go_wp2_with fail
    go_loopw [5] (fun s5 wr => ∃ k : Nat, k ≤ n ∧ s5 = .int .i64 k ∧ Hid (es.take k = fs.take k) ∧ Below w.heap.size w wr) (fun i _ => n - (intOf i).toNat)
    case atStart => exact ⟨0, Nat.zero_le _, rfl, Lib.hid rfl, Below.refl _ _⟩
    case round =>
      obtain ⟨k, hk, rfl, HT, hb⟩ := hrel
      by_cases hlt : k < n
      · have hlt' : (k : Int) < (n : Int) := by omega
        have hk0 : (0 : Int) ≤ (k : Int) := by omega
        have f1 : decide ((k : Int) < (n : Int)) = true := decide_eq_true hlt'
        obtain ⟨b, off, rfl, hb1, h1⟩ := HR.out.2 (by omega)
        obtain ⟨b', off', rfl, hb2, h2⟩ := HS.out.2 (by omega)
        obtain ⟨a1, a2⟩ := h1 k hlt
        obtain ⟨a3, a4⟩ := h2 k hlt
        replace a1 := (hb.cell (p := ⟨b, off + k * 2, none⟩) hb1).trans a1
        replace a2 := (hb.cell (p := ⟨b, off + k * 2 + 1, none⟩) hb1).trans a2
        replace a3 := (hb.cell (p := ⟨b', off' + k * 2, none⟩) hb2).trans a3
        replace a4 := (hb.cell (p := ⟨b', off' + k * 2 + 1, none⟩) hb2).trans a4
        obtain ⟨⟨t, s⟩, hx⟩ : ∃ x, es.getD k noL = x := ⟨_, rfl⟩
        obtain ⟨⟨t', s'⟩, hx'⟩ : ∃ x, fs.getD k noL = x := ⟨_, rfl⟩
        have HX : Hid (es.getD k noL = (t, s) ∧ fs.getD k noL = (t', s')) := Lib.hid ⟨hx, hx'⟩
        rw [hx] at a1 a2
        rw [hx'] at a3 a4
        dsimp only at a1 a2 a3 a4
        replace hb := Lib.hid hb
        clear hx hx' h1 h2
        by_cases hte : t = t'
        · have hq1 := seq_yes hte
          by_cases hse : s = s'
          · have hq2 := seq_yes hse
            have HT1 : Hid (es.take (k + 1) = fs.take (k + 1)) := Lib.hid (by
              rw [take_snocL (by rw [HR.out.1]; exact hlt), take_snocL (by rw [HS.out.1]; exact hlt), HT.out, HX.out.1, HX.out.2, hte, hse])
            clear hte hse
            go_wp2_with fail
            go_quiet (fail)
            go_wp2_with fail
            exact ⟨⟨k + 1, hlt, by go_num, HT1, Below.dn hb.out _⟩, by simp [intOf]; omega⟩
          · have hq2 := seq_no hse
            have HF : Hid (decide (es = fs) = false) := Lib.hid (decide_eq_false (getD_neL (j := k) (by rw [HX.out.1, HX.out.2]; simpa [hte] using hse)))
            clear hte hse
            go_wp2_with fail
            go_quiet (fail)
            go_wp2_with fail
            go_ret
            exact ⟨by rw [HF.out]; rfl, Below.dn hb.out _⟩
        · have hq1 := seq_no hte
          have HF : Hid (decide (es = fs) = false) := Lib.hid (decide_eq_false (getD_neL (j := k) (by rw [HX.out.1, HX.out.2]; simp [hte])))
          obtain ⟨q2, hq2⟩ : ∃ q, (s.toList == s'.toList) = q := ⟨_, rfl⟩
          clear hte
          go_wp2_with fail
          go_quiet (fail)
          go_wp2_with fail
          go_ret
          exact ⟨by rw [HF.out]; rfl, Below.dn hb.out _⟩
      · have hkn : k = n := by omega
        have f1 : decide ((k : Int) < (n : Int)) = false := decide_eq_false (by omega)
        have HF : Hid (decide (es = fs) = true) := Lib.hid (by
          have := HT.out
          rw [List.take_of_length_le (by rw [HR.out.1]; omega), List.take_of_length_le (by rw [HS.out.1]; omega)] at this
          simp [this])
        clear hk hkn
        go_wp2_with fail
        go_ret
        exact ⟨by rw [HF.out]; rfl, hb⟩
  · have hne' : ¬ (n : Int) = (m : Int) := by omega
    have b0 : ((n : Int) == (m : Int)) = false := beq_eq_false_iff_ne.2 hne'
    have HF : Hid (decide (es = fs) = false) := Lib.hid (by
      rw [decide_eq_false_iff_not]
      rintro rfl
      exact hne (hr.1.symm.trans hs.1))
    clear hr hs
    go_enter Try.func13, Try.ntmps13
    go_wp2_with fail
    go_ret
    exact ⟨by rw [HF.out]; rfl, Below.refl _ _⟩
set_option maxRecDepth 100000 in
set_option maxHeartbeats 4000000 in
theorem texts_any (A A' : Option Addr) (n m c c' : Nat) (es fs : List ByteArray) (w : World) (hr : Row w w.heap.size A n (strs es)) (hs : Row w w.heap.size A' m (strs fs)) (hn : n ≤ 100000000) (hm : m ≤ 100000000) :
    Calls Try.prog 14 #[.slice A n c, .slice A' m c'] w fun e w' => e = .returned (.bool (decide (es = fs))) ∧ Below w.heap.size w w' := by
  have hel : es.length = n := by rw [← strs_len]; exact hr.1
  have hfl : fs.length = m := by rw [← strs_len]; exact hs.1
  have HEL := Lib.hid hel
  have HFL := Lib.hid hfl
  by_cases hne : n = m
  · subst hne
    have HR := Lib.hid hr
    have HS := Lib.hid hs
    have b0 : ((n : Int) == (n : Int)) = true := beq_self_eq_true _
    clear hr hs hel hfl
    go_enter Try.func14, Try.ntmps14
    go_wp2_with fail
    go_loopw [5] (fun s5 wr => ∃ k : Nat, k ≤ n ∧ s5 = .int .i64 k ∧ Hid (es.take k = fs.take k) ∧ Below w.heap.size w wr) (fun i _ => n - (intOf i).toNat)
    case atStart => exact ⟨0, Nat.zero_le _, rfl, Lib.hid rfl, Below.refl _ _⟩
    case round =>
      obtain ⟨k, hk, rfl, HT, hb⟩ := hrel
      by_cases hlt : k < n
      · have hlt' : (k : Int) < (n : Int) := by omega
        have hk0 : (0 : Int) ≤ (k : Int) := by omega
        have f1 : decide ((k : Int) < (n : Int)) = true := decide_eq_true hlt'
        obtain ⟨b, off, rfl, hb1, h1⟩ := HR.out.2 (by omega)
        obtain ⟨b', off', rfl, hb2, h2⟩ := HS.out.2 (by omega)
        have a1 := (hb.cell (p := ⟨b, off + k, none⟩) hb1).trans ((h1 k hlt).trans (strs_get _ _ (by rw [HEL.out]; exact hlt)))
        have a3 := (hb.cell (p := ⟨b', off' + k, none⟩) hb2).trans ((h2 k hlt).trans (strs_get _ _ (by rw [HFL.out]; exact hlt)))
        have e1 : es.take (k + 1) = es.take k ++ [es.getD k ByteArray.empty] := by rw [List.take_succ_eq_append_getElem (by rw [HEL.out]; exact hlt), List.getD_eq_getElem?_getD, List.getElem?_eq_getElem (by rw [HEL.out]; exact hlt)]; rfl
        have e2 : fs.take (k + 1) = fs.take k ++ [fs.getD k ByteArray.empty] := by rw [List.take_succ_eq_append_getElem (by rw [HFL.out]; exact hlt), List.getD_eq_getElem?_getD, List.getElem?_eq_getElem (by rw [HFL.out]; exact hlt)]; rfl
        obtain ⟨t, hx⟩ : ∃ x, es.getD k ByteArray.empty = x := ⟨_, rfl⟩
        obtain ⟨t', hx'⟩ : ∃ x, fs.getD k ByteArray.empty = x := ⟨_, rfl⟩
        have HX := Lib.hid (And.intro hx hx')
        rw [hx] at a1 e1
        rw [hx'] at a3 e2
        replace hb := Lib.hid hb
        by_cases hte : t = t'
        · have hq1 := seq_yes hte
          have HT1 : Hid (es.take (k + 1) = fs.take (k + 1)) := Lib.hid (by rw [e1, e2, HT.out, hte])
          clear hte hx hx' h1 h2 e1 e2
          go_wp2_with fail
          go_quiet (fail)
          go_wp2_with fail
          exact ⟨⟨k + 1, hlt, by go_num, HT1, Below.dn hb.out _⟩, by simp [intOf]; omega⟩
        · have hq1 := seq_no hte
          have HF : Hid (decide (es = fs) = false) := Lib.hid (decide_eq_false (fun e => hte (by rw [← HX.out.1, ← HX.out.2, e])))
          clear hte hx hx' h1 h2 e1 e2
          go_wp2_with fail
          go_quiet (fail)
          go_wp2_with fail
          go_ret
          exact ⟨by rw [HF.out]; rfl, Below.dn hb.out _⟩
      · have hkn : k = n := by omega
        have f3 : ¬ ((k : Int) < (n : Int)) := by omega
        have f1 : decide ((k : Int) < (n : Int)) = false := decide_eq_false f3
        have HF : Hid (decide (es = fs) = true) := Lib.hid (by
          have := HT.out
          rw [List.take_of_length_le (by rw [HEL.out]; omega), List.take_of_length_le (by rw [HFL.out]; omega)] at this
          simp [this])
        clear hk hkn
        go_wp2_with fail
        go_ret
        exact ⟨by rw [HF.out]; rfl, hb⟩
  · have hne' : ¬ (n : Int) = (m : Int) := by omega
    have b0 : ((n : Int) == (m : Int)) = false := beq_eq_false_iff_ne.2 hne'
    have HF : Hid (decide (es = fs) = false) := Lib.hid (by
      rw [decide_eq_false_iff_not]
      rintro rfl
      exact hne (hel.symm.trans hfl))
    clear hr hs hel hfl
    go_enter Try.func14, Try.ntmps14
    go_wp2_with fail
    go_ret
    exact ⟨by rw [HF.out]; rfl, Below.refl _ _⟩
/-- A line's parts by a pattern. -/
def cutV (p line : ByteArray) : Option (List Lb) := if okC (bl p) then matchC (ofl (segs 0 (bl p)).1) (capsL (bl p)) line else none
theorem caps_ne {p : List Nat} (h : okC p) : capsL p ≠ [] := by
  intro e
  unfold capsL at e
  have := h.2.2
  rw [List.map_eq_nil_iff.1 e] at this
  exact this rfl
theorem caps_len (p : List Nat) : (capsL p).length ≤ p.length := by
  unfold capsL
  rw [List.length_map]
  exact (segs_len 0 p).1
theorem okC_len {p : ByteArray} (h : okC (bl p)) : (capsL (bl p)).length ≤ 256 := by
  have := caps_len (bl p)
  have := h.1
  omega
set_option maxRecDepth 100000 in
set_option maxHeartbeats 4000000 in
theorem lcut_any (p line : ByteArray) (hp : p.size ≤ 1000000) (hs : line.size ≤ 100000000) (w : World) (hM : MX w) :
    Calls Try.prog 21 #[.string p, .string line] w (MOut w (cutV p line)) := by
  have HN := Lib.hid (New_any p hp w hM)
  have HM := Lib.hid hM
  clear hM
  go_enter Try.func21, Try.ntmps21
  go_wp2_with fail
  with_reducible refine HN.out.mono ?_
  rintro e w1 ⟨b1, ⟨hok, b, rfl, hc⟩ | ⟨hno, rfl⟩⟩
  · have HC := Lib.hid (Match_any b _ _ line w1 hc (caps_ne hok) (Nat.le_trans (okC_len hok) (by omega)) hs (HM.out.on b1))
    have HB := Lib.hid b1
    have HV : Hid (cutV p line = matchC (ofl (segs 0 (bl p)).1) (capsL (bl p)) line) := Lib.hid (by unfold cutV; rw [if_pos hok])
    clear b1 hc hok
    go_wp2_with fail
    with_reducible refine HC.out.mono ?_
    rintro e w2 ⟨b2, ⟨hr, rfl⟩ | ⟨l, A, n, c, hr, rfl, r, h1, h2⟩⟩
    · have HB2 := Lib.hid (next HB.out b2)
      have HR := Lib.hid (HV.out.trans hr)
      clear b2 hr
      go_wp2_with fail
      go_ret2
      exact ⟨HB2.out, .inl ⟨HR.out, rfl⟩⟩
    · have HB2 := Lib.hid (next HB.out b2)
      have HR := Lib.hid (HV.out.trans hr)
      have HRow := Lib.hid r
      clear b2 hr r
      go_wp2_with fail
      go_ret2
      exact ⟨HB2.out, .inr ⟨l, A, n, c, HR.out, rfl, HRow.out, h1, h2⟩⟩
  · have HB := Lib.hid b1
    have HV : Hid (cutV p line = none) := Lib.hid (by unfold cutV; rw [if_neg hno])
    clear b1 hno
    go_wp2_with fail
    go_ret2
    exact ⟨HB.out, .inl ⟨HV.out, rfl⟩⟩
set_option maxRecDepth 100000 in
set_option maxHeartbeats 4000000 in
theorem fails_any (p : ByteArray) (hp : p.size ≤ 1000000) (w : World) (hM : MX w) :
    Calls Try.prog 20 #[.string p] w fun e w' => e = .returned (.bool (!decide (okC (bl p)))) ∧ Below w.heap.size w w' := by
  have HN := Lib.hid (New_any p hp w hM)
  clear hM
  go_enter Try.func20, Try.ntmps20
  go_wp2_with fail
  with_reducible refine HN.out.mono ?_
  rintro e w1 ⟨b1, ⟨hok, b, rfl, hc⟩ | ⟨hno, rfl⟩⟩
  · have HB := Lib.hid b1
    have HD : Hid ((!decide (okC (bl p))) = false) := Lib.hid (by rw [decide_eq_true hok]; rfl)
    clear b1 hc hok
    go_wp2_with fail
    go_ret
    rw [HD.out]
    exact ⟨rfl, HB.out⟩
  · have HB := Lib.hid b1
    have HD : Hid ((!decide (okC (bl p))) = true) := Lib.hid (by rw [decide_eq_false hno]; rfl)
    clear b1 hno
    go_wp2_with fail
    go_ret
    rw [HD.out]
    exact ⟨rfl, HB.out⟩
set_option maxRecDepth 100000 in
set_option maxHeartbeats 4000000 in
theorem none_any (p line : ByteArray) (hp : p.size ≤ 1000000) (hs : line.size ≤ 100000000) (hok : okC (bl p)) (hv : cutV p line = none) (w : World) (hM : MX w) :
    Calls Try.prog 27 #[.string p, .string line] w fun e w' => e = .returned (.bool true) ∧ Below w.heap.size w w' := by
  have HN := Lib.hid (New_any p hp w hM)
  have HM := Lib.hid hM
  clear hM
  have HO := Lib.hid hok
  have HVn := Lib.hid hv
  clear hok hv
  go_enter Try.func27, Try.ntmps27
  go_wp2_with fail
  with_reducible refine HN.out.mono ?_
  rintro e w1 ⟨b1, ⟨hok, b, rfl, hc⟩ | ⟨hno, rfl⟩⟩
  · have HC := Lib.hid (Match_any b _ _ line w1 hc (caps_ne hok) (Nat.le_trans (okC_len hok) (by omega)) hs (HM.out.on b1))
    have HB := Lib.hid b1
    have HV : Hid (matchC (ofl (segs 0 (bl p)).1) (capsL (bl p)) line = none) := Lib.hid (by have h := HVn.out; unfold cutV at h; rwa [if_pos hok] at h)
    clear b1 hc hok
    go_wp2_with fail
    with_reducible refine HC.out.mono ?_
    rintro e w2 ⟨b2, ⟨hr, rfl⟩ | ⟨l, A, n, c, hr, rfl, r, h1, h2⟩⟩
    · have HB2 := Lib.hid (next HB.out b2)
      clear b2 hr
      go_wp2_with fail
      go_ret
      exact ⟨rfl, HB2.out⟩
    · rw [HV.out] at hr
      cases hr
  · exact absurd HO.out hno
end Go.Proofs.Ytomjdicedjdpnaa
