/- The laws' eq; Copy; among; Get; Check. -/
import Derived.Test.YtdmflofdchmfhaaGreatDoorLOrd
namespace Go.Proofs.YtdmflofdchmfhaaGreatDoor
open Go.RowKit

theorem seq_yes {a b : ByteArray} (h : a = b) : (a.toList == b.toList) = true := by rw [eq_eq, decide_eq_true h]
theorem seq_no {a b : ByteArray} (h : a ≠ b) : (a.toList == b.toList) = false := by rw [eq_eq, decide_eq_false h]
theorem getD_neL {es fs : List Lb} {j : Nat} (h : es.getD j noL ≠ fs.getD j noL) : es ≠ fs := by
  rintro rfl
  exact h rfl
set_option maxRecDepth 100000 in
set_option maxHeartbeats 4000000 in
theorem eq_any (A A' : Option Addr) (n m c c' : Nat) (es fs : List Lb) (w : World) (hr : RowL w w.heap.size A n es) (hs : RowL w w.heap.size A' m fs) (hn : n ≤ 100000000) (hm : m ≤ 100000000) :
    Calls Tryz.prog 7 #[.slice A n c, .slice A' m c'] w fun e w' => e = .returned (.bool (decide (es = fs))) ∧ Below w.heap.size w w' := by
  by_cases hne : n = m
  · subst hne
    have HR := Lib.hid hr
    have HS := Lib.hid hs
    have b0 : ((n : Int) == (n : Int)) = true := beq_self_eq_true _
    clear hr hs
    go_enter Tryz.func7, Tryz.ntmps7
    go_wp2_with fail
    go_loopw [5] (fun s5 wr => ∃ k : Nat, k ≤ n ∧ s5 = .int .i64 k ∧ Hid (es.take k = fs.take k) ∧ Below w.heap.size w wr) (fun i _ => n - (intOf i).toNat)
    case atStart => exact ⟨0, Nat.zero_le _, rfl, Lib.hid rfl, Below.refl _ _⟩
    case round =>
      obtain ⟨k, hk, rfl, HT, hb⟩ := hrel
      by_cases hlt : k < n
      · have hlt' : (k : Int) < (n : Int) := by omega
        have hk0 : (0 : Int) ≤ (k : Int) := by omega
        have f1 : decide ((k : Int) < (n : Int)) = true := decide_eq_true hlt'
        obtain ⟨b, off, rfl, hb1, h1⟩ := HR.out.2 (by omega)
        obtain ⟨b', off', rfl, hb2, h2⟩ := HS.out.2 (by omega)
        obtain ⟨a1, a2⟩ := h1 k hlt
        obtain ⟨a3, a4⟩ := h2 k hlt
        replace a1 := (hb.cell (p := ⟨b, off + k * 2, none⟩) hb1).trans a1
        replace a2 := (hb.cell (p := ⟨b, off + k * 2 + 1, none⟩) hb1).trans a2
        replace a3 := (hb.cell (p := ⟨b', off' + k * 2, none⟩) hb2).trans a3
        replace a4 := (hb.cell (p := ⟨b', off' + k * 2 + 1, none⟩) hb2).trans a4
        obtain ⟨⟨t, s⟩, hx⟩ : ∃ x, es.getD k noL = x := ⟨_, rfl⟩
        obtain ⟨⟨t', s'⟩, hx'⟩ : ∃ x, fs.getD k noL = x := ⟨_, rfl⟩
        have HX : Hid (es.getD k noL = (t, s) ∧ fs.getD k noL = (t', s')) := Lib.hid ⟨hx, hx'⟩
        rw [hx] at a1 a2
        rw [hx'] at a3 a4
        dsimp only at a1 a2 a3 a4
        replace hb := Lib.hid hb
        clear hx hx' h1 h2
        by_cases hte : t = t'
        · have hq1 := seq_yes hte
          by_cases hse : s = s'
          · have hq2 := seq_yes hse
            have HT1 : Hid (es.take (k + 1) = fs.take (k + 1)) := Lib.hid (by
              rw [take_snocL (by rw [HR.out.1]; exact hlt), take_snocL (by rw [HS.out.1]; exact hlt), HT.out, HX.out.1, HX.out.2, hte, hse])
            clear hte hse
            go_wp2_with fail
            go_quiet (fail)
            go_wp2_with fail
            exact ⟨⟨k + 1, hlt, by go_num, HT1, Below.dn hb.out _⟩, by simp [intOf]; omega⟩
          · have hq2 := seq_no hse
            have HF : Hid (decide (es = fs) = false) := Lib.hid (decide_eq_false (getD_neL (j := k) (by rw [HX.out.1, HX.out.2]; simpa [hte] using hse)))
            clear hte hse
            go_wp2_with fail
            go_quiet (fail)
            go_wp2_with fail
            go_ret
            exact ⟨by rw [HF.out]; rfl, Below.dn hb.out _⟩
        · have hq1 := seq_no hte
          have HF : Hid (decide (es = fs) = false) := Lib.hid (decide_eq_false (getD_neL (j := k) (by rw [HX.out.1, HX.out.2]; simp [hte])))
          obtain ⟨q2, hq2⟩ : ∃ q, (s.toList == s'.toList) = q := ⟨_, rfl⟩
          clear hte
          go_wp2_with fail
          go_quiet (fail)
          go_wp2_with fail
          go_ret
          exact ⟨by rw [HF.out]; rfl, Below.dn hb.out _⟩
      · have hkn : k = n := by omega
        have f1 : decide ((k : Int) < (n : Int)) = false := decide_eq_false (by omega)
        have HF : Hid (decide (es = fs) = true) := Lib.hid (by
          have := HT.out
          rw [List.take_of_length_le (by rw [HR.out.1]; omega), List.take_of_length_le (by rw [HS.out.1]; omega)] at this
          simp [this])
        clear hk hkn
        go_wp2_with fail
        go_ret
        exact ⟨by rw [HF.out]; rfl, hb⟩
  · have hne' : ¬ (n : Int) = (m : Int) := by omega
    have b0 : ((n : Int) == (m : Int)) = false := beq_eq_false_iff_ne.2 hne'
    have HF : Hid (decide (es = fs) = false) := Lib.hid (by
      rw [decide_eq_false_iff_not]
      rintro rfl
      exact hne (hr.1.symm.trans hs.1))
    clear hr hs
    go_enter Tryz.func7, Tryz.ntmps7
    go_wp2_with fail
    go_ret
    exact ⟨by rw [HF.out]; rfl, Below.refl _ _⟩
theorem lb_info : (Tryz.prog.info? 29).map (fun i => (i.zero, i.size, i.bytes)) = some (some (.agg #[.string ByteArray.empty, .string ByteArray.empty]), 2, 32) := by kernel_rfl
theorem info_partsL {P : Program} {t : TypeId} (h : (P.info? t).map (fun i => (i.zero, i.size, i.bytes)) = some (some (.agg #[.string ByteArray.empty, .string ByteArray.empty]), 2, 32)) : ∃ i, P.info? t = some i ∧ i.zero = some (.agg #[.string ByteArray.empty, .string ByteArray.empty]) ∧ i.size = 2 ∧ i.bytes = 32 := by
  rcases hi : P.info? t with _ | i
  · rw [hi] at h; cases h
  · rw [hi] at h
    simp only [Option.map_some, Option.some.injEq, Prod.mk.injEq] at h
    exact ⟨i, rfl, h.1, h.2.1, h.2.2⟩
/-- A list of labels in new memory. -/
def LOut (w : World) (l : List Lb) (e : Ending) (w' : World) : Prop :=
  ∃ A c, e = .returned (.slice A l.length c) ∧ w'.ownsRow w.heap.size 29 2 (.slice A l.length c) l.length (cL l) ∧ Below w.heap.size w w'
set_option maxRecDepth 100000 in
set_option maxHeartbeats 1000000 in
theorem Copy_any (A : Option Addr) (n c : Nat) (l : List Lb) (w : World) (hr : RowL w w.heap.size A n l) (hn : n ≤ 100000000) :
    Calls Tryz.prog 4 #[.slice A n c] w (LOut w l) := by
  obtain ⟨i0, hi0, hz0, hz1, hz2⟩ := info_partsL lb_info
  have HL := Lib.hid hr.1
  go_enter Tryz.func4, Tryz.ntmps4
  go_wp2_with (at_builtin; refine wpList_appL _ rfl _ (.tmp 3) 22 rfl w.heap.size 29 i0 Tryz.underlying22 hi0 hz0 hz1 hz2 _ 0 [] rfl (World.ownsRow_nil _ _ _ _) _ _ _ _ _ rfl hr (by omega) (Nat.le_refl _) ?_)
  intro v' w' o _ hb
  obtain ⟨A2, c2, rfl⟩ := ownL_slice o
  clear hr
  go_wp2_with fail
  go_ret
  refine ⟨A2, c2, ?_, ?_, hb⟩
  · rw [HL.out]; rfl
  · rw [HL.out]; exact o
end Go.Proofs.YtdmflofdchmfhaaGreatDoor
