/- LName: taken over. -/
import Derived.Test.YtomjdicedjdpnaaLRow
import Derived.Test.YtomjdicedjdpnaaQuoteA
namespace Go.Proofs.Ytomjdicedjdpnaa
open Go.RowKit

def nmS (s : ByteArray) : Bool := nameB (bl s)
set_option maxHeartbeats 1000000 in
theorem isDigit_any (c : Nat) (w : World) : Calls Try.prog 70 #[.int .i32 (c : Int)] w fun e w' => e = .returned (.bool (digC c)) ∧ w' = w := by
  by_cases h1 : 48 ≤ c
  · have f1 : decide ((48 : Int) ≤ (c : Int)) = true := decide_eq_true (by omega)
    obtain ⟨q, hq⟩ : ∃ q, decide ((c : Int) ≤ 57) = q := ⟨_, rfl⟩
    have HD : Hid (digC c = q) := Lib.hid (by
      rw [← hq]; unfold digC; rw [decide_eq_true h1, Bool.true_and]; exact decide_eq_decide.2 (by omega))
    clear h1
    go_enter Try.func70, Try.ntmps70
    go_wp2_with fail
    go_ret
    rw [HD.out]
    exact ⟨rfl, rfl⟩
  · have f1 : decide ((48 : Int) ≤ (c : Int)) = false := decide_eq_false (by omega)
    have HD : Hid (digC c = false) := Lib.hid (by unfold digC; rw [decide_eq_false h1, Bool.false_and])
    clear h1
    go_enter Try.func70, Try.ntmps70
    go_wp2_with fail
    go_ret
    rw [HD.out]
    exact ⟨rfl, rfl⟩
set_option maxHeartbeats 4000000 in
theorem isNamePart_any (c : Nat) (w : World) : Calls Try.prog 71 #[.int .i32 (c : Int)] w fun e w' => e = .returned (.bool (prtC c)) ∧ w' = w := by
  have HC := Lib.hid (isDigit_any c w)
  have e1 : decide ((97 : Int) ≤ (c : Int)) = decide (97 ≤ c) := decide_eq_decide.2 (by omega)
  have e2 : decide ((c : Int) ≤ 122) = decide (c ≤ 122) := decide_eq_decide.2 (by omega)
  have e3 : decide ((65 : Int) ≤ (c : Int)) = decide (65 ≤ c) := decide_eq_decide.2 (by omega)
  have e4 : decide ((c : Int) ≤ 90) = decide (c ≤ 90) := decide_eq_decide.2 (by omega)
  have e5 : ((c : Int) == 95) = decide (c = 95) := by rw [Bool.eq_iff_iff]; simp; omega
  obtain ⟨a1, h1⟩ : ∃ a, decide (97 ≤ c) = a := ⟨_, rfl⟩
  obtain ⟨a2, h2⟩ : ∃ a, decide (c ≤ 122) = a := ⟨_, rfl⟩
  obtain ⟨a3, h3⟩ : ∃ a, decide (65 ≤ c) = a := ⟨_, rfl⟩
  obtain ⟨a4, h4⟩ : ∃ a, decide (c ≤ 90) = a := ⟨_, rfl⟩
  obtain ⟨a5, h5⟩ : ∃ a, decide (c = 95) = a := ⟨_, rfl⟩
  have HP : Hid (prtC c = (a1 && a2 || a3 && a4 || a5 || digC c)) := Lib.hid (by unfold prtC; rw [h1, h2, h3, h4, h5])
  rw [h1] at e1
  rw [h2] at e2
  rw [h3] at e3
  rw [h4] at e4
  rw [h5] at e5
  generalize digC c = q at *
  clear h1 h2 h3 h4 h5
  cases a1 <;> cases a2 <;> cases a3 <;> cases a4 <;> cases a5
  all_goals
    go_enter Try.func71, Try.ntmps71
    go_wp2_with fail
    try
      with_reducible refine HC.out.mono ?_
      rintro e w1 ⟨rfl, rfl⟩
      go_wp2_with fail
    go_ret
    rw [HP.out]
    exact ⟨rfl, rfl⟩
/-- The bytes of a text, as numbers. -/
def nums (l : List Nat) : List Int := l.map fun n : Nat => (n : Int)
theorem nums_len (l : List Nat) : (nums l).length = l.length := by simp [nums]
theorem nums_get (l : List Nat) (j : Nat) (h : j < l.length) : (ints .u8 (nums l))[j]? = some (.int .u8 ((l.getD j 0 : Nat) : Int)) := by
  simp [ints, nums, h]
theorem bytes_world (w : World) (s : ByteArray) (spare : Nat) (m : Nat × Nat) : Below w.heap.size w ((w.alloc (.cells (bytesRow s spare) 5 m)).drew) ∧
    Row ((w.alloc (.cells (bytesRow s spare) 5 m)).drew) ((w.alloc (.cells (bytesRow s spare) 5 m)).drew).heap.size (some ⟨w.heap.size, 0, none⟩) s.size (ints .u8 (nums (bl s))) := by
  refine ⟨((Below.refl _ w).alloc (Nat.le_refl _) _).drew, by rw [ints_len, nums_len, bl_len], fun _ => ⟨w.heap.size, 0, rfl, ?_, fun j hj => ?_⟩⟩
  · show _ < (w.alloc _).heap.size
    rw [World.size_alloc]; omega
  · rw [Nat.zero_add, bl_cell w s spare j m hj, nums_get _ _ (by rw [bl_len]; exact hj)]
theorem empty_yes {s : ByteArray} (h : bl s = []) : s.toList.isEmpty = true := by rw [bl_nil.2 h, ByteArray.toList_eq]; rfl
theorem nameB_take {l : List Nat} {k : Nat} (h : k < l.length) (h1 : (l.take k).all prtC = true) (h2 : prtC (l.getD k 0) = true) : (l.take (k + 1)).all prtC = true := by
  rw [List.take_succ_eq_append_getElem h, List.all_append, h1, List.all_cons, List.all_nil]
  rw [List.getD_eq_getElem?_getD, List.getElem?_eq_getElem h] at h2
  simpa using h2
theorem nameB_no {l : List Nat} {k : Nat} (h : k < l.length) (h2 : prtC (l.getD k 0) = false) : l.all prtC = false := by
  rw [List.all_eq_false]
  refine ⟨l[k], List.getElem_mem h, ?_⟩
  rw [List.getD_eq_getElem?_getD, List.getElem?_eq_getElem h] at h2
  simpa using h2
set_option maxRecDepth 100000 in
set_option maxHeartbeats 4000000 in
theorem IsName_any (s : ByteArray) (w : World) : Calls Try.prog 62 #[.string s] w fun e w' => e = .returned (.bool (nmS s)) ∧ Below w.heap.size w w' := by
  rcases hL : bl s with _ | ⟨c, t⟩
  · have h0 := empty_yes hL
    have HN : Hid (nmS s = false) := Lib.hid (by unfold nmS; rw [hL]; rfl)
    clear hL
    go_enter Try.func62, Try.ntmps62
    go_wp2_with fail
    go_ret
    rw [HN.out]
    exact ⟨rfl, Below.refl _ _⟩
  · obtain ⟨hc8, hln, h00, h0⟩ := first_byte hL
    have hne := isEmpty_no hL
    have HL := Lib.hid hL
    have HS : Hid (s.size = t.length + 1) := Lib.hid hln
    by_cases h64 : s.size ≤ 64
    · have f1 : decide ((64 : Int) < (s.size : Int)) = false := decide_eq_false (by omega)
      have hs0 : (0 : Int) < (s.size : Int) := by omega
      have HD := Lib.hid (isDigit_any c w)
      have wc : IntKind.i32.wrap (c : Int) = (c : Int) := i32_wrap c (by omega)
      by_cases hd : digC c = true
      · have HN : Hid (nmS s = false) := Lib.hid (by unfold nmS nameB; rw [hL]; simp [hd])
        rw [hd] at HD
        clear hL hln hd
        go_enter Try.func62, Try.ntmps62
        go_wp2_with fail
        with_reducible refine HD.out.mono ?_
        rintro e w1 ⟨rfl, rfl⟩
        go_wp2_with fail
        go_ret
        rw [HN.out]
        exact ⟨rfl, Below.refl _ _⟩
      · have hd := Bool.eq_false_iff.2 hd
        have HN : Hid (nmS s = (bl s).all prtC) := Lib.hid (by
          unfold nmS nameB
          rw [hL]
          have : (c :: t).length ≤ 64 := by rw [List.length_cons]; omega
          simp only [List.headD_cons, hd, decide_eq_true this]
          simp)
        rw [hd] at HD
        have hcv := fun w s => run_bytes_of_string (P := Try.prog) w 9 41 5 s Try.underlying9 Try.underlying41 Try.underlying5
        have HW := Lib.hid (bytes_world w s)
        clear hL hln hd
        go_enter Try.func62, Try.ntmps62
        go_wp2_with fail
        with_reducible refine HD.out.mono ?_
        rintro e w1 ⟨rfl, rfl⟩
        clear HD
        go_wp2_with fail
        have HWn := Lib.hid (HW.out (grownCap w1 s.size 0 5) ((bytesRow s (grownCap w1 s.size 0 5)).size, (bytesRow s (grownCap w1 s.size 0 5)).size + 1))
        obtain ⟨W, hW⟩ : ∃ W, (w1.alloc (.cells (bytesRow s (grownCap w1 s.size 0 5)) 5 ((bytesRow s (grownCap w1 s.size 0 5)).size, (bytesRow s (grownCap w1 s.size 0 5)).size + 1))).drew = W := ⟨_, rfl⟩
        rw [hW] at HWn ⊢
        have HP := Lib.hid (fun d => isNamePart_any d W)
        clear hW HW hcv
        go_loopw [21] (fun i wr => ∃ k : Nat, k ≤ s.size ∧ i = .int .i64 (k : Int) ∧ Hid (((bl s).take k).all prtC = true) ∧ W = wr) (fun i _ => s.size - (intOf i).toNat)
        case atStart => exact ⟨0, Nat.zero_le _, rfl, Lib.hid rfl, rfl⟩
        case round =>
          obtain ⟨k, hk, rfl, HT, rfl⟩ := hrel
          by_cases hlt : k < s.size
          · obtain ⟨b, off, hA, _, hc⟩ := HWn.out.2.2 (by omega)
            injection hA with hA
            injection hA with hA1 hA2
            subst hA1; subst hA2
            have hkl : k < (bl s).length := by rw [bl_len]; exact hlt
            have c1 := (hc k hlt).trans (nums_get _ _ hkl)
            have hbb := bl_byt s _ (List.getElem_mem hkl)
            obtain ⟨d, hd⟩ : ∃ d, (bl s).getD k 0 = d := ⟨_, rfl⟩
            have hd2 : d < 256 := by rw [← hd, List.getD_eq_getElem?_getD, List.getElem?_eq_getElem hkl]; exact hbb
            rw [hd, Nat.zero_add] at c1
            have wd : IntKind.i32.wrap (d : Int) = (d : Int) := i32_wrap d (by omega)
            have HPd := Lib.hid (HP.out d)
            have g0 : (0 : Int) ≤ (k : Int) := by omega
            have g1 : (k : Int) < (s.size : Int) := by omega
            have HK := Lib.hid (And.intro hkl hd)
            clear hbb hd hkl hc
            by_cases hp : prtC d = true
            · have HT2 : Hid (((bl s).take (k + 1)).all prtC = true) := Lib.hid (nameB_take HK.out.1 HT.out (by rw [HK.out.2]; exact hp))
              rw [hp] at HPd
              clear hp
              go_wp2_with fail
              with_reducible refine HPd.out.mono ?_
              rintro e w2 ⟨rfl, rfl⟩
              go_wp2_with fail
              exact ⟨⟨k + 1, hlt, by go_num, HT2, trivial⟩, by simp [intOf]; omega⟩
            · have hp := Bool.eq_false_iff.2 hp
              have HF : Hid ((bl s).all prtC = false) := Lib.hid (nameB_no HK.out.1 (by rw [HK.out.2]; exact hp))
              rw [hp] at HPd
              clear hp
              go_wp2_with fail
              with_reducible refine HPd.out.mono ?_
              rintro e w2 ⟨rfl, rfl⟩
              go_wp2_with fail
              go_ret
              rw [HN.out, HF.out]
              exact ⟨rfl, HWn.out.1⟩
          · have HF : Hid ((bl s).all prtC = true) := Lib.hid (by have h := HT.out; rwa [List.take_of_length_le (by rw [bl_len]; omega)] at h)
            go_wp2_with fail
            go_ret
            rw [HN.out, HF.out]
            exact ⟨rfl, HWn.out.1⟩
    · have f1 : decide ((64 : Int) < (s.size : Int)) = true := decide_eq_true (by omega)
      have HN : Hid (nmS s = false) := Lib.hid (by
        unfold nmS nameB
        rw [decide_eq_false (show ¬ (bl s).length ≤ 64 by rw [bl_len]; exact h64)]
        simp)
      have h65 : 64 < s.size := by omega
      clear hL h64
      go_enter Try.func62, Try.ntmps62
      go_wp2_with fail
      go_ret
      rw [HN.out]
      exact ⟨rfl, Below.refl _ _⟩
end Go.Proofs.Ytomjdicedjdpnaa
