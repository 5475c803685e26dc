/- The document's next: from one end to the next. -/
import Derived.Test.YtjnnaafkdgoflaaRRow
namespace Go.Proofs.Ytjnnaafkdgoflaa
open Go.RowKit

def NxOut (l : List Rg) (r : Int) (b : Bool) (w : World) (e : Ending) (w' : World) : Prop := ∃ m, e = .returned (.int .i64 m) ∧ Nx l r b m ∧ w = w'
theorem rHas_w (A : Option Addr) (n c : Nat) (l : List Rg) (r : Int) (w : World) (hr : RowR w w.heap.size A n l) (hn : n ≤ 1000000000) :
    Calls Try.prog 21 #[.slice A n c, .int .i64 r] w fun e w' => e = .returned (.bool (decide (has l r))) ∧ w = w' := by
  refine (rHas_any A n c l r w hr hn).mono ?_
  rintro e w' ⟨rfl, rfl⟩
  exact ⟨rfl, rfl⟩
theorem Best.start (r : Int) (h : r ≤ 1114111) : Best [] r 1114112 := ⟨by omega, by omega, fun x hx => by cases hx⟩
theorem Best.turn {l : List Rg} {r m : Int} {x : Rg} (h : Best l r m) (h1 : r < x.1) (h2 : x.1 < m) : Best (l ++ [x]) r x.1 :=
  ⟨h1, by have := h.2.1; omega, fun y hy k => by
    rcases List.mem_append.1 hy with hy | hy
    · have := h.2.2 y hy k; omega
    · rw [List.mem_singleton.1 hy]; exact Int.le_refl _⟩
theorem Best.stay {l : List Rg} {r m : Int} {x : Rg} (h : Best l r m) (h1 : r < x.1 → m ≤ x.1) : Best (l ++ [x]) r m :=
  ⟨h.1, h.2.1, fun y hy k => by
    rcases List.mem_append.1 hy with hy | hy
    · exact h.2.2 y hy k
    · rw [List.mem_singleton.1 hy] at k ⊢; exact h1 k⟩
theorem wrap_ok {x : Int} (h0 : -9000000000 ≤ x) (h1 : x ≤ 9000000000) : IntKind.i64.wrap x = x := by rw [IntKind.wrap_i64]; omega
set_option maxRecDepth 100000 in
set_option maxHeartbeats 8000000 in
theorem rNext_false (A : Option Addr) (n c : Nat) (l : List Rg) (w : World) (hr : RowR w w.heap.size A n l) (hn : n ≤ 1000000000) (r : Int) (h0 : 0 ≤ r) (h1 : r ≤ 1114112)
    (IH : ∀ r', r < r' → r' ≤ 1114112 → Calls Try.prog 31 #[.slice A n c, .int .i64 r', .bool false] w (NxOut l r' false w)) :
    Calls Try.prog 31 #[.slice A n c, .int .i64 r, .bool false] w (NxOut l r false w) := by
  have HH := Lib.hid (fun r => rHas_w A n c l r w hr hn)
  have HR := Lib.hid hr
  have HI := Lib.hid IH
  have hl := hr.1
  clear hr IH
  by_cases k1 : 1114111 < r
  · have d1 : decide ((1114111 : Int) < r) = true := decide_eq_true k1
    have HX : Hid (Nx l r false r) := Lib.hid (by rw [show r = 1114112 by omega]; exact Nx.over)
    clear k1
    go_enter Try.func31, Try.ntmps31
    go_wp2_with fail
    go_ret
    exact ⟨_, rfl, HX.out, rfl⟩
  · have d1 : decide ((1114111 : Int) < r) = false := decide_eq_false k1
    by_cases k2 : has l r
    · have HHr := Lib.hid (HH.out r)
      rw [decide_eq_true k2] at HHr
      have HK := Lib.hid k2
      clear k2 HH
      go_enter Try.func31, Try.ntmps31
      go_wp2_with fail
      with_reducible refine HHr.out.mono ?_
      rintro e w1 ⟨rfl, rfl⟩
      go_wp2_with fail
      go_loopw [7, 8] (fun q p wr => ∃ i : Nat, i ≤ n ∧ p = .int .i64 (i : Int) ∧ q = .int .i64 1114112 ∧ Hid (¬ inR (l.take i) r) ∧ w = wr) (fun _ p _ => n - (intOf p).toNat)
      case atStart => exact ⟨0, by omega, rfl, rfl, Lib.hid (inR_nil r), rfl⟩
      case round =>
        obtain ⟨i, hi, rfl, rfl, HT, rfl⟩ := hrel
        by_cases hlt : i < n
        · obtain ⟨b, off, rfl, _, hc⟩ := HR.out.2 (by omega)
          obtain ⟨c1, c2⟩ := hc i hlt
          have hm := getD_mem (l := l) (j := i) (by omega)
          have HN := Lib.hid (fun h2 => not_has_snoc (l := l) (j := i) (r := r) (by omega) HT.out h2)
          obtain ⟨x, hx⟩ : ∃ x, l.getD i (0, 0) = x := ⟨_, rfl⟩
          rw [hx] at c1 c2 hm HN
          obtain ⟨x1, x2⟩ := x
          dsimp only at c1 c2
          have HM := Lib.hid hm
          have g0 : (0 : Int) ≤ (i : Int) := by omega
          have g1 : (i : Int) < (n : Int) := by omega
          have f1 : decide ((i : Int) < (n : Int)) = true := decide_eq_true g1
          clear hc hm hx
          by_cases k3 : x1 ≤ r
          · have f2 : decide (r < x1) = false := decide_eq_false (by omega)
            have f3 : decide (x1 ≤ r) = true := decide_eq_true k3
            by_cases k4 : r ≤ x2
            · have f4 : decide (r ≤ x2) = true := decide_eq_true k4
              by_cases k5 : 1114111 ≤ x2
              · have f5 : decide ((1114111 : Int) ≤ x2) = true := decide_eq_true k5
                have HX : Hid (Nx l r false 1114112) := Lib.hid (Nx.last h0 (by omega) HM.out k3 k5)
                clear k1 k3 k4 k5 hi hlt
                go_wp2_with fail
                go_ret
                exact ⟨_, rfl, HX.out, rfl⟩
              · have f5 : decide ((1114111 : Int) ≤ x2) = false := decide_eq_false k5
                have HX : Hid (∀ m, Nx l (x2 + 1) false m → Nx l r false m) := Lib.hid (fun m h => Nx.out h0 HM.out k3 k4 (by dsimp only; omega) h)
                have w1 : IntKind.i64.wrap (x2 + 1) = x2 + 1 := wrap_ok (by omega) (by omega)
                have HC := Lib.hid (HI.out (x2 + 1) (by omega) (by omega))
                clear k1 k3 k4 k5 hi hlt HI
                go_wp2_with fail
                with_reducible refine HC.out.mono ?_
                rintro e w2 ⟨m, rfl, hm, rfl⟩
                have HX2 := Lib.hid (HX.out m hm)
                clear hm
                go_wp2_with fail
                go_ret
                exact ⟨_, rfl, HX2.out, rfl⟩
            · have f4 : decide (r ≤ x2) = false := decide_eq_false k4
              have HN2 : Hid (¬ inR (l.take (i + 1)) r) := Lib.hid (HN.out (fun k => k4 k.2))
              clear k1 k3 k4 HI
              go_wp2_with fail
              exact ⟨⟨i + 1, by omega, by go_num, rfl, HN2, trivial⟩, by simp [intOf]; omega⟩
          · have f2 : decide (r < x1) = true := decide_eq_true (by omega)
            have f3 : decide (x1 ≤ r) = false := decide_eq_false k3
            have HN2 : Hid (¬ inR (l.take (i + 1)) r) := Lib.hid (HN.out (fun k => k3 k.1))
            by_cases k6 : x1 < 1114112
            · have f6 : decide (x1 < 1114112) = true := decide_eq_true k6
              clear k1 k3 k6 HI
              go_wp2_with fail
              exact ⟨⟨i + 1, by omega, by go_num, rfl, HN2, trivial⟩, by simp [intOf]; omega⟩
            · have f6 : decide (x1 < 1114112) = false := decide_eq_false k6
              clear k1 k3 k6 HI
              go_wp2_with fail
              exact ⟨⟨i + 1, by omega, by go_num, rfl, HN2, trivial⟩, by simp [intOf]; omega⟩
        · exfalso
          have := HT.out
          rw [List.take_of_length_le (by omega)] at this
          exact this HK.out.2
    · have HHr := Lib.hid (HH.out r)
      rw [decide_eq_false k2] at HHr
      have HX : Hid (Nx l r false r) := Lib.hid (Nx.here (by omega) ⟨fun h => absurd h k2, fun h => by cases h⟩)
      clear k1 k2 HH HI
      go_enter Try.func31, Try.ntmps31
      go_wp2_with fail
      with_reducible refine HHr.out.mono ?_
      rintro e w1 ⟨rfl, rfl⟩
      go_wp2_with fail
      go_ret
      exact ⟨_, rfl, HX.out, rfl⟩
set_option maxRecDepth 100000 in
set_option maxHeartbeats 8000000 in
theorem rNext_true (A : Option Addr) (n c : Nat) (l : List Rg) (w : World) (hr : RowR w w.heap.size A n l) (hn : n ≤ 1000000000) (r : Int) (h0 : 0 ≤ r) (h1 : r ≤ 1114112)
    (IH : ∀ r', r < r' → r' ≤ 1114112 → Calls Try.prog 31 #[.slice A n c, .int .i64 r', .bool true] w (NxOut l r' true w)) :
    Calls Try.prog 31 #[.slice A n c, .int .i64 r, .bool true] w (NxOut l r true w) := by
  have HH := Lib.hid (fun r => rHas_w A n c l r w hr hn)
  have HR := Lib.hid hr
  have HI := Lib.hid IH
  have hl := hr.1
  clear hr IH
  by_cases k1 : 1114111 < r
  · have d1 : decide ((1114111 : Int) < r) = true := decide_eq_true k1
    have HX : Hid (Nx l r true r) := Lib.hid (by rw [show r = 1114112 by omega]; exact Nx.over)
    clear k1
    go_enter Try.func31, Try.ntmps31
    go_wp2_with fail
    go_ret
    exact ⟨_, rfl, HX.out, rfl⟩
  · have d1 : decide ((1114111 : Int) < r) = false := decide_eq_false k1
    by_cases k2 : has l r
    · have HHr := Lib.hid (HH.out r)
      rw [decide_eq_true k2] at HHr
      have HX : Hid (Nx l r true r) := Lib.hid (Nx.here (by omega) ⟨fun _ => rfl, fun _ => k2⟩)
      clear k1 k2 HH HI
      go_enter Try.func31, Try.ntmps31
      go_wp2_with fail
      with_reducible refine HHr.out.mono ?_
      rintro e w1 ⟨rfl, rfl⟩
      go_wp2_with fail
      go_ret
      exact ⟨_, rfl, HX.out, rfl⟩
    · have HHr := Lib.hid (HH.out r)
      rw [decide_eq_false k2] at HHr
      have HK := Lib.hid k2
      have HB0 := Lib.hid (Best.start r (by omega))
      clear k2
      go_enter Try.func31, Try.ntmps31
      go_wp2_with fail
      with_reducible refine HHr.out.mono ?_
      rintro e w1 ⟨rfl, rfl⟩
      go_wp2_with fail
      go_loopw [7, 8] (fun q p wr => ∃ (i : Nat) (m : Int), i ≤ n ∧ p = .int .i64 (i : Int) ∧ q = .int .i64 m ∧ Hid (Best (l.take i) r m) ∧ w = wr) (fun _ p _ => n - (intOf p).toNat)
      case atStart => exact ⟨0, _, by omega, rfl, rfl, HB0, rfl⟩
      case round =>
        obtain ⟨i, m, hi, rfl, rfl, HT, rfl⟩ := hrel
        have ht := HT.out
        have hm1 := ht.1
        have hm2 := ht.2.1
        by_cases hlt : i < n
        · obtain ⟨b, off, rfl, _, hc⟩ := HR.out.2 (by omega)
          obtain ⟨c1, c2⟩ := hc i hlt
          have HS := Lib.hid (take_snocR (l := l) (j := i) (by omega))
          obtain ⟨x, hx⟩ : ∃ x, l.getD i (0, 0) = x := ⟨_, rfl⟩
          rw [hx] at c1 c2 HS
          obtain ⟨x1, x2⟩ := x
          dsimp only at c1 c2
          have g0 : (0 : Int) ≤ (i : Int) := by omega
          have g1 : (i : Int) < (n : Int) := by omega
          have f1 : decide ((i : Int) < (n : Int)) = true := decide_eq_true g1
          clear hc hx
          by_cases k3 : r < x1
          · have f2 : decide (r < x1) = true := decide_eq_true k3
            by_cases k4 : x1 < m
            · have f3 : decide (x1 < m) = true := decide_eq_true k4
              have HN : Hid (Best (l.take (i + 1)) r x1) := Lib.hid (by rw [HS.out]; exact ht.turn k3 k4)
              clear k1 k3 k4 ht hm1 hm2 HI
              go_wp2_with fail
              exact ⟨⟨i + 1, x1, by omega, by go_num, rfl, HN, trivial⟩, by simp [intOf]; omega⟩
            · have f3 : decide (x1 < m) = false := decide_eq_false k4
              have HN : Hid (Best (l.take (i + 1)) r m) := Lib.hid (by rw [HS.out]; exact ht.stay (fun _ => by dsimp only; omega))
              clear k1 k3 k4 ht hm1 hm2 HI
              go_wp2_with fail
              exact ⟨⟨i + 1, m, by omega, by go_num, rfl, HN, trivial⟩, by simp [intOf]; omega⟩
          · have f2 : decide (r < x1) = false := decide_eq_false k3
            have HN : Hid (Best (l.take (i + 1)) r m) := Lib.hid (by rw [HS.out]; exact ht.stay (fun k => absurd k k3))
            clear k1 k3 ht hm1 hm2 HI
            go_wp2_with fail
            exact ⟨⟨i + 1, m, by omega, by go_num, rfl, HN, trivial⟩, by simp [intOf]; omega⟩
        · have f1 : decide ((i : Int) < (n : Int)) = false := decide_eq_false (by omega)
          rw [List.take_of_length_le (by omega)] at ht
          have HT2 := Lib.hid ht
          have hrn : isRn r := ⟨h0, by omega⟩
          by_cases k3 : m ≤ 1114111
          · have f2 : decide (m ≤ 1114111) = true := decide_eq_true k3
            have HHm := Lib.hid (HH.out m)
            by_cases k4 : has l m
            · rw [decide_eq_true k4] at HHm
              have HX : Hid (Nx l r true m) := Lib.hid (Nx.best ht HK.out hrn k4)
              clear k1 k3 k4 ht hm1 hm2 HI HH hrn
              go_wp2_with fail
              with_reducible refine HHm.out.mono ?_
              rintro e w2 ⟨rfl, rfl⟩
              go_wp2_with fail
              go_ret
              exact ⟨_, rfl, HX.out, rfl⟩
            · rw [decide_eq_false k4] at HHm
              have HX : Hid (∀ k, Nx l (m + 1) true k → Nx l r true k) := Lib.hid (fun k h => Nx.on HT2.out HK.out hrn k4 h)
              have w1 : IntKind.i64.wrap (m + 1) = m + 1 := wrap_ok (by omega) (by omega)
              have HC := Lib.hid (HI.out (m + 1) (by omega) (by omega))
              clear k1 k3 k4 ht hm1 hm2 HI HH hrn
              go_wp2_with fail
              with_reducible refine HHm.out.mono ?_
              rintro e w2 ⟨rfl, rfl⟩
              go_wp2_with fail
              with_reducible refine HC.out.mono ?_
              rintro e w2 ⟨m2, rfl, hm, rfl⟩
              have HX2 := Lib.hid (HX.out m2 hm)
              clear hm
              go_wp2_with fail
              go_ret
              exact ⟨_, rfl, HX2.out, rfl⟩
          · have f2 : decide (m ≤ 1114111) = false := decide_eq_false k3
            have HX : Hid (Nx l r true m) := Lib.hid (by
              have he : m = 1114112 := by omega
              rw [he] at ht ⊢; exact Nx.far ht HK.out hrn)
            clear k1 k3 ht hm1 hm2 HI HH hrn
            go_wp2_with fail
            go_ret
            exact ⟨_, rfl, HX.out, rfl⟩
theorem rNext_any (A : Option Addr) (n c : Nat) (l : List Rg) (w : World) (hr : RowR w w.heap.size A n l) (hn : n ≤ 1000000000) (b : Bool) : ∀ (k : Nat) (r : Int), 0 ≤ r → r ≤ 1114112 → (1114112 - r).toNat ≤ k →
    Calls Try.prog 31 #[.slice A n c, .int .i64 r, .bool b] w (NxOut l r b w)
  | 0, r, h0, h1, h => by
    cases b
    · exact rNext_false A n c l w hr hn r h0 h1 (fun r' k1 k2 => by omega)
    · exact rNext_true A n c l w hr hn r h0 h1 (fun r' k1 k2 => by omega)
  | k + 1, r, h0, h1, h => by
    cases b
    · exact rNext_false A n c l w hr hn r h0 h1 (fun r' k1 k2 => rNext_any A n c l w hr hn false k r' (by omega) k2 (by omega))
    · exact rNext_true A n c l w hr hn r h0 h1 (fun r' k1 k2 => rNext_any A n c l w hr hn true k r' (by omega) k2 (by omega))
theorem rNext (A : Option Addr) (n c : Nat) (l : List Rg) (w : World) (hr : RowR w w.heap.size A n l) (hn : n ≤ 1000000000) (r : Int) (b : Bool) (h0 : 0 ≤ r) (h1 : r ≤ 1114112) :
    Calls Try.prog 31 #[.slice A n c, .int .i64 r, .bool b] w (NxOut l r b w) := rNext_any A n c l w hr hn b _ r h0 h1 (Nat.le_refl _)
end Go.Proofs.Ytjnnaafkdgoflaa
