/- A slice of ranges, as it reads; the document's Has, next. -/
import Derived.Test.YtjnnaafkdgoflaaRMath2
import Derived.Deep.QuietTactic
import Derived.BigQuiet
namespace Go.Proofs.Ytjnnaafkdgoflaa
open Go.RowKit

theorem Below.dn {B : Nat} {w a : World} (h : Below B w a) (n : Nat) : Below B w (a.drewN n) := ⟨h.os, h.tape, h.output, h.size, h.block⟩
/-- The ranges' cells. -/
def cR : List Rg → List Value
  | [] => []
  | x :: t => .int .i64 x.1 :: .int .i64 x.2 :: cR t
theorem cR_len : ∀ l, (cR l).length = l.length * 2
  | [] => rfl
  | x :: t => by simp only [cR, List.length_cons, cR_len t]; omega
theorem cR_app : ∀ a b, cR (a ++ b) = cR a ++ cR b
  | [], b => rfl
  | x :: t, b => by simp only [List.cons_append, cR, cR_app t b]
theorem cR_one : ∀ l, ∀ u ∈ cR l, u.oneCell' = true
  | [], u, h => by cases h
  | x :: t, u, h => by
    rcases List.mem_cons.1 h with rfl | h
    · rfl
    · rcases List.mem_cons.1 h with rfl | h
      · rfl
      · exact cR_one t u h
theorem cR_get : ∀ (l : List Rg) (j : Nat), j < l.length → (cR l)[j * 2]? = some (.int .i64 (l.getD j (0, 0)).1) ∧ (cR l)[j * 2 + 1]? = some (.int .i64 (l.getD j (0, 0)).2)
  | [], j, h => by simp at h
  | x :: t, 0, _ => ⟨rfl, rfl⟩
  | x :: t, j + 1, h => by
    have := cR_get t j (by simpa using h)
    rw [show (j + 1) * 2 = j * 2 + 1 + 1 by omega]
    exact this
def RowR (w : World) (B : Nat) (A : Option Addr) (n : Nat) (l : List Rg) : Prop :=
  l.length = n ∧ (0 < n → ∃ b off, A = some ⟨b, off, none⟩ ∧ b < B ∧ ∀ j, j < n → w.cell? ⟨b, off + j * 2, none⟩ = some (.int .i64 (l.getD j (0, 0)).1) ∧ w.cell? ⟨b, off + j * 2 + 1, none⟩ = some (.int .i64 (l.getD j (0, 0)).2))
theorem RowR.on {w w' : World} {A : Option Addr} {n : Nat} {l : List Rg} (h : RowR w w.heap.size A n l) (hb : Below w.heap.size w w') : RowR w' w'.heap.size A n l :=
  ⟨h.1, fun h0 => by
    obtain ⟨b, off, e, hb', hc⟩ := h.2 h0
    exact ⟨b, off, e, Nat.lt_of_lt_of_le hb' hb.size, fun j hj => ⟨(hb.cell (p := ⟨b, off + j * 2, none⟩) hb').trans (hc j hj).1, (hb.cell (p := ⟨b, off + j * 2 + 1, none⟩) hb').trans (hc j hj).2⟩⟩⟩
theorem RowR.own {w : World} {base n c : Nat} {e : TypeId} {A : Option Addr} {l : List Rg} (h : w.ownsRow base e 2 (.slice A n c) n (cR l)) : RowR w w.heap.size A n l := by
  have hl : l.length = n := by have := h.1; rw [cR_len] at this; omega
  refine ⟨hl, fun h0 => ?_⟩
  obtain ⟨g, cap', hv, _, hlt⟩ := h.form h0
  injection hv with hA
  subst hA
  refine ⟨g, 0, rfl, hlt, fun j hj => ?_⟩
  have hg := cR_get l j (by omega)
  rw [Nat.zero_add]
  exact ⟨(h.cellAt (j * 2) (by omega)).trans hg.1, (h.cellAt (j * 2 + 1) (by omega)).trans hg.2⟩
theorem RowR.take {w : World} {B n : Nat} {A : Option Addr} {l : List Rg} (h : RowR w B A n l) {k : Nat} (hk : k ≤ n) : RowR w B A k (l.take k) := by
  refine ⟨by rw [List.length_take, h.1]; omega, fun h0 => ?_⟩
  obtain ⟨b, off, e, hb, hc⟩ := h.2 (by omega)
  refine ⟨b, off, e, hb, fun j hj => ?_⟩
  have : (l.take k).getD j (0, 0) = l.getD j (0, 0) := by
    rw [List.getD_eq_getElem?_getD, List.getD_eq_getElem?_getD, List.getElem?_take, if_pos hj]
  rw [this]
  exact hc j (by omega)
theorem take_snocR {l : List Rg} {j : Nat} (h : j < l.length) : l.take (j + 1) = l.take j ++ [l.getD j (0, 0)] := by
  rw [List.take_succ_eq_append_getElem h, List.getD_eq_getElem?_getD, List.getElem?_eq_getElem h]; rfl
theorem getD_mem {l : List Rg} {j : Nat} (h : j < l.length) : l.getD j (0, 0) ∈ l := by
  rw [List.getD_eq_getElem?_getD, List.getElem?_eq_getElem h]; exact List.getElem_mem h
theorem not_has_snoc {l : List Rg} {j : Nat} {r : Int} (h : j < l.length) (h1 : ¬ inR (l.take j) r) (h2 : ¬ ((l.getD j (0, 0)).1 ≤ r ∧ r ≤ (l.getD j (0, 0)).2)) : ¬ inR (l.take (j + 1)) r := by
  rw [take_snocR h, inR_snoc]
  exact fun k => k.elim h1 h2
set_option maxRecDepth 100000 in
set_option maxHeartbeats 4000000 in
theorem rHas_any (A : Option Addr) (n c : Nat) (l : List Rg) (r : Int) (w : World) (hr : RowR w w.heap.size A n l) (hn : n ≤ 1000000000) :
    Calls Try.prog 21 #[.slice A n c, .int .i64 r] w fun e w' => e = .returned (.bool (decide (has l r))) ∧ w' = w := by
  have HR := Lib.hid hr
  have hl := hr.1
  clear hr
  go_enter Try.func21, Try.ntmps21
  go_wp2
  go_loopw [5] (fun p wr => ∃ i : Nat, i ≤ n ∧ p = .int .i64 (i : Int) ∧ Hid (isRn r → ¬ inR (l.take i) r) ∧ w = wr) (fun p _ => n - (intOf p).toNat)
  case atStart => exact ⟨0, by omega, rfl, Lib.hid (fun _ => inR_nil r), rfl⟩
  case round =>
    obtain ⟨i, hi, rfl, HI, rfl⟩ := hrel
    by_cases hlt : i < n
    · obtain ⟨b, off, rfl, _, hc⟩ := HR.out.2 (by omega)
      obtain ⟨c1, c2⟩ := hc i hlt
      have hm := getD_mem (l := l) (j := i) (by omega)
      have HN := Lib.hid (fun h1 h2 => not_has_snoc (l := l) (j := i) (r := r) (by omega) h1 h2)
      obtain ⟨x, hx⟩ : ∃ x, l.getD i (0, 0) = x := ⟨_, rfl⟩
      rw [hx] at c1 c2 hm HN
      obtain ⟨x1, x2⟩ := x
      dsimp only at c1 c2
      have HM := Lib.hid hm
      have g0 : (0 : Int) ≤ (i : Int) := by omega
      have g1 : (i : Int) < (n : Int) := by omega
      have f1 : decide ((i : Int) < (n : Int)) = true := decide_eq_true g1
      clear hc hm hx
      by_cases k0 : 0 ≤ r
      · have f2 : decide ((0 : Int) ≤ r) = true := decide_eq_true k0
        by_cases k1 : r ≤ 1114111
        · have f3 : decide (r ≤ 1114111) = true := decide_eq_true k1
          by_cases k2 : x1 ≤ r
          · have f4 : decide (x1 ≤ r) = true := decide_eq_true k2
            by_cases k3 : r ≤ x2
            · have f5 : decide (r ≤ x2) = true := decide_eq_true k3
              have HD : Hid (decide (has l r) = true) := Lib.hid (decide_eq_true ⟨⟨k0, k1⟩, _, HM.out, k2, k3⟩)
              clear k0 k1 k2 k3 hi hlt
              go_wp2_with fail
              go_ret
              rw [HD.out]
              exact ⟨rfl, rfl⟩
            · have f5 : decide (r ≤ x2) = false := decide_eq_false k3
              have HN2 : Hid (isRn r → ¬ inR (l.take (i + 1)) r) := Lib.hid (fun h => HN.out (HI.out h) (fun k => k3 k.2))
              clear k0 k1 k2 k3
              go_wp2_with fail
              exact ⟨⟨i + 1, by omega, by go_num, HN2, trivial⟩, by simp [intOf]; omega⟩
          · have f4 : decide (x1 ≤ r) = false := decide_eq_false k2
            have HN2 : Hid (isRn r → ¬ inR (l.take (i + 1)) r) := Lib.hid (fun h => HN.out (HI.out h) (fun k => k2 k.1))
            clear k0 k1 k2
            go_wp2_with fail
            exact ⟨⟨i + 1, by omega, by go_num, HN2, trivial⟩, by simp [intOf]; omega⟩
        · have f3 : decide (r ≤ 1114111) = false := decide_eq_false k1
          have HN2 : Hid (isRn r → ¬ inR (l.take (i + 1)) r) := Lib.hid (fun h => absurd h.2 k1)
          clear k0 k1
          go_wp2_with fail
          exact ⟨⟨i + 1, by omega, by go_num, HN2, trivial⟩, by simp [intOf]; omega⟩
      · have f2 : decide ((0 : Int) ≤ r) = false := decide_eq_false k0
        have HN2 : Hid (isRn r → ¬ inR (l.take (i + 1)) r) := Lib.hid (fun h => absurd h.1 k0)
        clear k0
        go_wp2_with fail
        exact ⟨⟨i + 1, by omega, by go_num, HN2, trivial⟩, by simp [intOf]; omega⟩
    · have f1 : decide ((i : Int) < (n : Int)) = false := decide_eq_false (by omega)
      have HD : Hid (decide (has l r) = false) := Lib.hid (decide_eq_false (fun h => by
        have := HI.out h.1
        rw [List.take_of_length_le (by omega)] at this
        exact this h.2))
      go_wp2_with fail
      go_ret
      rw [HD.out]
      exact ⟨rfl, rfl⟩
end Go.Proofs.Ytjnnaafkdgoflaa
