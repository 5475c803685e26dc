/- slices.IndexFunc, slices.DeleteFunc at labels: those without a value. -/
import Derived.Test.YtdmflofdchmfhaaGreatDoorLGet
import Derived.Lib.SliceRun
import Derived.Laws.IdiomCopy
namespace Go.Proofs.YtdmflofdchmfhaaGreatDoor
open Go.RowKit

def hasV (x : Lb) : Bool := decide (x.2 ≠ ByteArray.empty)
set_option maxHeartbeats 1000000 in
theorem noV_any (x1 x2 : ByteArray) (w : World) : Calls Tryz.prog 30 #[.agg #[.string x1, .string x2]] w fun e w' => e = .returned (.bool (!hasV (x1, x2))) ∧ Below w.heap.size w w' := by
  have hb : Below w.heap.size w (w.alloc (.cells #[.string x1, .string x2] 29)) := (Below.refl _ w).alloc (Nat.le_refl _) _
  have HB := Lib.hid hb
  clear hb
  by_cases he : x2 = ByteArray.empty
  · have e1 := emp_yes he
    have HV : Hid (hasV (x1, x2) = false) := Lib.hid (by unfold hasV; rw [decide_eq_false (fun k => k he)])
    clear he
    go_enter Tryz.func30, Tryz.ntmps30
    go_wp2_with fail
    go_ret
    rw [HV.out]
    exact ⟨rfl, HB.out⟩
  · have e1 := emp_no he
    have HV : Hid (hasV (x1, x2) = true) := Lib.hid (by unfold hasV; rw [decide_eq_true he])
    clear he
    go_enter Tryz.func30, Tryz.ntmps30
    go_wp2_with fail
    go_ret
    rw [HV.out]
    exact ⟨rfl, HB.out⟩
/-- Where the first one without a value stands. -/
def IdxOut (l : List Lb) (v : Int) : Prop := (v = -1 ∧ ∀ x ∈ l, hasV x = true) ∨ ∃ k : Nat, v = (k : Int) ∧ k < l.length ∧ (∀ x ∈ l.take k, hasV x = true) ∧ hasV (l.getD k noL) = false
set_option maxRecDepth 100000 in
set_option maxHeartbeats 1000000 in
theorem Index_any (A : Option Addr) (n c : Nat) (l : List Lb) (w : World) (hr : RowL w w.heap.size A n l) (hn : n ≤ 100000000) :
    Calls Tryz.prog 57 #[.slice A n c, .func (.func 30) #[] #[]] w fun e w' => (∃ v, IdxOut l v ∧ e = .returned (.int .i64 v)) ∧ Below w.heap.size w w' := by
  have HL := Lib.hid hr.1
  have HR := Lib.hid hr
  clear hr
  go_enter Tryz.func57, Tryz.ntmps57
  go_wp2_with fail
  go_loopw [8] (fun p wr => ∃ k : Nat, k ≤ n ∧ p = .int .i64 (k : Int) ∧ Hid (∀ x ∈ l.take k, hasV x = true) ∧ Below w.heap.size w wr) (fun p _ => n - (intOf p).toNat)
  case atStart => exact ⟨0, by omega, rfl, Lib.hid (by simp), Below.refl _ _⟩
  case round =>
    obtain ⟨k, hk, rfl, HN, hb⟩ := hrel
    by_cases hlt : k < n
    · obtain ⟨b, off, rfl, hbB, hc⟩ := HR.out.2 (by omega)
      obtain ⟨c1, c2⟩ := hc k hlt
      replace c1 := (hb.cell (p := ⟨b, off + k * 2, none⟩) hbB).trans c1
      replace c2 := (hb.cell (p := ⟨b, off + k * 2 + 1, none⟩) hbB).trans c2
      have HK : Hid (k < l.length) := Lib.hid (by rw [HL.out]; exact hlt)
      obtain ⟨y, hy⟩ : ∃ y, l.getD k noL = y := ⟨_, rfl⟩
      rw [hy] at c1 c2
      have HY := Lib.hid hy
      obtain ⟨y1, y2⟩ := y
      dsimp only at c1 c2
      have g0 : (0 : Int) ≤ (k : Int) := by omega
      have g1 : (k : Int) < (n : Int) := by omega
      have f1 : decide ((k : Int) < (n : Int)) = true := decide_eq_true g1
      have HBr := Lib.hid hb
      have C := noV_any y1 y2 wr
      obtain ⟨t, ht⟩ : ∃ t, hasV (y1, y2) = t := ⟨_, rfl⟩
      rw [ht] at C
      have HT := Lib.hid ht
      replace C := Lib.hid C
      clear hc hy hb ht
      go_wp2_with fail
      with_reducible refine C.out.mono ?_
      rintro e w3 ⟨rfl, b3⟩
      have HB3 := Lib.hid (HBr.out.trans (b3.mono HBr.out.size))
      clear C b3 HBr
      rcases t with _ | _
      · go_wp2_with fail
        go_ret
        exact ⟨⟨(k : Int), .inr ⟨k, rfl, HK.out, HN.out, by rw [HY.out]; exact HT.out⟩, rfl⟩, HB3.out⟩
      · have HN2 : Hid (∀ x ∈ l.take (k + 1), hasV x = true) := Lib.hid (fun z hz => by
          rw [take_snocL HK.out, HY.out] at hz
          rcases List.mem_append.1 hz with hz | hz
          · exact HN.out z hz
          · rw [List.mem_singleton.1 hz]; exact HT.out)
        go_wp2_with fail
        exact ⟨⟨k + 1, hlt, by go_num, HN2, HB3.out⟩, by simp [intOf]; omega⟩
    · have f1 : decide ((k : Int) < (n : Int)) = false := decide_eq_false (by omega)
      have HF : Hid (∀ x ∈ l, hasV x = true) := Lib.hid (by have h := HN.out; rwa [List.take_of_length_le (by rw [HL.out]; omega)] at h)
      go_wp2_with fail
      go_ret
      exact ⟨⟨-1, .inl ⟨rfl, HF.out⟩, rfl⟩, hb⟩
/-- Cells written into an owned row, from o on: what lies ahead stays. -/
theorem own_sets {base g n c : Nat} {e : TypeId} : ∀ (vs : List Value) (o : Nat) (w : World) (xs : List Value), w.ownsRow base e 2 (.slice (some ⟨g, 0, none⟩) n c) n xs →
    ∃ xs', (w.setCells g o vs).ownsRow base e 2 (.slice (some ⟨g, 0, none⟩) n c) n xs' ∧ xs'.take o = xs.take o ∧ w.grownBy (w.setCells g o vs) (some g)
  | [], o, w, xs, h => ⟨xs, h, rfl, World.grownBy.refl w _⟩
  | v :: r, o, w, xs, h => by
    obtain ⟨h1, h2⟩ := h.stored o v
    obtain ⟨xs', k1, k2, k3⟩ := own_sets r (o + 1) _ _ h1
    refine ⟨xs', k1, ?_, h2.trans k3⟩
    have := congrArg (List.take o) k2
    rw [List.take_take, List.take_take, Nat.min_eq_left (by omega)] at this
    rw [this]
    apply List.ext_getElem?
    intro j
    by_cases hj : j < o
    · rw [List.getElem?_take_of_lt hj, List.getElem?_take_of_lt hj, List.getElem?_set_ne (by omega)]
    · rw [List.getElem?_take_eq_none (by omega), List.getElem?_take_eq_none (by omega)]
theorem own_cut {w : World} {base g n c : Nat} {e : TypeId} {xs : List Value} (h : w.ownsRow base e 2 (.slice (some ⟨g, 0, none⟩) n c) n xs) (i : Nat) (hi : i ≤ n) : w.ownsRow base e 2 (.slice (some ⟨g, 0, none⟩) i c) i (xs.take (i * 2)) := by
  have hl := h.1
  rcases h.2 with ⟨h', _⟩ | ⟨g', cap', cur, h', hb, hg, hnc, hcm, hcs, htake⟩
  · simp at h'
  · simp only [Value.slice.injEq, Option.some.injEq, Addr.mk.injEq, and_true, true_and] at h'
    obtain ⟨rfl, rfl⟩ := h'
    refine ⟨by rw [List.length_take, hl]; first | done | exact Nat.min_eq_left (by have := Nat.mul_le_mul_right 2 hi; omega), .inr ⟨g, c, cur, rfl, hb, hg, by omega, hcm, hcs, ?_⟩⟩
    rw [← htake, List.take_take, Nat.min_eq_left (Nat.mul_le_mul_right 2 hi)]
theorem run_clear_two {P : Program} (w : World) (t e ty : TypeId) (ht : P.underlying t = some (.slice e)) (hv : ∀ w, (zeroValue e).run P w = .ok (.agg #[.string ByteArray.empty, .string ByteArray.empty]) w) (b o n c : Nat) (hn : 0 < n)
    (hc : ∀ j, j < n * 2 → (w.cell? ⟨b, o + j, none⟩).isSome = true) (hf : ∀ j, j < n * 2 → w.frozen? ⟨b, o + j, none⟩ = false) :
    ∃ vs : List Value, (Builtin.clear_ #[t] ty #[.slice (some ⟨b, o, none⟩) n c]).run P w = .ok (.tuple #[]) (w.setCells b o vs) := by
  refine ⟨(Builtin.zeroCells (Value.agg #[.string ByteArray.empty, .string ByteArray.empty]).cells n).toList, ?_⟩
  have hlen : (Builtin.zeroCells (Value.agg #[.string ByteArray.empty, .string ByteArray.empty]).cells n).toList.length = n * 2 := by
    simp [Builtin.zeroCells, Value.cells]
  have hst := run_storeCells_cells (P := P) b o (Builtin.zeroCells (Value.agg #[.string ByteArray.empty, .string ByteArray.empty]).cells n).toList 0 w (by rw [hlen]; simpa using hc) (by rw [hlen]; simpa using hf) (by
    intro v hv'
    simp [Builtin.zeroCells, Value.cells] at hv'
    obtain ⟨j, hj, rfl⟩ := hv'
    rcases Nat.mod_two_eq_zero_or_one j with h | h <;> simp [h, Value.oneCell'])
  simp only [Nat.add_zero] at hst
  obtain ⟨m, rfl⟩ : ∃ m, n = m + 1 := ⟨n - 1, by omega⟩
  simp [Builtin.clear_, run_underlying ht, hv, hst]
theorem zeroL (w : World) : (zeroValue 29).run Tryz.prog w = .ok (.agg #[.string ByteArray.empty, .string ByteArray.empty]) w := by kernel_rfl
theorem cL_set2 (F T : List Lb) (g0 : Lb) (a b : ByteArray) (i : Nat) (hi : F.length = i) : ((cL (F ++ g0 :: T)).set (i * 2) (.string a)).set (i * 2 + 1) (.string b) = cL (F ++ (a, b) :: T) := by
  subst hi
  rw [cL_app, cL_app, List.set_append_right _ _ (by rw [cL_len]; omega), cL_len, Nat.sub_self, List.set_append_right _ _ (by rw [cL_len]; omega), cL_len, show F.length * 2 + 1 - F.length * 2 = 1 by omega]
  rfl
theorem getD_mid {X T : List Lb} {y : Lb} {j : Nat} (h : X.length = j) : (X ++ y :: T).getD j noL = y := by
  subst h
  simp [List.getD_eq_getElem?_getD]
theorem drop_consL {l : List Lb} {j : Nat} {y : Lb} (h : j < l.length) (hy : l.getD j noL = y) : l.drop j = y :: l.drop (j + 1) := by
  rw [List.drop_eq_getElem_cons h]
  rw [List.getD_eq_getElem?_getD, List.getElem?_eq_getElem h] at hy
  simp only [Option.getD_some] at hy
  rw [hy]
end Go.Proofs.YtdmflofdchmfhaaGreatDoor
