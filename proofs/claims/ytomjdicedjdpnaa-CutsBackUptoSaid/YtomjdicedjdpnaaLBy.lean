/- LBy: taken over. -/
import Derived.Test.YtomjdicedjdpnaaLSel
namespace Go.Proofs.Ytomjdicedjdpnaa
open Go.RowKit

open Go.RowKit Go.Maps Go.WideMaps

theorem run_makeMap_hint {P : Program} {t k e : TypeId} (h : P.underlying t = some (.map k e)) (q : IntKind) (n : Int) (w : World) : (Instr.makeMap t (some (.int q n))).run P w = .ok (.map (some w.heap.size)) (w.alloc (.map #[] 0)) := by
  simp [Instr.makeMap, run_underlying h, asInt]
  rfl
def keysOf (ss : List ByteArray) : List Lit := ss.map fun s => .string s.data.toList
def Sn (ss : List ByteArray) : DataW Unit := setOf (.agg []) (keysOf ss)
theorem keysOf_key (ss : List ByteArray) : ∀ x ∈ keysOf ss, WideAt.IsKeyLit x := by
  intro x hx
  obtain ⟨s, _, rfl⟩ := List.mem_map.1 hx
  trivial
theorem has_Sn (ss : List ByteArray) (x : ByteArray) : Maps.has (Sn ss) (.string x.data.toList) = decide (x ∈ ss) := by
  rw [Sn, has_setOf _ _ _ (keysOf_key ss)]
  rw [Bool.eq_iff_iff, List.any_eq_true, decide_eq_true_eq]
  constructor
  · rintro ⟨y, hy, h⟩
    obtain ⟨s, hs, rfl⟩ := List.mem_map.1 hy
    have := WideAt.sameKey_eq h
    injection this with e
    have e2 : s = x := ByteArray.ext (Array.toList_inj.1 e)
    exact e2 ▸ hs
  · intro h
    exact ⟨_, List.mem_map_of_mem h, by simp [Lit.sameKey]⟩
theorem keyS : Keyed Try.prog 9 := string_keyed Try.underlying9
theorem zeroS (w : World) : (zeroValue 63).run Try.prog w = .ok (.agg #[]) w := by kernel_rfl
set_option maxRecDepth 100000 in
set_option maxHeartbeats 4000000 in
theorem setOf_any (A : Option Addr) (n c : Nat) (ss : List ByteArray) (w : World) (hr : Row w w.heap.size A n (strs ss)) (hn : n ≤ 100000000) (hs : ∀ s ∈ ss, s.size ≤ maxLen) :
    Calls Try.prog 42 #[.slice A n c] w fun e w' => e = .returned (.map (some w.heap.size)) ∧ w'.ownsMap Try.prog 9 (unitElem (H := Unit)) w.heap.size n (Sn ss) ∧ Below w.heap.size w w' := by
  have hmm := fun (q : IntKind) (m : Int) (W : World) => run_makeMap_hint (P := Try.prog) Try.underlying58 q m W
  have HL : Hid (ss.length = n) := Lib.hid (by rw [← strs_len]; exact hr.1)
  have HR := Lib.hid hr
  clear hr
  go_enter Try.func42, Try.ntmps42
  go_wp2_with fail
  go_loopw [11] (fun p wr => ∃ k : Nat, k ≤ n ∧ p = .int .i64 (k : Int) ∧ wr.ownsMap Try.prog 9 (unitElem (H := Unit)) w.heap.size k (Sn (ss.take k)) ∧ Below w.heap.size w wr) (fun p _ => n - (intOf p).toNat)
  case atStart => exact ⟨0, by omega, rfl, World.ownsMap_made _ _ _ _, (Below.refl _ _).alloc (Nat.le_refl _) _⟩
  case round =>
    obtain ⟨k, hk, rfl, hown, hb⟩ := hrel
    by_cases hlt : k < n
    · obtain ⟨b, off, rfl, hbB, hc⟩ := HR.out.2 (by omega)
      have hkl : k < ss.length := by rw [HL.out]; exact hlt
      have c1 := (hb.cell (p := ⟨b, off + k, none⟩) hbB).trans ((hc k hlt).trans (strs_get _ _ hkl))
      have hsz : (ss.getD k ByteArray.empty).size ≤ maxLen := by
        rw [List.getD_eq_getElem?_getD, List.getElem?_eq_getElem hkl]
        exact hs _ (List.getElem_mem hkl)
      obtain ⟨y, hy⟩ : ∃ y, ss.getD k ByteArray.empty = y := ⟨_, rfl⟩
      rw [hy] at c1 hsz
      have hkey : keyOf Try.prog 9 (.string y) = some (.string y.data.toList) := keyOf_string_mk Try.underlying9 hsz
      have HS : Hid (Sn (ss.take (k + 1)) = (Sn (ss.take k)).put (.string y.data.toList) (.agg [])) := Lib.hid (by
        unfold Sn keysOf
        rw [List.take_succ_eq_append_getElem hkl, List.map_append, List.map_cons, List.map_nil, setOf_snoc]
        rw [List.getD_eq_getElem?_getD, List.getElem?_eq_getElem hkl] at hy
        simp only [Option.getD_some] at hy
        rw [hy])
      have g0 : (0 : Int) ≤ (k : Int) := by omega
      have g1 : (k : Int) < (n : Int) := by omega
      have f1 : decide ((k : Int) < (n : Int)) = true := decide_eq_true g1
      have HBr := Lib.hid hb
      clear hc hy hb hsz hkl
      go_wp2_with (first
        | (at_mapUpdate; refine wpList_mapUpdate_own _ rfl _ _ _ 58 rfl 9 63 keyS Try.underlying58 (unitElem (H := Unit)) w.heap.size k _ rfl hown (by unfold maxLen; omega) _ _ _ rfl rfl hkey _ [] unitElem_mk ?_; intro w1 hown1 hgrow1)
        | fail)
      have hb1 : Below w.heap.size w w1 := HBr.out.grown hgrow1 HBr.out.size (fun j hj => by cases hj; exact Nat.le_refl _)
      have ho1 : w1.ownsMap Try.prog 9 (unitElem (H := Unit)) w.heap.size (k + 1) (Sn (ss.take (k + 1))) := by rw [HS.out]; exact hown1
      clear hown hown1 hgrow1 HBr
      go_wp2_with fail
      exact ⟨⟨k + 1, hlt, by go_num, ho1, hb1⟩, by simp [intOf]; omega⟩
    · have hkn : k = n := by omega
      have f1 : decide ((k : Int) < (n : Int)) = false := decide_eq_false (by omega)
      rw [List.take_of_length_le (by rw [HL.out]; omega)] at hown
      have HO := Lib.hid (hown.mono (n' := n) (by omega))
      clear hown hkn
      go_wp2_with fail
      go_ret
      exact ⟨rfl, HO.out, hb⟩
theorem grown_of_below {w w' : World} (h : Below w.heap.size w w') : w.grownBy w' none := ⟨h.os, h.tape, h.output, h.size, fun i hi _ => h.block i hi⟩
theorem chosen_true (ss : List ByteArray) (x : ByteArray) : chosen ss true x = decide (x ∈ ss) := by unfold chosen; cases decide (x ∈ ss) <;> rfl
theorem chosen_false (ss : List ByteArray) (x : ByteArray) : chosen ss false x = !decide (x ∈ ss) := by unfold chosen; cases decide (x ∈ ss) <;> rfl
set_option maxRecDepth 100000 in
set_option maxHeartbeats 4000000 in
theorem by_says (x : ByteArray) (ss : List ByteArray) (B m n : Nat) (w : World) (hB : B < w.heap.size) (hc : w.cell? ⟨B, 0, none⟩ = some (.map (some m))) (hm : w.ownsMap Try.prog 9 (unitElem (H := Unit)) m n (Sn ss)) (hx : x.size ≤ maxLen) : PSays 44 B w (chosen ss true) x := by
  intro W hb
  have c1 := (hb.cell (p := ⟨B, 0, none⟩) hB).trans hc
  have hown := hm.kept (grown_of_below hb) (by simp)
  have hkey : keyOf Try.prog 9 (.string x) = some (.string x.data.toList) := keyOf_string_mk Try.underlying9 hx
  have HH := Lib.hid (has_Sn ss x)
  have HV := Lib.hid (chosen_true ss x)
  have HB := Lib.hid hb
  clear hB hc hm hx hb
  go_enter Try.func44, Try.ntmps44
  go_wp2_with (first
    | (at_lookup; refine wpList_lookup_own_unit _ rfl _ _ 58 rfl 9 63 keyS Try.underlying58 (zeroS _) m n _ rfl hown _ _ rfl hkey ?_)
    | fail)
  rw [HH.out]
  obtain ⟨t, ht⟩ : ∃ t, decide (x ∈ ss) = t := ⟨_, rfl⟩
  rw [ht] at HV ⊢
  clear hown HH ht hkey
  go_wp2_with fail
  go_ret
  rw [HV.out]
  exact ⟨rfl, (Below.refl _ W).alloc (Nat.le_refl _) _⟩
set_option maxRecDepth 100000 in
set_option maxHeartbeats 4000000 in
theorem By_any (A A' : Option Addr) (n m c c' : Nat) (l : List Lb) (ss : List ByteArray) (w : World) (hr : RowL w w.heap.size A n l) (hs : Row w w.heap.size A' m (strs ss)) (hn : n ≤ 10000000) (hm : m ≤ 10000000) (hz : ∀ s ∈ ss, s.size ≤ maxLen) (hx : ∀ x ∈ l, x.1.size ≤ maxLen) :
    Calls Try.prog 25 #[.slice A n c, .slice A' m c'] w (LOut w (pickL l (chosen ss true))) := by
  have HC := Lib.hid (setOf_any A' m c' ss w hs (by omega) hz)
  have HR := Lib.hid hr
  have HX := Lib.hid hx
  clear hr hs hz hx
  go_enter Try.func25, Try.ntmps25
  go_wp2_with fail
  with_reducible refine HC.out.mono ?_
  rintro e w1 ⟨rfl, ho, b1⟩
  have hb : Below w1.heap.size w1 (w1.alloc (.cells #[.map (some w.heap.size)] 58)) := (Below.refl _ w1).alloc (Nat.le_refl _) _
  have hbb := next b1 hb
  have C := selected_by A n c l (chosen ss true) w1.heap.size _ (HR.out.on hbb) hn (fun y hy => by_says y.1 ss w1.heap.size w.heap.size m _ (by rw [World.size_alloc]; omega) (by rw [World.cell?_alloc_at _ _ _ _ (by simp)]; rfl) (ho.alloc _) (HX.out y hy))
  replace C := Lib.hid C
  have HB := Lib.hid hbb
  clear HC ho b1 hb hbb HR HX
  generalize pickL l (chosen ss true) = r at *
  go_wp2_with fail
  with_reducible refine C.out.mono ?_
  rintro e w2 ⟨A2, c2, rfl, o2, b2⟩
  have HO := Lib.hid (own_lowL HB.out.size o2)
  have HB2 := Lib.hid (next HB.out b2)
  clear o2 b2
  go_wp2_with fail
  go_ret
  exact ⟨A2, c2, rfl, HO.out, HB2.out⟩
end Go.Proofs.Ytomjdicedjdpnaa
