/- LRow: taken over. -/
import Derived.Test.YtomjdicedjdpnaaLMath3
import Derived.Deep.QuietTactic
import Derived.BigQuiet
import Derived.Deep.SlicePairs
import Derived.Test.YtomjdicedjdpnaaQuoteA
namespace Go.Proofs.Ytomjdicedjdpnaa
open Go.RowKit

abbrev noL : Lb := (ByteArray.empty, ByteArray.empty)
/-- The ranges' cells. -/
def cL : List Lb → List Value
  | [] => []
  | x :: t => .string x.1 :: .string x.2 :: cL t
theorem cL_len : ∀ l, (cL l).length = l.length * 2
  | [] => rfl
  | x :: t => by simp only [cL, List.length_cons, cL_len t]; omega
theorem cL_app : ∀ a b, cL (a ++ b) = cL a ++ cL b
  | [], b => rfl
  | x :: t, b => by simp only [List.cons_append, cL, cL_app t b]
theorem cL_one : ∀ l, ∀ u ∈ cL l, u.oneCell' = true
  | [], u, h => by cases h
  | x :: t, u, h => by
    rcases List.mem_cons.1 h with rfl | h
    · rfl
    · rcases List.mem_cons.1 h with rfl | h
      · rfl
      · exact cL_one t u h
theorem cL_get : ∀ (l : List Lb) (j : Nat), j < l.length → (cL l)[j * 2]? = some (.string (l.getD j noL).1) ∧ (cL l)[j * 2 + 1]? = some (.string (l.getD j noL).2)
  | [], j, h => by simp at h
  | x :: t, 0, _ => ⟨rfl, rfl⟩
  | x :: t, j + 1, h => by
    have := cL_get t j (by simpa using h)
    rw [show (j + 1) * 2 = j * 2 + 1 + 1 by omega]
    exact this
def RowL (w : World) (B : Nat) (A : Option Addr) (n : Nat) (l : List Lb) : Prop :=
  l.length = n ∧ (0 < n → ∃ b off, A = some ⟨b, off, none⟩ ∧ b < B ∧ ∀ j, j < n → w.cell? ⟨b, off + j * 2, none⟩ = some (.string (l.getD j noL).1) ∧ w.cell? ⟨b, off + j * 2 + 1, none⟩ = some (.string (l.getD j noL).2))
theorem RowL.on {w w' : World} {A : Option Addr} {n : Nat} {l : List Lb} (h : RowL w w.heap.size A n l) (hb : Below w.heap.size w w') : RowL w' w'.heap.size A n l :=
  ⟨h.1, fun h0 => by
    obtain ⟨b, off, e, hb', hc⟩ := h.2 h0
    exact ⟨b, off, e, Nat.lt_of_lt_of_le hb' hb.size, fun j hj => ⟨(hb.cell (p := ⟨b, off + j * 2, none⟩) hb').trans (hc j hj).1, (hb.cell (p := ⟨b, off + j * 2 + 1, none⟩) hb').trans (hc j hj).2⟩⟩⟩
theorem RowL.own {w : World} {base n c : Nat} {e : TypeId} {A : Option Addr} {l : List Lb} (h : w.ownsRow base e 2 (.slice A n c) n (cL l)) : RowL w w.heap.size A n l := by
  have hl : l.length = n := by have := h.1; rw [cL_len] at this; omega
  refine ⟨hl, fun h0 => ?_⟩
  obtain ⟨g, cap', hv, _, hlt⟩ := h.form h0
  injection hv with hA
  subst hA
  refine ⟨g, 0, rfl, hlt, fun j hj => ?_⟩
  have hg := cL_get l j (by omega)
  rw [Nat.zero_add]
  exact ⟨(h.cellAt (j * 2) (by omega)).trans hg.1, (h.cellAt (j * 2 + 1) (by omega)).trans hg.2⟩
theorem RowL.take {w : World} {B n : Nat} {A : Option Addr} {l : List Lb} (h : RowL w B A n l) {k : Nat} (hk : k ≤ n) : RowL w B A k (l.take k) := by
  refine ⟨by rw [List.length_take, h.1]; omega, fun h0 => ?_⟩
  obtain ⟨b, off, e, hb, hc⟩ := h.2 (by omega)
  refine ⟨b, off, e, hb, fun j hj => ?_⟩
  have : (l.take k).getD j noL = l.getD j noL := by
    rw [List.getD_eq_getElem?_getD, List.getD_eq_getElem?_getD, List.getElem?_take, if_pos hj]
  rw [this]
  exact hc j (by omega)
theorem take_snocL {l : List Lb} {j : Nat} (h : j < l.length) : l.take (j + 1) = l.take j ++ [l.getD j noL] := by
  rw [List.take_succ_eq_append_getElem h, List.getD_eq_getElem?_getD, List.getElem?_eq_getElem h]; rfl
theorem getD_memL {l : List Lb} {j : Nat} (h : j < l.length) : l.getD j noL ∈ l := by
  rw [List.getD_eq_getElem?_getD, List.getElem?_eq_getElem h]; exact List.getElem_mem h
theorem append_nilL {P : Program} (w : World) (base : Nat) (t ty e : TypeId) (i : TypeInfo) (ht : P.underlying t = some (.slice e)) (hi : P.info? e = some i)
    (v : Value) (n : Nat) (xs : List Value) (hown : w.ownsRow base e 2 v n xs) (c : Nat) : (Builtin.append_ #[t, t] ty #[v, .slice none 0 c]).run P w = .ok v w := by
  obtain ⟨_, h⟩ := hown
  rcases h with ⟨hv, hn⟩ | ⟨g, cap, cur, hv, _, _, hle, _⟩
  · subst hv; subst hn
    simp [Builtin.append_, run_underlying ht, sizeOf, typeInfo, hi, Builtin.lenOf, Builtin.firstCells]
  · subst hv
    simp [Builtin.append_, run_underlying ht, sizeOf, typeInfo, hi, Builtin.lenOf, Builtin.firstCells, hle, storeCells]
/-- 'out = append(out, xs...)', 'out = append(out, x)', ranges. -/
theorem wpList_appL {P : Program} (w : World) {ops : Array Oper} {rest : List Oper} {o : Oper} {a : Act} {Q : Exit → Act → World → Prop} (hgd : o.guard = none) (s x : Operand) (t : TypeId)
    (ho : o.op = .call { callee := .builtin .append, args := #[s, x], argTypes := #[t, t] })
    (base : Nat) (e : TypeId) (i : TypeInfo) (ht : P.underlying t = some (.slice e)) (hi : P.info? e = some i) (hz : i.zero = some (.agg #[.string ByteArray.empty, .string ByteArray.empty]))
    (hsize : i.size = 2) (hby : i.bytes = 32)
    (v : Value) (n : Nat) (xs : List Value) (hs : a.eval s = v) (hown : w.ownsRow base e 2 v n xs)
    (B : Nat) (A : Option Addr) (m c : Nat) (l : List Lb) (hx : a.eval x = .slice A m c) (hr : RowL w B A m l)
    (h63 : n + m ≤ 1000000000) (hbase : base ≤ w.heap.size)
    (h : ∀ v' w', w'.ownsRow base e 2 v' (n + m) (xs ++ cL l) → w.grownBy w' v.ownBlock → Below base w w' → wpList P ops Q rest (a.put o.dst v') w') : wpList P ops Q (o :: rest) a w := by
  have hlt : ∀ k, v.ownBlock = some k → base ≤ k := fun k hk => (hown.lt k hk).1
  rcases A with _ | ⟨b, off, sub⟩
  · have hm : m = 0 := by
      rcases Nat.eq_zero_or_pos m with h0 | h0
      · exact h0
      · obtain ⟨_, _, he, _⟩ := hr.2 h0
        cases he
    subst hm
    have hl : l = [] := List.eq_nil_of_length_eq_zero hr.1
    subst hl
    refine wpList_plain hgd fun K hK => ?_
    have hrun := append_nilL (P := P) w base t o.type e i ht hi v n xs hown c
    unfold Oper.wp
    simp only [execOp, ho, resolve, invoke, builtin, Sem.run_bind, Sem.run_pure, Result.andThen_ok, List.map_toArray, List.map_cons, List.map_nil, hs, hx, hrun]
    exact hK _ _ (h v w (by simpa [cL] using hown) (World.grownBy.refl w _) (Below.refl _ _))
  · refine wpList_append_own_wide w hgd s x t ho base e i (.agg #[.string ByteArray.empty, .string ByteArray.empty]) 2 32 ht hi hz hsize hby rfl (by omega) v n xs hs hown ⟨b, off, sub⟩ m c (cL l) hx (by rw [cL_len, hr.1]) ?_ (cL_one l) (by unfold maxLen; omega) (by omega) hbase ?_
    · intro j u hu
      have hj : j < m * 2 := by have := (List.getElem?_eq_some_iff.1 hu).1; rw [cL_len, hr.1] at this; exact this
      obtain ⟨b', off', he, _, hc⟩ := hr.2 (by omega)
      injection he with he
      have hk := hc (j / 2) (by omega)
      have hg := cL_get l (j / 2) (by rw [hr.1]; omega)
      have hadd : ∀ q, (⟨b', off', none⟩ : Addr).add q = ⟨b', off' + q, none⟩ := fun q => by
        unfold Addr.add
        split <;> simp_all
      rw [he, hadd]
      by_cases h2 : j % 2 = 0
      · rw [show j = j / 2 * 2 by omega] at hu ⊢
        rw [hg.1] at hu
        rw [← hu]; exact hk.1
      · rw [show j = j / 2 * 2 + 1 by omega] at hu ⊢
        rw [hg.2] at hu
        rw [← hu]; exact hk.2
    · intro v' w' h2 h3 _
      exact h v' w' h2 h3 ((Below.refl base w).grown h3 hbase hlt)
theorem RowL.one (w : World) (e : TypeId) (x y : ByteArray) : RowL (w.alloc (.cells #[.string x, .string y] e)) (w.heap.size + 1) (some ⟨w.heap.size, 0, none⟩) 1 [(x, y)] := by
  refine ⟨rfl, fun _ => ⟨w.heap.size, 0, rfl, by omega, fun j hj => ?_⟩⟩
  obtain rfl : j = 0 := by omega
  constructor
  · rw [World.cell?_alloc_at _ _ _ _ (by simp)]; rfl
  · rw [World.cell?_alloc_at _ _ _ _ (by simp)]; rfl
theorem own_onL {w w' : World} {base n : Nat} {e : TypeId} {v : Value} {xs : List Value} (h : w.ownsRow base e 2 v n xs) (hb : Below w.heap.size w w') : w'.ownsRow base e 2 v n xs :=
  h.kept (row := none) ⟨hb.os, hb.tape, hb.output, hb.size, fun j hj _ => hb.block j hj⟩ (by rcases h : v.ownBlock with _ | g <;> simp)
theorem ownL_slice {w : World} {base n : Nat} {e : TypeId} {v : Value} {xs : List Value} (h : w.ownsRow base e 2 v n xs) : ∃ A c, v = .slice A n c := by
  rcases h.2 with ⟨hv, hn⟩ | ⟨g, cap, cur, hv, _⟩
  · subst hv; subst hn; exact ⟨none, 0, rfl⟩
  · exact ⟨_, _, hv⟩
theorem own_lowL {w : World} {base base' n : Nat} {e : TypeId} {v : Value} {xs : List Value} (hb : base' ≤ base) (h : w.ownsRow base e 2 v n xs) : w.ownsRow base' e 2 v n xs :=
  ⟨h.1, h.2.imp id (fun ⟨g, cap, cur, h1, h2, r⟩ => ⟨g, cap, cur, h1, Nat.le_trans hb h2, r⟩)⟩
end Go.Proofs.Ytomjdicedjdpnaa
