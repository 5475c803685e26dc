/- The program's New: what each yield does. -/
import Derived.Test.YtomjdicedjdpnaaCParts
import Derived.Test.YtomjdicedjdpnaaLBy
import Derived.Maps.OwnIn
namespace Go.Proofs.Ytomjdicedjdpnaa
open Go.RowKit Go.Shelf Go.Maps Go.WideMaps

/-- One yield more. -/
def stepP : Option (ByteArray × List Lb) → Lb → Option (ByteArray × List Lb)
  | none, _ => none
  | some (A, l), x => if x.1 = ByteArray.empty then some (x.2, l)
    else if l ≠ [] ∧ (l.getLastD noL).2 = ByteArray.empty then none
    else if x.1 ∈ nmsL l then none
    else some (A, l ++ [x])
def foldP (xs : List Lb) : Option (ByteArray × List Lb) := xs.foldl stepP (some (ByteArray.empty, []))
theorem foldP_snoc (xs : List Lb) (x : Lb) : foldP (xs ++ [x]) = stepP (foldP xs) x := by unfold foldP; rw [List.foldl_append]; rfl
theorem stepP_none (xs : List Lb) : xs.foldl stepP none = none := by
  induction xs with
  | nil => rfl
  | cons x t ih => rw [List.foldl_cons]; exact ih
theorem foldP_pre {xs ys : List Lb} (h : foldP xs = none) : foldP (xs ++ ys) = none := by
  unfold foldP at h ⊢
  rw [List.foldl_append, h, stepP_none]
theorem nmsL_mem {l : List Lb} {n : ByteArray} : n ∈ nmsL l ↔ bl n ∈ namesC (toC l) := by
  rw [← nmsL_names, List.mem_map]
  constructor
  · exact fun h => ⟨n, h, rfl⟩
  · rintro ⟨m, hm, e⟩
    exact bl_inj e ▸ hm
theorem toC_last (l : List Lb) : l = [] ∨ ((l.getLastD noL).2 = ByteArray.empty ↔ ((toC l).getLastD ([], [])).2 = []) := by
  rcases List.eq_nil_or_concat l with e | ⟨t, y, e⟩
  · exact .inl e
  · rw [List.concat_eq_append] at e
    subst e
    right
    rw [toC_snoc, List.getLastD_concat, List.getLastD_concat]
    constructor
    · intro h; rw [h]; rfl
    · intro h; exact bl_nil.2 h
/-- Names that are not empty: the fold says whether the captures may stand. -/
theorem fold_caps (A : ByteArray) : ∀ l m : List Lb, fineC (toC l) → (∀ x ∈ m, x.1 ≠ ByteArray.empty) → m.foldl stepP (some (A, l)) = if fineC (toC (l ++ m)) then some (A, l ++ m) else none
  | l, [], h, _ => by rw [List.append_nil, if_pos h]; rfl
  | l, x :: m, h, hx => by
    have h0 := hx x List.mem_cons_self
    rw [List.foldl_cons, stepP, if_neg h0]
    have hf := fineC_snoc (toC l) (bl x.1, bl x.2)
    rw [← toC_snoc] at hf
    have hpre : ¬ fineC (toC (l ++ [x])) → ¬ fineC (toC (l ++ x :: m)) := fun k1 k2 => k1 (by
      have e : toC (l ++ x :: m) = toC (l ++ [x]) ++ toC m := by simp [toC]
      rw [e] at k2
      exact fineC_pre _ _ k2)
    by_cases c1 : l ≠ [] ∧ (l.getLastD noL).2 = ByteArray.empty
    · rw [if_pos c1, stepP_none, if_neg]
      refine hpre fun k => ?_
      have := (hf.1 k).2.1
      rcases toC_last l with e | e
      · exact c1.1 e
      · rcases this with h1 | h1
        · exact c1.1 (by cases l with | nil => rfl | cons y t => simp [toC] at h1)
        · exact h1 (e.1 c1.2)
    · rw [if_neg c1]
      by_cases c2 : x.1 ∈ nmsL l
      · rw [if_pos c2, stepP_none, if_neg]
        exact hpre fun k => (hf.1 k).2.2 (nmsL_mem.1 c2)
      · rw [if_neg c2]
        have hnext : fineC (toC (l ++ [x])) := hf.2 ⟨h, by
          rcases toC_last l with e | e
          · left; rw [e]; rfl
          · by_cases hl : l = []
            · left; rw [hl]; rfl
            · right; exact fun k => c1 ⟨hl, e.2 k⟩, fun k => c2 (nmsL_mem.2 k)⟩
        rw [fold_caps A (l ++ [x]) m hnext (fun y hy => hx y (List.mem_cons_of_mem _ hy)), List.append_assoc]
        rfl
theorem capsL_toC (p : List Nat) (hp : Byt p) : toC (capsL p) = (segs 0 p).2 := by
  have : ∀ (k : Nat) (L : List Nat), Byt L → Byt (segs k L).1 ∧ ∀ x ∈ (segs k L).2, Byt x.1 ∧ Byt x.2 ∧ x.1 ≠ [] := by
    intro k L
    induction L generalizing k with
    | nil => intro _; simp [segs, Byt.nil]
    | cons c r ih =>
      intro hb
      have hr : Byt r := fun z hz => hb z (List.mem_cons_of_mem _ hz)
      cases k with
      | succ k => rw [segs]; exact ih k hr
      | zero =>
        rw [segs]
        split
        · have := ih 0 hr
          exact ⟨Byt.cons (hb c List.mem_cons_self) this.1, this.2⟩
        · next hc =>
          have := ih ((capN (c :: r)).length + 1) hr
          obtain ⟨t, ht, _⟩ := capN_shape hc
          refine ⟨Byt.nil, fun x hx => ?_⟩
          rcases List.mem_cons.1 hx with rfl | hx
          · exact ⟨fun z hz => hb z (by rw [ht]; simp [hz]), this.1, hc⟩
          · exact this.2 x hx
  have h := (this 0 p hp).2
  unfold toC capsL
  rw [List.map_map]
  conv => rhs; rw [← List.map_id (segs 0 p).2]
  refine List.map_congr_left fun x hx => ?_
  show (bl (ofl x.1), bl (ofl x.2)) = x
  rw [bl_ofl (h x hx).1, bl_ofl (h x hx).2.1]
theorem segs_byt (p : List Nat) (hp : Byt p) : Byt (segs 0 p).1 ∧ ∀ x ∈ (segs 0 p).2, x.1 ≠ [] := by
  have : ∀ (k : Nat) (L : List Nat), Byt L → Byt (segs k L).1 ∧ ∀ x ∈ (segs k L).2, x.1 ≠ [] := by
    intro k L
    induction L generalizing k with
    | nil => intro _; simp [segs, Byt.nil]
    | cons c r ih =>
      intro hb
      have hr : Byt r := fun z hz => hb z (List.mem_cons_of_mem _ hz)
      cases k with
      | succ k => rw [segs]; exact ih k hr
      | zero =>
        rw [segs]
        split
        · have := ih 0 hr
          exact ⟨Byt.cons (hb c List.mem_cons_self) this.1, this.2⟩
        · next hc =>
          have := ih ((capN (c :: r)).length + 1) hr
          refine ⟨Byt.nil, fun x hx => ?_⟩
          rcases List.mem_cons.1 hx with rfl | hx
          · exact hc
          · exact this.2 x hx
  exact this 0 p hp
/-- All yields of a pattern: the fold is the pattern's pieces, if these may stand. -/
theorem fold_all (s : ByteArray) (ys : List Lb) (h : toC ys = yieldL (bl s) 0 0 []) : foldP ys = if fineC (segs 0 (bl s)).2 then some (ofl (segs 0 (bl s)).1, capsL (bl s)) else none := by
  have hb := segs_byt (bl s) (bl_byt s)
  have hc := capsL_toC (bl s) (bl_byt s)
  have hys : ys = (ByteArray.empty, ofl (segs 0 (bl s)).1) :: capsL (bl s) := by
    have e := ofC_toC ys
    rw [h, yield_all] at e
    rw [← e]
    unfold ofC capsL
    rw [List.map_cons]
    rfl
  rw [hys, foldP, List.foldl_cons, stepP, if_pos rfl]
  show (capsL (bl s)).foldl stepP (some (ofl (segs 0 (bl s)).1, [])) = _
  rw [fold_caps _ [] (capsL (bl s)) fineC_nil, List.nil_append, hc]
  intro x hx e
  unfold capsL at hx
  obtain ⟨y, hy, rfl⟩ := List.mem_map.1 hx
  have hn := hb.2 y hy
  have hl := congrArg ByteArray.size e
  have h0 : (ofl y.1).size = y.1.length := by show (y.1.map UInt8.ofNat).toArray.size = _; simp
  dsimp only at hl
  rw [h0] at hl
  exact hn (List.length_eq_zero_iff.1 hl)
theorem yield_byt (s : ByteArray) (x : Cp) (hx : x ∈ yieldL (bl s) 0 0 []) : Byt x.1 ∧ Byt x.2 := by
  rw [yield_all] at hx
  rcases List.mem_cons.1 hx with rfl | hx
  · exact ⟨Byt.nil, (segs_byt (bl s) (bl_byt s)).1⟩
  · have h := capsL_toC (bl s) (bl_byt s)
    rw [← h] at hx
    unfold toC at hx
    obtain ⟨y, _, rfl⟩ := List.mem_map.1 hx
    exact ⟨bl_byt _, bl_byt _⟩
theorem Sn_snoc (ss : List ByteArray) (x : ByteArray) : Sn (ss ++ [x]) = (Sn ss).put (.string x.data.toList) (.agg []) := by
  unfold Sn keysOf
  rw [List.map_append, List.map_cons, List.map_nil, setOf_snoc]
end Go.Proofs.Ytomjdicedjdpnaa
