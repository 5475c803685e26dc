/- A line that is made of a pattern. -/
import Derived.Test.YtomjdicedjdpnaaCNamesP
namespace Go.Proofs.Ytomjdicedjdpnaa
open Go.RowKit

theorem index_more {s p : List UInt8} (r : List UInt8) (h : Lib.index (s ++ p) p = s.length) : Lib.index (s ++ (p ++ r)) p = s.length := by
  have ho : Lib.occAt (s ++ (p ++ r)) p s.length = true := by
    unfold Lib.occAt
    rw [List.drop_left]
    exact List.isPrefixOf_iff_prefix.2 ⟨r, rfl⟩
  refine Lib.index_first (by simp) ho fun j hj => ?_
  rcases Lib.index_spec (s ++ p) p with ⟨h1, _⟩ | ⟨i, h1, _, _, h4⟩
  · omega
  · have hi : i = s.length := by omega
    subst hi
    have hno := h4 j hj
    cases hb : Lib.occAt (s ++ (p ++ r)) p j with
    | false => rfl
    | true =>
      exfalso
      unfold Lib.occAt at hno hb
      obtain ⟨t, ht⟩ := List.isPrefixOf_iff_prefix.1 hb
      have e : (s ++ (p ++ r)).drop j = (s ++ p).drop j ++ r := by
        rw [← List.append_assoc, List.drop_append_of_le_length (by rw [List.length_append]; omega)]
      rw [e] at ht
      have hl : p.length ≤ ((s ++ p).drop j).length := by rw [List.length_drop, List.length_append]; omega
      have hp : p <+: (s ++ p).drop j := List.prefix_of_prefix_length_le ⟨t, ht⟩ (List.prefix_append _ _) hl
      rw [List.isPrefixOf_iff_prefix.2 hp] at hno
      cases hno
theorem idx_more {s p : ByteArray} (r : ByteArray) (h : idx (s ++ p) p = (s.size : Int)) : idx (s ++ (p ++ r)) p = (s.size : Int) := by
  have hs : s.data.toList.length = s.size := by rw [Array.length_toList]; rfl
  unfold idx at h ⊢
  simp only [ByteArray.data_append, Array.toList_append] at h ⊢
  rw [← hs] at h ⊢
  exact index_more _ h
/-- A part: its name, its text, the piece behind it. -/
abbrev Pt3 := ByteArray × ByteArray × ByteArray
def lineP : List Pt3 → ByteArray → ByteArray
  | [], b => b
  | x :: r, b => x.2.1 ++ (x.2.2 ++ lineP r b)
def fineP (x : Pt3) : Prop := x.2.2 ≠ ByteArray.empty ∧ idx (x.2.1 ++ x.2.2) x.2.2 = (x.2.1.size : Int)
/-- All that is behind is left over. -/
theorem goM_parts : ∀ (l : List Pt3) (b : ByteArray) (m acc : List Lb), (∀ x ∈ l, fineP x) → goM (l.map (fun x => (x.1, x.2.2)) ++ m) (lineP l b) acc = goM m b (l.foldl (fun a x => putN x.1 x.2.1 a) acc)
  | [], b, m, acc, _ => rfl
  | (n, s, p) :: r, b, m, acc, h => by
    obtain ⟨h1, h2⟩ := h _ List.mem_cons_self
    have hi := idx_more (lineP r b) h2
    rw [List.map_cons, List.cons_append, goM, if_neg h1, lineP]
    dsimp only at hi ⊢
    rw [hi, if_neg (by omega), Int.toNat_natCast, ext_left, ext_right, goM_parts r b m _ (fun x hx => h x (List.mem_cons_of_mem _ hx))]
    rfl
/-- The pattern's bytes behind the first. -/
def catQ : List (List Nat × List Nat) → List Nat
  | [] => []
  | x :: r => 60 :: (x.1 ++ 62 :: (x.2 ++ catQ r))
theorem segs_lit : ∀ (a r : List Nat), 60 ∉ a → segs 0 (a ++ r) = (a ++ (segs 0 r).1, (segs 0 r).2)
  | [], r, _ => rfl
  | c :: a, r, h => by
    have hc : c ≠ 60 := fun e => h (by rw [e]; exact List.mem_cons_self)
    rw [List.cons_append, segs_none (by simp) (capN_other _ hc)]
    simp only [List.headD_cons, List.tail_cons]
    rw [segs_lit a r (fun k => h (List.mem_cons_of_mem _ k))]
    rfl
theorem segs_catQ : ∀ l : List (List Nat × List Nat), (∀ x ∈ l, nameB x.1 = true ∧ 60 ∉ x.2) → segs 0 (catQ l) = ([], l)
  | [], _ => rfl
  | x :: r, h => by
    obtain ⟨hn, hp⟩ := h x List.mem_cons_self
    have hc : capN (catQ (x :: r)) = x.1 := capN_of _ hn
    have hne : capN (catQ (x :: r)) ≠ [] := by rw [hc]; exact (nameB_chars hn).1
    rw [segs_some hne, hc]
    have hd : (catQ (x :: r)).drop (x.1.length + 2) = x.2 ++ catQ r := by
      rw [catQ, show (60 :: (x.1 ++ 62 :: (x.2 ++ catQ r))) = (60 :: x.1 ++ [62]) ++ (x.2 ++ catQ r) by simp]
      rw [show x.1.length + 2 = (60 :: x.1 ++ [62]).length by simp, List.drop_left]
    rw [hd, segs_lit _ _ hp, segs_catQ r (fun y hy => h y (List.mem_cons_of_mem _ hy))]
    simp
/-- The whole pattern: '<' stands first. -/
theorem segs_back (l : List (List Nat × List Nat)) (h : ∀ x ∈ l, nameB x.1 = true ∧ 60 ∉ x.2) : segs 0 (60 :: catQ l) = ([60], l) := by
  have hc : capN (60 :: catQ l) = [] := by
    cases l with
    | nil => rw [catQ, capN_cons, if_neg (by simp)]
    | cons x r =>
      rw [capN_cons, if_neg]
      rintro ⟨_, _, h3⟩
      have := (nameB_chars h3).2.2 60 (by rw [catQ, pre62, if_neg (by decide)]; exact List.mem_cons_self)
      exact this.1 rfl
  rw [segs_none (by simp) hc]
  simp only [List.headD_cons, List.tail_cons]
  rw [segs_catQ l h]
end Go.Proofs.Ytomjdicedjdpnaa
