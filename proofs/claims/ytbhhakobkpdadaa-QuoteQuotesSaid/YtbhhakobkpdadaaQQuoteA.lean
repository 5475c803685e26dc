/- Quote: what it writes. -/
import Derived.Test.YtbhhakobkpdadaaQBuf
namespace Go.Proofs.Ytbhhakobkpdadaa
open Go.RowKit Go.Shelf

attribute [local go_sem] Oper.semAt_some

def hx (d : Nat) : Nat := if d < 10 then 48 + d else 87 + d
/-- What a part of a text becomes. -/
def qB (x : List Nat × Nat) : List Nat :=
  if x.2 = 34 ∨ x.2 = 92 then 92 :: x.1
  else if x.2 = 10 then [92, 110]
  else if x.2 = 13 then [92, 114]
  else if x.2 = 9 then [92, 116]
  else if x.2 < 32 ∨ x.2 = 127 ∨ (x.2 = 65533 ∧ x.1.length = 1) then [92, 120, hx (x.1.getD 0 0 / 16), hx (x.1.getD 0 0 % 16)]
  else x.1
def qFlat (l : List (List Nat × Nat)) : List Nat := l.flatMap qB
def quoteL (L : List Nat) : List Nat := 34 :: (qFlat (parts L) ++ [34])
theorem qB_len {x : List Nat × Nat} (h : x.1.length ≤ 4) : (qB x).length ≤ 5 := by
  unfold qB
  repeat' split
  all_goals first | omega | (simp; done) | (simp; omega)
theorem qFlat_len {l : List (List Nat × Nat)} (h : ∀ x ∈ l, x.1.length ≤ 4) : (qFlat l).length ≤ 5 * l.length := by
  induction l with
  | nil => simp [qFlat]
  | cons x t ih =>
    have h1 := qB_len (h x (by simp))
    have h2 := ih (fun y hy => h y (by simp [hy]))
    simp only [qFlat, List.flatMap_cons, List.length_append, List.length_cons] at h2 ⊢
    omega
theorem qFlat_snoc (l : List (List Nat × Nat)) (x : List Nat × Nat) : qFlat (l ++ [x]) = qFlat l ++ qB x := by simp [qFlat]
theorem qFlat_snoc' (l m : List (List Nat × Nat)) : qFlat (l ++ m) = qFlat l ++ m.flatMap qB := by simp [qFlat]
theorem bd_own {β : Type} (B b N : Nat) (f : β → List Nat) : OwnFrom N (fun s W => Bd B b (f s) W) := by
  intro s W W' row h hg hr
  have key : ∀ p, Lib.BuilderAt 51 5 B b p (cN (f s)) W → Lib.BuilderAt 51 5 B b p (cN (f s)) W' := by
    rintro p ⟨hB, v, hb, hown, hne⟩
    have hrow : ∀ g o, W.heap[g]? = some o → o.isCells = true → some g ≠ row := fun g o h1 h2 e => by
      obtain ⟨_, o', h3, h4⟩ := hr g e.symm
      rw [h1] at h3; cases h3; rw [h2] at h4; cases h4
    refine ⟨hB, v, ?_, ?_, hne⟩
    · exact (hg.block b (Array.getElem?_eq_some_iff.1 hb).1 (hrow b _ hb rfl)).trans hb
    · refine hown.kept hg ?_
      rcases hown.2 with ⟨rfl, _⟩ | ⟨g, cap, cur, rfl, _, hgb, _⟩
      · exact .inl rfl
      · exact .inr (hrow g _ hgb rfl)
  exact h.elim (fun x => .inl (key _ x)) (fun x => .inr (key _ x))
theorem parts_byt (s : ByteArray) : ∀ x ∈ parts (bl s), Byt x.1 := by
  suffices ∀ n (L : List Nat), L.length ≤ n → Byt L → ∀ x ∈ parts L, Byt x.1 from this _ _ (Nat.le_refl _) (bl_byt s)
  intro n
  induction n with
  | zero =>
    intro L h _ x hx
    have : L = [] := List.eq_nil_of_length_eq_zero (by omega)
    subst this
    cases hx
  | succ n ih =>
    intro L h hb x hx
    by_cases hL : L = []
    · subst hL; cases hx
    · have hd := dec_size hL
      rw [parts_cons hL] at hx
      rcases List.mem_cons.1 hx with rfl | h2
      · exact hb.take _
      · exact ih _ (by rw [List.length_drop]; omega) (hb.drop _) x h2
theorem hx_lt {d : Nat} (h : d < 16) : hx d < 256 := by unfold hx; split <;> omega
theorem qB_byt {x : List Nat × Nat} (h : Byt x.1) : Byt (qB x) := by
  have h9 : ∀ q : List Nat, Byt q → q.getD 0 0 < 256 := fun q h => by
    cases q with
    | nil => exact Nat.zero_lt_succ _
    | cons a t => exact h a List.mem_cons_self
  have h0 := h9 _ h
  unfold qB
  repeat' split
  · exact Byt.cons (by omega) h
  · exact Byt.cons (by omega) (Byt.cons (by omega) Byt.nil)
  · exact Byt.cons (by omega) (Byt.cons (by omega) Byt.nil)
  · exact Byt.cons (by omega) (Byt.cons (by omega) Byt.nil)
  · exact Byt.cons (by omega) (Byt.cons (by omega) (Byt.cons (hx_lt (by omega)) (Byt.cons (hx_lt (by omega)) Byt.nil)))
  · exact h
theorem qFlat_byt {l : List (List Nat × Nat)} (h : ∀ x ∈ l, Byt x.1) : Byt (qFlat l) := by
  intro y hy
  obtain ⟨x, hx, hxy⟩ := List.mem_flatMap.1 hy
  exact qB_byt (h x hx) y hxy
theorem quote_byt (s : ByteArray) : Byt (quoteL (bl s)) :=
  Byt.cons (by omega) ((qFlat_byt (parts_byt s)).app (Byt.cons (by omega) Byt.nil))
def hexS : ByteArray := ⟨#[48, 49, 50, 51, 52, 53, 54, 55, 56, 57, 97, 98, 99, 100, 101, 102]⟩
theorem hex_get : ∀ j : Nat, (h : j < 16) → (hexS[j]'h).toNat = hx j := by decide
theorem hex_run (j : Nat) (h : j < 16) (w : World) : Sem.run Try.prog (Instr.index 9 (.string ⟨#[48, 49, 50, 51, 52, 53, 54, 55, 56, 57, 97, 98, 99, 100, 101, 102]⟩) (.int .u8 (j : Int))) w = .ok (.int .u8 ((hx j : Nat) : Int)) w := by
  have hz : hexS.size = 16 := rfl
  have hi : (0 : Int) ≤ (j : Int) ∧ (j : Int) < (hexS.size : Int) := by omega
  have := run_index_string (P := Try.prog) w 9 hexS .u8 (j : Int) Try.underlying9
  rw [dif_pos hi] at this
  refine this.trans ?_
  congr 3
  exact hex_get j h
theorem and15 (c : Nat) (h : c < 256) : bits .and .u8 (c : Int) 15 = ((c % 16 : Nat) : Int) := by
  rw [show (15 : Int) = ((15 : Nat) : Int) from rfl, and_u8 _ _ h (by omega), low4]
end Go.Proofs.Ytbhhakobkpdadaa
