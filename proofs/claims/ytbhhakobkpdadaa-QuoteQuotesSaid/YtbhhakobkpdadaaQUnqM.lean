/- What text in quotes stands for. -/
import Derived.Test.YtbhhakobkpdadaaQNum
namespace Go.Proofs.Ytbhhakobkpdadaa
open Go.RowKit Go.Shelf

/-- One piece of a text in double quotes: what it stands for, how many bytes it has. -/
def stepU (L : List Nat) : Option (List Nat × Nat) := match L with
  | [] => none
  | c :: t => if c = 34 ∨ c = 10 then none else if c ≠ 92 then some ([c], 1) else
    match t with
    | [] => none
    | k :: u => match escF k with
      | some b => some ([b], 2)
      | none => match numB u (dcB k) with
        | none => none
        | some x => if k = 120 then some ([x], 2 + dcB k) else if runeN x then some (encN x, 2 + dcB k) else none
theorem stepU_bad {c : Nat} {t : List Nat} (h : c = 34 ∨ c = 10) : stepU (c :: t) = none := by
  unfold stepU; simp only [if_pos h]
theorem stepU_one {c : Nat} {t : List Nat} (h : ¬ (c = 34 ∨ c = 10)) (h2 : c ≠ 92) : stepU (c :: t) = some ([c], 1) := by
  unfold stepU; simp only [if_neg h, if_pos h2]
theorem stepU_end : stepU [92] = none := by decide
theorem stepU_esc {k b : Nat} {u : List Nat} (h : escF k = some b) : stepU (92 :: k :: u) = some ([b], 2) := by
  unfold stepU; simp [h]
theorem stepU_num {k : Nat} {u : List Nat} (h : escF k = none) (h2 : numB u (dcB k) = none) : stepU (92 :: k :: u) = none := by
  unfold stepU; simp [h, h2]
theorem stepU_x {x : Nat} {u : List Nat} (h2 : numB u 2 = some x) : stepU (92 :: 120 :: u) = some ([x], 4) := by
  have h : escF 120 = none := by decide
  have h3 : dcB 120 = 2 := by decide
  unfold stepU; simp [h, h3, h2]
theorem stepU_rune {k x : Nat} {u : List Nat} (h : escF k = none) (hk : k ≠ 120) (h2 : numB u (dcB k) = some x) (hr : runeN x = true) : stepU (92 :: k :: u) = some (encN x, 2 + dcB k) := by
  unfold stepU; simp [h, h2, hk, hr]
theorem stepU_no {k x : Nat} {u : List Nat} (h : escF k = none) (hk : k ≠ 120) (h2 : numB u (dcB k) = some x) (hr : runeN x = false) : stepU (92 :: k :: u) = none := by
  unfold stepU; simp [h, h2, hk, hr]
def unF : Nat → List Nat → Option (List Nat)
  | 0, _ => some []
  | f + 1, L => if L = [] then some [] else match stepU L with
    | none => none
    | some (o, n) => (unF f (L.drop n)).map (o ++ ·)
def unL (L : List Nat) : Option (List Nat) := unF L.length L
theorem numB_len {L : List Nat} {k m : Nat} (h : numB L k = some m) : k ≤ L.length ∧ k ≠ 0 := by
  unfold numB at h
  split at h
  · cases h
  · omega
theorem escF_lt {c b : Nat} (h : escF c = some b) : b < 256 := by
  unfold escF at h
  repeat' split at h
  all_goals (cases h)
  all_goals omega
theorem hexG_two {u : List Nat} {x : Nat} (h : numB u 2 = some x) : x < 256 := by
  unfold numB at h
  split at h
  · cases h
  · have := hexG_lt (k := 1) _ 0 x (by omega) h
    have h3 : (16 : Nat) ^ (u.take 2).length ≤ 16 ^ 2 := Nat.pow_le_pow_right (by omega) (by rw [List.length_take]; omega)
    omega
theorem runeN_le {x : Nat} (h : runeN x = true) : x ≤ 1114111 := (of_decide_eq_true h).1
theorem stepU_size {L o : List Nat} {n : Nat} (hb : Byt L) (h : stepU L = some (o, n)) : 1 ≤ n ∧ n ≤ L.length ∧ o.length ≤ 4 * n ∧ Byt o := by
  unfold stepU at h
  cases L with
  | nil => cases h
  | cons c t =>
    simp only at h
    split at h
    · cases h
    · split at h
      · cases h
        exact ⟨by omega, by simp, by simp, Byt.cons (hb c (by simp)) Byt.nil⟩
      · cases t with
        | nil => cases h
        | cons k u =>
          simp only at h
          cases he : escF k with
          | some b =>
            rw [he] at h
            cases h
            exact ⟨by omega, by simp, by simp, Byt.cons (escF_lt he) Byt.nil⟩
          | none =>
            rw [he] at h
            simp only at h
            cases hn : numB u (dcB k) with
            | none => rw [hn] at h; cases h
            | some x =>
              rw [hn] at h
              simp only at h
              have hl := numB_len hn
              split at h
              · rename_i hk
                cases h
                subst hk
                exact ⟨by omega, by simp only [List.length_cons]; omega, by simp; omega, Byt.cons (hexG_two hn) Byt.nil⟩
              · split at h
                · rename_i hr
                  cases h
                  have := encN_len x
                  exact ⟨by omega, by simp only [List.length_cons]; omega, by omega, encN_byt (runeN_le hr)⟩
                · cases h
theorem unF_more (f : Nat) : ∀ (g : Nat) (L : List Nat), Byt L → L.length ≤ f → L.length ≤ g → unF f L = unF g L := by
  induction f with
  | zero =>
    intro g L _ h1 _
    have : L = [] := List.eq_nil_of_length_eq_zero (by omega)
    subst this
    cases g <;> simp [unF]
  | succ f ih =>
    intro g L hb h1 h2
    cases g with
    | zero =>
      have : L = [] := List.eq_nil_of_length_eq_zero (by omega)
      subst this
      simp [unF]
    | succ g =>
      simp only [unF]
      by_cases hL : L = []
      · rw [if_pos hL, if_pos hL]
      · rw [if_neg hL, if_neg hL]
        cases hs : stepU L with
        | none => rfl
        | some p =>
          obtain ⟨o, n⟩ := p
          have := stepU_size hb hs
          simp only
          rw [ih g (L.drop n) (hb.drop n) (by rw [List.length_drop]; omega) (by rw [List.length_drop]; omega)]
theorem unL_nil : unL [] = some [] := rfl
theorem unL_cons {L : List Nat} (hb : Byt L) (h : L ≠ []) : unL L = match stepU L with
    | none => none
    | some (o, n) => (unL (L.drop n)).map (o ++ ·) := by
  unfold unL
  cases hL : L.length with
  | zero => exact absurd (List.eq_nil_of_length_eq_zero hL) h
  | succ m =>
    simp only [unF]
    rw [if_neg h]
    cases hs : stepU L with
    | none => rfl
    | some p =>
      obtain ⟨o, n⟩ := p
      have := stepU_size hb hs
      simp only
      rw [unF_more m (L.drop n).length (L.drop n) (hb.drop n) (by rw [List.length_drop]; omega) (Nat.le_refl _)]
theorem unL_none {L : List Nat} (hb : Byt L) (h : L ≠ []) (hs : stepU L = none) : unL L = none := by rw [unL_cons hb h, hs]
theorem unL_some {L o : List Nat} {n : Nat} (hb : Byt L) (h : L ≠ []) (hs : stepU L = some (o, n)) : unL L = (unL (L.drop n)).map (o ++ ·) := by rw [unL_cons hb h, hs]
theorem unL_byt : ∀ (m : Nat) (L t : List Nat), L.length ≤ m → Byt L → unL L = some t → Byt t ∧ t.length ≤ 4 * L.length := by
  intro m
  induction m with
  | zero =>
    intro L t h _ hu
    have : L = [] := List.eq_nil_of_length_eq_zero (by omega)
    subst this
    cases hu
    exact ⟨Byt.nil, by simp⟩
  | succ m ih =>
    intro L t h hb hu
    by_cases hL : L = []
    · subst hL
      cases hu
      exact ⟨Byt.nil, by simp⟩
    · rw [unL_cons hb hL] at hu
      cases hs : stepU L with
      | none => rw [hs] at hu; cases hu
      | some p =>
        obtain ⟨o, n⟩ := p
        have hz := stepU_size hb hs
        rw [hs] at hu
        simp only at hu
        cases hr : unL (L.drop n) with
        | none => rw [hr] at hu; cases hu
        | some r =>
          rw [hr] at hu
          cases hu
          have h2 := ih (L.drop n) r (by rw [List.length_drop]; omega) (hb.drop n) hr
          rw [List.length_drop] at h2
          exact ⟨hz.2.2.2.app h2.1, by rw [List.length_append]; omega⟩
/-- What Unquote answers. -/
def unqL (L : List Nat) : Option (List Nat) :=
  if L.length < 2 ∨ L.getD 0 0 ≠ L.getD (L.length - 1) 0 then none
  else if L.getD 0 0 = 96 then (if 96 ∈ (L.take (L.length - 1)).drop 1 then none else some ((L.take (L.length - 1)).drop 1))
  else if L.getD 0 0 = 34 then unL ((L.take (L.length - 1)).drop 1) else none
/-- A text, or the error of what is none. -/
def UnOut (w : World) (o : Option (List Nat)) (e : Ending) (w' : World) : Prop :=
  ∃ s, e = .returned (.tuple #[.string s, .int .i64 (if o.isSome then 0 else 40)]) ∧ bl s = o.getD [] ∧ Below w.heap.size w w'
end Go.Proofs.Ytbhhakobkpdadaa
