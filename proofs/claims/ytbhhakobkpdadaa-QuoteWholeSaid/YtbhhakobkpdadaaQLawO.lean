/- The mathematics of the laws: clean text; texts of whole runes. -/
import Derived.Test.YtbhhakobkpdadaaQLawN
namespace Go.Proofs.Ytbhhakobkpdadaa
open Go.RowKit Go.Shelf

theorem parts_enc {v : Nat} (h : runeN v = true) (rest : List Nat) : parts (encN v ++ rest) = (encN v, v) :: parts rest := by
  have hd := dec_enc h rest
  have hne : encN v ++ rest ≠ [] := by
    intro e
    exact encN_ne v (List.append_eq_nil_iff.1 e).1
  rw [parts_cons hne, hd]
  simp
theorem parts_encs : ∀ vs : List Nat, (∀ v ∈ vs, runeN v = true) → parts (vs.flatMap encN) = vs.map fun v => (encN v, v) := by
  intro vs
  induction vs with
  | nil => intro _; rfl
  | cons v t ih =>
    intro h
    rw [List.flatMap_cons, parts_enc (h v (by simp)), ih (fun x hx => h x (by simp [hx]))]
    rfl
/-- A rune that may stand in a line. -/
def OkV (v : Nat) : Prop := runeN v = true ∧ 32 ≤ v ∧ v ≠ 127
theorem ascii_enc {l : List Nat} (h : ∀ v ∈ l, v < 128) : l.flatMap encN = l := by
  induction l with
  | nil => rfl
  | cons v t ih =>
    rw [List.flatMap_cons, ih (fun x hx => h x (by simp [hx])), encN, if_pos (h v (by simp))]
    rfl
theorem okV_ascii {v : Nat} (h1 : 32 ≤ v) (h2 : v < 127) : OkV v := ⟨decide_eq_true (by omega), h1, by omega⟩
theorem hx_ok {d : Nat} (h : d < 16) : 32 ≤ hx d ∧ hx d < 127 := by unfold hx; split <;> omega
theorem piece_clean {x : List Nat × Nat} (h : Good x) : ∃ ws : List Nat, (∀ v ∈ ws, OkV v) ∧ qB x = ws.flatMap encN := by
  have asc : ∀ l : List Nat, (∀ v ∈ l, 32 ≤ v ∧ v < 127) → ∃ ws : List Nat, (∀ v ∈ ws, OkV v) ∧ l = ws.flatMap encN := fun l hl =>
    ⟨l, fun v hv => okV_ascii (hl v hv).1 (hl v hv).2, (ascii_enc (fun v hv => by have := (hl v hv).2; omega)).symm⟩
  have hlow : x.2 < 128 → x.1 = [x.2] := fun hx => by
    rcases h with ⟨_, h⟩ | ⟨h, _⟩ | ⟨h, _⟩
    · exact h
    · omega
    · omega
  unfold qB
  by_cases q1 : x.2 = 34 ∨ x.2 = 92
  · rw [if_pos q1, hlow (by omega)]
    exact asc _ (fun v hv => by simp at hv; omega)
  · rw [if_neg q1]
    by_cases q2 : x.2 = 10
    · rw [if_pos q2]; exact asc _ (fun v hv => by simp at hv; omega)
    · rw [if_neg q2]
      by_cases q3 : x.2 = 13
      · rw [if_pos q3]; exact asc _ (fun v hv => by simp at hv; omega)
      · rw [if_neg q3]
        by_cases q4 : x.2 = 9
        · rw [if_pos q4]; exact asc _ (fun v hv => by simp at hv; omega)
        · rw [if_neg q4]
          by_cases q5 : x.2 < 32 ∨ x.2 = 127 ∨ (x.2 = 65533 ∧ x.1.length = 1)
          · rw [if_pos q5]
            have hb0 : x.1.getD 0 0 < 256 := by
              have h4 := good_le4 h
              rw [List.getD_eq_getElem?_getD, List.getElem?_eq_getElem (by omega)]
              exact good_byt h _ (List.getElem_mem _)
            have e1 := hx_ok (show x.1.getD 0 0 / 16 < 16 by omega)
            have e2 := hx_ok (show x.1.getD 0 0 % 16 < 16 by omega)
            refine asc _ (fun v hv => ?_)
            simp only [List.mem_cons, List.not_mem_nil, or_false] at hv
            rcases hv with rfl | rfl | rfl | rfl
            · omega
            · omega
            · exact e1
            · exact e2
          · rw [if_neg q5]
            rcases h with ⟨h1, h2⟩ | ⟨h1, h2, h3⟩ | ⟨h1, b', h2, h3, h4⟩
            · rw [h2]; exact asc _ (fun v hv => by simp at hv; omega)
            · exact ⟨[x.2], fun v hv => by simp at hv; subst hv; exact ⟨h2, by omega, by omega⟩, by rw [h3]; simp⟩
            · exfalso
              exact q5 (Or.inr (Or.inr ⟨h1, by rw [h2]; rfl⟩))
theorem flat_clean : ∀ l : List (List Nat × Nat), (∀ x ∈ l, Good x) → ∃ ws : List Nat, (∀ v ∈ ws, OkV v) ∧ qFlat l = ws.flatMap encN := by
  intro l
  induction l with
  | nil => intro _; exact ⟨[], by simp, rfl⟩
  | cons x t ih =>
    intro h
    obtain ⟨w1, h1, e1⟩ := piece_clean (h x (by simp))
    obtain ⟨w2, h2, e2⟩ := ih (fun y hy => h y (by simp [hy]))
    refine ⟨w1 ++ w2, fun v hv => ?_, ?_⟩
    · rcases List.mem_append.1 hv with h3 | h3
      · exact h1 v h3
      · exact h2 v h3
    · show qB x ++ qFlat t = _
      rw [e1, e2, List.flatMap_append]
theorem quote_clean {L : List Nat} (hb : Byt L) : ∀ x ∈ parts (quoteL L), 32 ≤ x.2 ∧ x.2 ≠ 127 ∧ ¬ (x.2 = 65533 ∧ x.1.length = 1) := by
  obtain ⟨ws, h1, h2⟩ := flat_clean (parts L) (parts_good _ L (Nat.le_refl _) hb)
  have e : quoteL L = ((34 :: ws) ++ [34]).flatMap encN := by
    rw [quoteL, h2, List.flatMap_append, List.flatMap_cons]
    rfl
  have hok : ∀ v ∈ (34 :: ws) ++ [34], OkV v := by
    intro v hv
    simp only [List.mem_append, List.mem_cons, List.not_mem_nil, or_false] at hv
    rcases hv with (rfl | h) | rfl
    · exact okV_ascii (by omega) (by omega)
    · exact h1 v h
    · exact okV_ascii (by omega) (by omega)
  rw [e, parts_encs _ (fun v hv => (hok v hv).1)]
  intro x hx
  obtain ⟨v, hv, rfl⟩ := List.mem_map.1 hx
  refine ⟨(hok v hv).2.1, (hok v hv).2.2, fun ⟨e1, e2⟩ => ?_⟩
  simp only at e1 e2
  rw [e1] at e2
  exact absurd e2 (by decide)
theorem unq_back {L : List Nat} : (unqL (96 :: (L ++ [96])) = some L) ↔ 96 ∉ L := by
  rw [unq_wrap, if_pos rfl]
  by_cases h : 96 ∈ L
  · rw [if_pos h]; simp [h]
  · rw [if_neg h]; simp [h]
end Go.Proofs.Ytbhhakobkpdadaa
