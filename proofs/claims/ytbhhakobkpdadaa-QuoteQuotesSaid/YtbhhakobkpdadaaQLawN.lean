/- The mathematics of the laws: Unquote of what was put in quotes, of two, of one without its end. -/
import Derived.Test.YtbhhakobkpdadaaQLawM
namespace Go.Proofs.Ytbhhakobkpdadaa
open Go.RowKit Go.Shelf

theorem good_le4 {x : List Nat × Nat} (h : Good x) : 1 ≤ x.1.length ∧ x.1.length ≤ 4 := by
  rcases h with ⟨_, h⟩ | ⟨_, _, h⟩ | ⟨_, b, h, _⟩
  · rw [h]; simp
  · rw [h]; exact encN_len _
  · rw [h]; simp
theorem qB_ge {x : List Nat × Nat} (h : Good x) : x.1.length ≤ (qB x).length ∧ (qB x).length ≤ 4 * x.1.length := by
  have h4 := good_le4 h
  have h1 : x.2 < 128 → x.1.length = 1 := fun hx => by
    rcases h with ⟨_, h⟩ | ⟨h, _⟩ | ⟨h, _⟩
    · rw [h]; rfl
    · omega
    · omega
  unfold qB
  by_cases q1 : x.2 = 34 ∨ x.2 = 92
  · rw [if_pos q1]; have := h1 (by omega); simp; omega
  · rw [if_neg q1]
    by_cases q2 : x.2 = 10
    · rw [if_pos q2]; have := h1 (by omega); simp; omega
    · rw [if_neg q2]
      by_cases q3 : x.2 = 13
      · rw [if_pos q3]; have := h1 (by omega); simp; omega
      · rw [if_neg q3]
        by_cases q4 : x.2 = 9
        · rw [if_pos q4]; have := h1 (by omega); simp; omega
        · rw [if_neg q4]
          by_cases q5 : x.2 < 32 ∨ x.2 = 127 ∨ (x.2 = 65533 ∧ x.1.length = 1)
          · rw [if_pos q5]
            have : x.1.length = 1 := by
              rcases q5 with q | q | q
              · exact h1 (by omega)
              · exact h1 (by omega)
              · exact q.2
            simp; omega
          · rw [if_neg q5]; omega
theorem flat_ge : ∀ (l : List (List Nat × Nat)), (∀ x ∈ l, Good x) → (l.flatMap Prod.fst).length ≤ (qFlat l).length ∧ (qFlat l).length ≤ 4 * (l.flatMap Prod.fst).length := by
  intro l
  induction l with
  | nil => intro _; simp [qFlat]
  | cons x t ih =>
    intro h
    have h1 := qB_ge (h x (by simp))
    have h2 := ih (fun y hy => h y (by simp [hy]))
    simp only [qFlat, List.flatMap_cons, List.length_append] at h2 ⊢
    omega
theorem quote_len {L : List Nat} (hb : Byt L) : L.length + 2 ≤ (quoteL L).length ∧ (quoteL L).length ≤ 4 * L.length + 2 := by
  have h := flat_ge (parts L) (parts_good _ L (Nat.le_refl _) hb)
  rw [parts_bytes _ L (Nat.le_refl _)] at h
  simp only [quoteL, List.length_cons, List.length_append, List.length_nil]
  omega
theorem quoteL_byt {L : List Nat} (hb : Byt L) : Byt (quoteL L) :=
  Byt.cons (by omega) ((qFlat_byt (fun x hx => good_byt (parts_good _ L (Nat.le_refl _) hb x hx))).app (Byt.cons (by omega) Byt.nil))
theorem wrap_getD (a z : Nat) (M : List Nat) : (a :: (M ++ [z])).length = M.length + 2 ∧ (a :: (M ++ [z])).getD 0 0 = a ∧ (a :: (M ++ [z])).getD ((a :: (M ++ [z])).length - 1) 0 = z ∧ ((a :: (M ++ [z])).take ((a :: (M ++ [z])).length - 1)).drop 1 = M := by
  refine ⟨by simp, rfl, ?_, ?_⟩
  · simp [List.getD_eq_getElem?_getD]
  · simp
theorem unq_wrap (q : Nat) (I : List Nat) : unqL (q :: (I ++ [q])) = if q = 96 then (if 96 ∈ I then none else some I) else if q = 34 then unL I else none := by
  obtain ⟨h1, h2, h3, h4⟩ := wrap_getD q q I
  unfold unqL
  rw [h2, h3, h4, h1, if_neg (by omega)]
theorem unq_apart {a z : Nat} (M : List Nat) (h : a ≠ z) : unqL (a :: (M ++ [z])) = none := by
  obtain ⟨h1, h2, h3, _⟩ := wrap_getD a z M
  unfold unqL
  rw [h2, h3, if_pos (Or.inr h)]
theorem unq_short {L : List Nat} (h : L.length < 2) : unqL L = none := by unfold unqL; rw [if_pos (Or.inl h)]
theorem unq_quote {L : List Nat} (hb : Byt L) : unqL (quoteL L) = some L := by
  rw [quoteL, unq_wrap, if_neg (by omega), if_pos rfl]
  have := unL_flat (parts L) [] (parts_good _ L (Nat.le_refl _) hb) Byt.nil
  rw [List.append_nil] at this
  rw [this, unL_nil, parts_bytes _ L (Nat.le_refl _)]
  simp
theorem unL_bad34 {rest : List Nat} (h : Byt rest) : unL (34 :: rest) = none := unL_none (Byt.cons (by omega) h) (by simp) (stepU_bad (Or.inl rfl))
theorem two_quotes {L M : List Nat} (hL : Byt L) (hM : Byt M) : unqL (quoteL L ++ quoteL M) = none := by
  have hg := parts_good _ L (Nat.le_refl _) hL
  have e : quoteL L ++ quoteL M = 34 :: ((qFlat (parts L) ++ (34 :: 34 :: qFlat (parts M))) ++ [34]) := by simp [quoteL]
  have hb : Byt (34 :: qFlat (parts M)) := Byt.cons (by omega) (qFlat_byt (fun x hx => good_byt (parts_good _ M (Nat.le_refl _) hM x hx)))
  rw [e, unq_wrap, if_neg (by omega), if_pos rfl, unL_flat _ _ hg (Byt.cons (by omega) hb), unL_bad34 hb]
  rfl
theorem hx_ne {d : Nat} (h : d < 16) : hx d ≠ 34 := by unfold hx; split <;> omega
/-- A piece begins with no quote; it ends with one only if it is a quote's. -/
theorem qB_ends {x : List Nat × Nat} (h : Good x) : ∃ a M, qB x = a :: M ∧ a ≠ 34 ∧ ∀ N z, qB x = N ++ [z] → z = 34 → qB x = [92, 34] := by
  have hlast : ∀ (l : List Nat), l ≠ [34] → (∀ b ∈ l, b ≠ 34) → ∀ N z, l = N ++ [z] → z = 34 → l = [92, 34] := fun l _ hb N z e hz => by
    exfalso
    exact hb z (by rw [e]; simp) hz
  have hlow : x.2 < 128 → x.1 = [x.2] := fun hx => by
    rcases h with ⟨_, h⟩ | ⟨h, _⟩ | ⟨h, _⟩
    · exact h
    · omega
    · omega
  unfold qB
  by_cases q1 : x.2 = 34 ∨ x.2 = 92
  · rw [if_pos q1, hlow (by omega)]
    refine ⟨92, _, rfl, by omega, fun N z e hz => ?_⟩
    rcases q1 with q | q
    · rw [q]
    · rw [q] at e
      exfalso
      have := congrArg (fun l => l.getLast?) e
      simp at this
      omega
  · rw [if_neg q1]
    by_cases q2 : x.2 = 10
    · rw [if_pos q2]; exact ⟨_, _, rfl, by omega, hlast _ (by simp) (by simp)⟩
    · rw [if_neg q2]
      by_cases q3 : x.2 = 13
      · rw [if_pos q3]; exact ⟨_, _, rfl, by omega, hlast _ (by simp) (by simp)⟩
      · rw [if_neg q3]
        by_cases q4 : x.2 = 9
        · rw [if_pos q4]; exact ⟨_, _, rfl, by omega, hlast _ (by simp) (by simp)⟩
        · rw [if_neg q4]
          by_cases q5 : x.2 < 32 ∨ x.2 = 127 ∨ (x.2 = 65533 ∧ x.1.length = 1)
          · rw [if_pos q5]
            have hb0 : x.1.getD 0 0 < 256 := by
              have h4 := good_le4 h
              rw [List.getD_eq_getElem?_getD, List.getElem?_eq_getElem (by omega)]
              exact good_byt h _ (List.getElem_mem _)
            refine ⟨_, _, rfl, by omega, hlast _ (by simp) (fun b hb => ?_)⟩
            have e1 := hx_ne (show x.1.getD 0 0 / 16 < 16 by omega)
            have e2 := hx_ne (show x.1.getD 0 0 % 16 < 16 by omega)
            simp only [List.mem_cons, List.not_mem_nil, or_false] at hb
            rcases hb with rfl | rfl | rfl | rfl
            · omega
            · omega
            · exact e1
            · exact e2
          · rw [if_neg q5]
            have hall : ∀ b ∈ x.1, b ≠ 34 := fun b hb => by
              rcases h with ⟨h1, h2⟩ | ⟨h1, h2, h3⟩ | ⟨h1, b', h2, h3, h4⟩
              · rw [h2] at hb; simp at hb; omega
              · rw [h3] at hb
                have := encN_high h1 b hb
                omega
              · rw [h2] at hb; simp at hb; omega
            cases hx : x.1 with
            | nil => have := good_le4 h; rw [hx] at this; simp at this
            | cons a M =>
              rw [hx] at hall
              exact ⟨a, M, rfl, hall a (by simp), hlast _ (fun e => hall 34 (by rw [e]; simp) rfl) hall⟩
theorem cut_end {L : List Nat} (hL : Byt L) : unqL (34 :: qFlat (parts L)) = none := by
  have hg := parts_good _ L (Nat.le_refl _) hL
  rcases List.eq_nil_or_concat (parts L) with h | ⟨l, x, h⟩
  · rw [h]; exact unq_short (by simp [qFlat])
  · have h' : parts L = l ++ [x] := by rw [h, List.concat_eq_append]
    rw [h'] at hg ⊢
    have hgx := hg x (by simp)
    have hgl : ∀ y ∈ l, Good y := fun y hy => hg y (by simp [hy])
    rw [qFlat_snoc]
    obtain ⟨a, M, e, _, hend⟩ := qB_ends hgx
    rcases List.eq_nil_or_concat (qB x) with h2 | ⟨N, z, h2⟩
    · rw [e] at h2; cases h2
    · rw [List.concat_eq_append] at h2
      by_cases hz : z = 34
      · rw [hend N z h2 hz]
        rw [show 34 :: (qFlat l ++ [92, 34]) = 34 :: ((qFlat l ++ [92]) ++ [34]) by simp, unq_wrap, if_neg (by omega), if_pos rfl, unL_flat _ _ hgl (Byt.cons (by omega) Byt.nil)]
        rw [unL_none (Byt.cons (by omega) Byt.nil) (by simp) stepU_end]
        rfl
      · rw [h2, ← List.append_assoc]
        exact unq_apart _ (fun e => hz e.symm)
theorem cut_start {L : List Nat} (hL : Byt L) : unqL (qFlat (parts L) ++ [34]) = none := by
  have hg := parts_good _ L (Nat.le_refl _) hL
  cases hp : parts L with
  | nil => exact unq_short (by simp [qFlat])
  | cons x t =>
    rw [hp] at hg
    obtain ⟨a, M, e, ha, _⟩ := qB_ends (hg x (by simp))
    show unqL ((qB x ++ qFlat t) ++ [34]) = none
    rw [e, List.cons_append, List.cons_append]
    exact unq_apart _ ha
end Go.Proofs.Ytbhhakobkpdadaa
