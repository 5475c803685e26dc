/- The mathematics of the laws: a rune's bytes are told again; what was put in quotes is read as it was. -/
import Derived.Test.YtbhhakobkpdadaaQWorks
namespace Go.Proofs.Ytbhhakobkpdadaa
open Go.RowKit Go.Shelf

theorem enc_rune {v : Nat} (h : runeN v = true) : enc (v : Nat) = encN v := by
  rw [enc, runeOf, isR_nat, h, if_pos rfl, Int.toNat_natCast]
theorem dec_enc {v : Nat} (h : runeN v = true) (rest : List Nat) : dec (encN v ++ rest) = (v, (encN v).length) := by
  have hv := of_decide_eq_true h
  have hE := enc_rune h
  by_cases h1 : v < 128
  · have e : encN v = [v] := by rw [encN, if_pos h1]
    rw [e]
    exact dec_one h1
  · by_cases h2 : v < 2048
    · have e : encN v = [192 + v / 64, 128 + v % 64] := by rw [encN, if_neg h1, if_pos h2]
      have hs : szB (192 + v / 64) = 2 := by rcases sz_cases (192 + v / 64) with h | h | h | h | h | h <;> omega
      have hc : candB ((192 + v / 64) :: (128 + v % 64) :: rest) = v := by
        rw [candB_long (by omega), hs]
        simp [foldB, headB]
        omega
      rw [e] at hE ⊢
      have := dec_yes (c := 192 + v / 64) (t := (128 + v % 64) :: rest) (by omega) (by simp [hs]) (by rw [hc, hs, hE]; rfl)
      rw [hc, hs] at this
      exact this
    · by_cases h3 : v < 65536
      · have e : encN v = [224 + v / 4096, 128 + v / 64 % 64, 128 + v % 64] := by rw [encN, if_neg h1, if_neg h2, if_pos h3]
        have hs : szB (224 + v / 4096) = 3 := by rcases sz_cases (224 + v / 4096) with h | h | h | h | h | h <;> omega
        have hc : candB ((224 + v / 4096) :: (128 + v / 64 % 64) :: (128 + v % 64) :: rest) = v := by
          rw [candB_long (by omega), hs]
          simp [foldB, headB]
          omega
        rw [e] at hE ⊢
        have := dec_yes (c := 224 + v / 4096) (t := (128 + v / 64 % 64) :: (128 + v % 64) :: rest) (by omega) (by simp [hs]) (by rw [hc, hs, hE]; rfl)
        rw [hc, hs] at this
        exact this
      · have e : encN v = [240 + v / 262144, 128 + v / 4096 % 64, 128 + v / 64 % 64, 128 + v % 64] := by rw [encN, if_neg h1, if_neg h2, if_neg h3]
        have hs : szB (240 + v / 262144) = 4 := by rcases sz_cases (240 + v / 262144) with h | h | h | h | h | h <;> omega
        have hc : candB ((240 + v / 262144) :: (128 + v / 4096 % 64) :: (128 + v / 64 % 64) :: (128 + v % 64) :: rest) = v := by
          rw [candB_long (by omega), hs]
          simp [foldB, headB]
          omega
        rw [e] at hE ⊢
        have := dec_yes (c := 240 + v / 262144) (t := (128 + v / 4096 % 64) :: (128 + v / 64 % 64) :: (128 + v % 64) :: rest) (by omega) (by simp [hs]) (by rw [hc, hs, hE]; rfl)
        rw [hc, hs] at this
        exact this
theorem encN_ne (v : Nat) : encN v ≠ [] := by have := encN_len v; intro e; rw [e] at this; simp at this
/-- The first rune of bytes: one that is told by its bytes, or a byte that is none's. -/
theorem dec_cases {c : Nat} {t : List Nat} : (∃ v, runeN v = true ∧ (c :: t).take (encN v).length = encN v ∧ dec (c :: t) = (v, (encN v).length)) ∨ (dec (c :: t) = (65533, 1) ∧ 128 ≤ c) := by
  by_cases hb : szB c = 0 ∨ t.length + 1 < szB c
  · refine .inr ⟨dec_bad hb, ?_⟩
    rcases sz_cases c with h | h | h | h | h | h <;> omega
  · by_cases hE : enc (candB (c :: t) : Nat) = (c :: t).take (szB c)
    · have hd := dec_yes (c := c) (t := t) (by omega) (by omega) hE
      have hlen : (enc (candB (c :: t) : Nat)).length = szB c := by
        rw [hE, List.length_take, List.length_cons]; omega
      obtain ⟨v, hv⟩ : ∃ v, runeOf (candB (c :: t) : Nat) = v := ⟨_, rfl⟩
      have hvr : runeN v = true := by rw [← hv]; exact (runeOf_le _).2
      have hEv : enc (candB (c :: t) : Nat) = encN v := by rw [enc, hv]
      rw [hEv] at hE hlen
      have hsplit : c :: t = encN v ++ (c :: t).drop (szB c) := by rw [hE, List.take_append_drop]
      have hd2 := dec_enc hvr ((c :: t).drop (szB c))
      rw [← hsplit] at hd2
      exact .inl ⟨v, hvr, by rw [hlen, ← hE], hd2⟩
    · refine .inr ⟨dec_no hE, ?_⟩
      rcases Nat.lt_or_ge c 128 with hc | hc
      · exfalso
        have hs : szB c = 1 := by rw [szB, if_pos hc]
        have hcand : candB (c :: t) = c := by simp only [candB, hs, if_pos]
        rw [hcand, hs, enc_one hc] at hE
        exact hE rfl
      · exact hc
theorem encN_high {v : Nat} (h : 128 ≤ v) : ∀ b ∈ encN v, 128 ≤ b := by
  intro b hb
  unfold encN at hb
  rw [if_neg (by omega)] at hb
  split at hb
  · simp at hb; omega
  · split at hb <;> (simp at hb; omega)
/-- A part of a text: a byte below 128, a rune's bytes, or a byte that is none's. -/
def Good (x : List Nat × Nat) : Prop := (x.2 < 128 ∧ x.1 = [x.2]) ∨ (128 ≤ x.2 ∧ runeN x.2 = true ∧ x.1 = encN x.2) ∨ (x.2 = 65533 ∧ ∃ b, x.1 = [b] ∧ 128 ≤ b ∧ b < 256)
theorem good_first {c : Nat} {t : List Nat} (hc : c < 256) : Good ((c :: t).take (dec (c :: t)).2, (dec (c :: t)).1) := by
  rcases dec_cases (c := c) (t := t) with ⟨v, hv, ht, hd⟩ | ⟨hd, hc2⟩
  · rw [hd]
    simp only
    rw [ht]
    by_cases h1 : v < 128
    · exact .inl ⟨h1, by rw [encN, if_pos h1]⟩
    · exact .inr (.inl ⟨by simp; omega, hv, rfl⟩)
  · rw [hd]
    exact .inr (.inr ⟨rfl, c, rfl, hc2, hc⟩)
theorem parts_good : ∀ (n : Nat) (L : List Nat), L.length ≤ n → Byt L → ∀ x ∈ parts L, Good x := by
  intro n
  induction n with
  | zero =>
    intro L h _ x hx
    have : L = [] := List.eq_nil_of_length_eq_zero (by omega)
    subst this
    cases hx
  | succ n ih =>
    intro L h hb x hx
    cases L with
    | nil => cases hx
    | cons c t =>
      have hd := dec_size (L := c :: t) (by simp)
      rw [parts_cons (by simp)] at hx
      rcases List.mem_cons.1 hx with rfl | h2
      · exact good_first (hb c (by simp))
      · exact ih _ (by rw [List.length_drop]; omega) (hb.drop _) x h2
theorem parts_bytes : ∀ (n : Nat) (L : List Nat), L.length ≤ n → (parts L).flatMap Prod.fst = L := by
  intro n
  induction n with
  | zero =>
    intro L h
    have : L = [] := List.eq_nil_of_length_eq_zero (by omega)
    subst this
    rfl
  | succ n ih =>
    intro L h
    by_cases hL : L = []
    · subst hL; rfl
    · have hd := dec_size hL
      rw [parts_cons hL, List.flatMap_cons, ih _ (by rw [List.length_drop]; omega), List.take_append_drop]
theorem digV_hx {d : Nat} (h : d < 16) : digV (hx d) = some d := by
  have : ∀ d : Fin 16, digV (hx d.val) = some d.val := by decide
  exact this ⟨d, h⟩
theorem hex_num {b : Nat} (h : b < 256) (rest : List Nat) : numB (hx (b / 16) :: hx (b % 16) :: rest) 2 = some b := by
  rw [numB, if_neg (by simp)]
  simp only [List.take_succ_cons, List.take_zero, hexG, digV_hx (show b / 16 < 16 by omega), digV_hx (show b % 16 < 16 by omega)]
  congr 1
  omega
/-- Bytes that stand for themselves. -/
theorem unL_plain : ∀ (l rest : List Nat), Byt l → Byt rest → (∀ b ∈ l, b ≠ 34 ∧ b ≠ 10 ∧ b ≠ 92) → unL (l ++ rest) = (unL rest).map (l ++ ·) := by
  intro l
  induction l with
  | nil => intro rest _ _ _; simp
  | cons c t ih =>
    intro rest h1 h2 h3
    have hc := h3 c (by simp)
    have hs : stepU (c :: (t ++ rest)) = some ([c], 1) := stepU_one (by omega) hc.2.2
    rw [List.cons_append, unL_some (Byt.cons (h1 c (by simp)) (Byt.app (fun x hx => h1 x (by simp [hx])) h2)) (by simp) hs]
    simp only [List.drop_succ_cons, List.drop_zero]
    rw [ih rest (fun x hx => h1 x (by simp [hx])) h2 (fun b hb => h3 b (by simp [hb])), Option.map_map]
    rfl
theorem unL_two {k b : Nat} {rest : List Nat} (hk : k < 256) (hr : Byt rest) (h : escF k = some b) : unL (92 :: k :: rest) = (unL rest).map ([b] ++ ·) := by
  rw [unL_some (Byt.cons (by omega) (Byt.cons hk hr)) (by simp) (stepU_esc h)]
  rfl
theorem unL_hex {b : Nat} {rest : List Nat} (hb : b < 256) (hr : Byt rest) : unL (92 :: 120 :: hx (b / 16) :: hx (b % 16) :: rest) = (unL rest).map ([b] ++ ·) := by
  rw [unL_some (Byt.cons (by omega) (Byt.cons (by omega) (Byt.cons (hx_lt (by omega)) (Byt.cons (hx_lt (by omega)) hr)))) (by simp) (stepU_x (hex_num hb rest))]
  rfl
theorem good_byt {x : List Nat × Nat} (h : Good x) : Byt x.1 := by
  rcases h with ⟨h1, h2⟩ | ⟨_, h2, h3⟩ | ⟨_, b, h2, _, h4⟩
  · rw [h2]; exact Byt.cons (by omega) Byt.nil
  · rw [h3]; exact encN_byt (runeN_le h2)
  · rw [h2]; exact Byt.cons h4 Byt.nil
theorem unL_piece {x : List Nat × Nat} (h : Good x) {rest : List Nat} (hr : Byt rest) : unL (qB x ++ rest) = (unL rest).map (x.1 ++ ·) := by
  unfold qB
  by_cases q1 : x.2 = 34 ∨ x.2 = 92
  · rw [if_pos q1]
    rcases h with ⟨h1, h2⟩ | ⟨h1, _⟩ | ⟨h1, _⟩
    · rw [h2]
      rcases q1 with q | q <;> rw [q]
      · exact unL_two (by omega) hr (by decide)
      · exact unL_two (by omega) hr (by decide)
    · omega
    · omega
  · rw [if_neg q1]
    by_cases q2 : x.2 = 10
    · rw [if_pos q2]
      rcases h with ⟨h1, h2⟩ | ⟨h1, _⟩ | ⟨h1, _⟩
      · rw [h2, q2]; exact unL_two (by omega) hr (by decide)
      · omega
      · omega
    · rw [if_neg q2]
      by_cases q3 : x.2 = 13
      · rw [if_pos q3]
        rcases h with ⟨h1, h2⟩ | ⟨h1, _⟩ | ⟨h1, _⟩
        · rw [h2, q3]; exact unL_two (by omega) hr (by decide)
        · omega
        · omega
      · rw [if_neg q3]
        by_cases q4 : x.2 = 9
        · rw [if_pos q4]
          rcases h with ⟨h1, h2⟩ | ⟨h1, _⟩ | ⟨h1, _⟩
          · rw [h2, q4]; exact unL_two (by omega) hr (by decide)
          · omega
          · omega
        · rw [if_neg q4]
          by_cases q5 : x.2 < 32 ∨ x.2 = 127 ∨ (x.2 = 65533 ∧ x.1.length = 1)
          · rw [if_pos q5]
            have h1 : ∃ b, x.1 = [b] ∧ b < 256 := by
              rcases h with ⟨h1, h2⟩ | ⟨h1, h2, h3⟩ | ⟨h1, b, h2, _, h4⟩
              · exact ⟨_, h2, by omega⟩
              · exfalso
                rcases q5 with q | q | ⟨q, ql⟩
                · omega
                · omega
                · rw [h3, q] at ql
                  exact absurd ql (by decide)
              · exact ⟨b, h2, h4⟩
            obtain ⟨b, h2, h3⟩ := h1
            rw [h2]
            exact unL_hex h3 hr
          · rw [if_neg q5]
            refine unL_plain _ _ (good_byt h) hr (fun b hb => ?_)
            rcases h with ⟨h1, h2⟩ | ⟨h1, h2, h3⟩ | ⟨h1, b', h2, h3, h4⟩
            · rw [h2] at hb; simp at hb; omega
            · rw [h3] at hb
              have := encN_high h1 b hb
              omega
            · rw [h2] at hb; simp at hb; omega
theorem unL_flat : ∀ (l : List (List Nat × Nat)) (rest : List Nat), (∀ x ∈ l, Good x) → Byt rest → unL (qFlat l ++ rest) = (unL rest).map (l.flatMap Prod.fst ++ ·) := by
  intro l
  induction l with
  | nil => intro rest _ _; simp [qFlat]
  | cons x t ih =>
    intro rest hg hr
    have hb : Byt (qFlat t ++ rest) := (qFlat_byt (fun y hy => good_byt (hg y (by simp [hy])))).app hr
    show unL ((qB x ++ qFlat t) ++ rest) = _
    rw [List.append_assoc, unL_piece (hg x (by simp)) hb, ih rest (fun y hy => hg y (by simp [hy])) hr, Option.map_map]
    congr 1
    funext z
    simp
end Go.Proofs.Ytbhhakobkpdadaa
