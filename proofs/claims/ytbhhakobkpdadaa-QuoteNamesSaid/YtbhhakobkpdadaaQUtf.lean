/- The language's own runes are those of the chapter. -/
import Derived.Test.YtbhhakobkpdadaaQLawO
import Derived.Laws.RangeString
import Derived.Laws.Runes
import Derived.Laws.RangeAny
namespace Go.Proofs.Ytbhhakobkpdadaa
open Go.RowKit Go.Shelf

theorem utf_valid (c : Nat) : Utf8.valid (c : Int) = runeN c := by
  unfold Utf8.valid runeN
  rw [Bool.eq_iff_iff]
  simp
  omega
theorem get_bang (s : ByteArray) (i : Nat) : (s.get! i).toNat = (bl s).getD i 0 := by
  by_cases h : i < s.size
  · have e : s.get! i = s[i]'h := by
      simp [ByteArray.get!, getElem!_pos, h]
      rfl
    rw [e, bl_get]
  · have h2 : (bl s).getD i 0 = 0 := by
      rw [List.getD_eq_getElem?_getD, List.getElem?_eq_none (by rw [bl_len]; omega)]
      rfl
    have h3 : ¬ i < s.data.size := h
    rw [h2]
    show (s.data[i]!).toNat = 0
    rw [getElem!_neg s.data i h3]
    rfl
theorem drop_getD (l : List Nat) (a k : Nat) : (l.drop a).getD k 0 = l.getD (a + k) 0 := by
  simp [List.getD_eq_getElem?_getD]
theorem split2 {L : List Nat} (h : 1 < L.length) : L = [L.getD 0 0, L.getD 1 0] ++ L.drop 2 := by
  match L, h with
  | a :: b :: t, _ => rfl
theorem split3 {L : List Nat} (h : 2 < L.length) : L = [L.getD 0 0, L.getD 1 0, L.getD 2 0] ++ L.drop 3 := by
  match L, h with
  | a :: b :: c :: t, _ => rfl
theorem split4 {L : List Nat} (h : 3 < L.length) : L = [L.getD 0 0, L.getD 1 0, L.getD 2 0, L.getD 3 0] ++ L.drop 4 := by
  match L, h with
  | a :: b :: c :: d :: t, _ => rfl
/-- Decoding, told by the bytes that are left. -/
theorem utf_told (s : ByteArray) (pos : Nat) (L : List Nat) (hL : (bl s).drop pos = L) (hp : pos < s.size) (a b c d : Nat) (ha : L.getD 0 0 = a) (hb : L.getD 1 0 = b) (hc : L.getD 2 0 = c) (hd : L.getD 3 0 = d) (r : Nat × Nat)
    (h1 : a < 128 → r = (a, 1))
    (h2 : 128 ≤ a → a / 32 = 6 → 1 < L.length → b / 64 = 2 → 128 ≤ a % 32 * 64 + b % 64 → r = (a % 32 * 64 + b % 64, 2))
    (h3 : 128 ≤ a → a / 16 = 14 → 1 < L.length → b / 64 = 2 → 2 < L.length → c / 64 = 2 → 2048 ≤ a % 16 * 4096 + b % 64 * 64 + c % 64 → runeN (a % 16 * 4096 + b % 64 * 64 + c % 64) = true → r = (a % 16 * 4096 + b % 64 * 64 + c % 64, 3))
    (h4 : 128 ≤ a → a / 8 = 30 → 1 < L.length → b / 64 = 2 → 2 < L.length → c / 64 = 2 → 3 < L.length → d / 64 = 2 → 65536 ≤ a % 8 * 262144 + b % 64 * 4096 + c % 64 * 64 + d % 64 → runeN (a % 8 * 262144 + b % 64 * 4096 + c % 64 * 64 + d % 64) = true → r = (a % 8 * 262144 + b % 64 * 4096 + c % 64 * 64 + d % 64, 4))
    (h5 : 128 ≤ a → ¬ (a / 32 = 6 ∧ 1 < L.length ∧ b / 64 = 2 ∧ 128 ≤ a % 32 * 64 + b % 64) → ¬ (a / 16 = 14 ∧ 1 < L.length ∧ b / 64 = 2 ∧ 2 < L.length ∧ c / 64 = 2 ∧ 2048 ≤ a % 16 * 4096 + b % 64 * 64 + c % 64 ∧ runeN (a % 16 * 4096 + b % 64 * 64 + c % 64) = true) → ¬ (a / 8 = 30 ∧ 1 < L.length ∧ b / 64 = 2 ∧ 2 < L.length ∧ c / 64 = 2 ∧ 3 < L.length ∧ d / 64 = 2 ∧ 65536 ≤ a % 8 * 262144 + b % 64 * 4096 + c % 64 * 64 + d % 64 ∧ runeN (a % 8 * 262144 + b % 64 * 4096 + c % 64 * 64 + d % 64) = true) → r = (65533, 1)) :
    Utf8.decode s pos = r := by
  have g : ∀ k, (s.get! (pos + k)).toNat = L.getD k 0 := fun k => by rw [get_bang, ← hL, drop_getD]
  have hlen : L.length = s.size - pos := by rw [← hL, List.length_drop, bl_len]
  have z : ∀ k, decide (pos + k < s.size) = decide (k < L.length) := fun k => by apply decide_eq_decide.2; omega
  simp only [Utf8.decode, g, z, ha, hb, hc, hd, utf_valid, Utf8.runeError]
  by_cases q1 : a < 128
  · rw [if_pos q1]; exact (h1 q1).symm
  · rw [if_neg q1]
    by_cases p2 : a / 32 = 6 ∧ 1 < L.length ∧ b / 64 = 2
    · rw [if_pos (by simp [p2.1, p2.2.1, p2.2.2])]
      by_cases v2 : 128 ≤ a % 32 * 64 + b % 64
      · rw [if_pos v2]; exact (h2 (by omega) p2.1 p2.2.1 p2.2.2 v2).symm
      · rw [if_neg v2]; exact (h5 (by omega) (by omega) (by omega) (by omega)).symm
    · rw [if_neg (by simp; omega)]
      by_cases p3 : a / 16 = 14 ∧ 1 < L.length ∧ b / 64 = 2 ∧ 2 < L.length ∧ c / 64 = 2
      · rw [if_pos (by simp [p3.1, p3.2.1, p3.2.2.1, p3.2.2.2.1, p3.2.2.2.2])]
        by_cases v3 : 2048 ≤ a % 16 * 4096 + b % 64 * 64 + c % 64 ∧ runeN (a % 16 * 4096 + b % 64 * 64 + c % 64) = true
        · rw [if_pos (by simp [v3.1, v3.2])]; exact (h3 (by omega) p3.1 p3.2.1 p3.2.2.1 p3.2.2.2.1 p3.2.2.2.2 v3.1 v3.2).symm
        · rw [if_neg (by simpa using v3)]
          exact (h5 (by omega) (by omega) (fun h => v3 ⟨h.2.2.2.2.2.1, h.2.2.2.2.2.2⟩) (by omega)).symm
      · rw [if_neg (by simp; omega)]
        by_cases p4 : a / 8 = 30 ∧ 1 < L.length ∧ b / 64 = 2 ∧ 2 < L.length ∧ c / 64 = 2 ∧ 3 < L.length ∧ d / 64 = 2
        · rw [if_pos (by simp [p4.1, p4.2.1, p4.2.2.1, p4.2.2.2.1, p4.2.2.2.2.1, p4.2.2.2.2.2.1, p4.2.2.2.2.2.2])]
          by_cases v4 : 65536 ≤ a % 8 * 262144 + b % 64 * 4096 + c % 64 * 64 + d % 64 ∧ runeN (a % 8 * 262144 + b % 64 * 4096 + c % 64 * 64 + d % 64) = true
          · rw [if_pos (by simp [v4.1, v4.2])]; exact (h4 (by omega) p4.1 p4.2.1 p4.2.2.1 p4.2.2.2.1 p4.2.2.2.2.1 p4.2.2.2.2.2.1 p4.2.2.2.2.2.2 v4.1 v4.2).symm
          · rw [if_neg (by simpa using v4)]
            exact (h5 (by omega) (by omega) (by omega) (fun h => v4 ⟨h.2.2.2.2.2.2.2.1, h.2.2.2.2.2.2.2.2⟩)).symm
        · rw [if_neg (by simp; omega)]
          exact (h5 (by omega) (fun h => p2 ⟨h.1, h.2.1, h.2.2.1⟩) (fun h => p3 ⟨h.1, h.2.1, h.2.2.1, h.2.2.2.1, h.2.2.2.2.1⟩) (fun h => p4 ⟨h.1, h.2.1, h.2.2.1, h.2.2.2.1, h.2.2.2.2.1, h.2.2.2.2.2.1, h.2.2.2.2.2.2.1⟩)).symm
theorem utf_dec (s : ByteArray) (pos : Nat) (hp : pos < s.size) : Utf8.decode s pos = dec ((bl s).drop pos) := by
  obtain ⟨L, hL⟩ : ∃ L, (bl s).drop pos = L := ⟨_, rfl⟩
  have hlen : L.length = s.size - pos := by rw [← hL, List.length_drop, bl_len]
  have hby : Byt L := by rw [← hL]; exact (bl_byt s).drop _
  rw [hL]
  have hg : ∀ k, k < L.length → L.getD k 0 < 256 := fun k hk => by
    rw [List.getD_eq_getElem?_getD, List.getElem?_eq_getElem hk]
    exact hby _ (List.getElem_mem hk)
  have told : ∀ v rest, runeN v = true → L = encN v ++ rest → dec L = (v, (encN v).length) := fun v rest hv e => by rw [e]; exact dec_enc hv rest
  obtain ⟨a, ha⟩ : ∃ a, L.getD 0 0 = a := ⟨_, rfl⟩
  obtain ⟨b, hb⟩ : ∃ a, L.getD 1 0 = a := ⟨_, rfl⟩
  obtain ⟨c, hc⟩ : ∃ a, L.getD 2 0 = a := ⟨_, rfl⟩
  obtain ⟨d, hd⟩ : ∃ a, L.getD 3 0 = a := ⟨_, rfl⟩
  have ha8 : a < 256 := by rw [← ha]; exact hg 0 (by omega)
  refine utf_told s pos L hL hp a b c d ha hb hc hd _ ?_ ?_ ?_ ?_ ?_
  · intro h
    cases L with
    | nil => simp at hlen; omega
    | cons x t =>
      have hx : x = a := ha
      subst hx
      exact dec_one h
  · intro q1 q2 q3 q4 q5
    have e : L = encN (a % 32 * 64 + b % 64) ++ L.drop 2 := by
      rw [encN, if_neg (by omega), if_pos (by omega)]
      have := split2 q3
      rw [ha, hb] at this
      rw [show 192 + (a % 32 * 64 + b % 64) / 64 = a by omega, show 128 + (a % 32 * 64 + b % 64) % 64 = b by omega]
      exact this
    rw [told _ _ (decide_eq_true (by omega)) e, encN, if_neg (by omega), if_pos (by omega)]
    rfl
  · intro q1 q2 q3 q4 q5 q6 q7 q8
    have e : L = encN (a % 16 * 4096 + b % 64 * 64 + c % 64) ++ L.drop 3 := by
      rw [encN, if_neg (by omega), if_neg (by omega), if_pos (by omega)]
      have := split3 q5
      rw [ha, hb, hc] at this
      rw [show 224 + (a % 16 * 4096 + b % 64 * 64 + c % 64) / 4096 = a by omega, show 128 + (a % 16 * 4096 + b % 64 * 64 + c % 64) / 64 % 64 = b by omega, show 128 + (a % 16 * 4096 + b % 64 * 64 + c % 64) % 64 = c by omega]
      exact this
    rw [told _ _ q8 e, encN, if_neg (by omega), if_neg (by omega), if_pos (by omega)]
    rfl
  · intro q1 q2 q3 q4 q5 q6 q7 q8 q9 q10
    have hr := runeN_le q10
    have e : L = encN (a % 8 * 262144 + b % 64 * 4096 + c % 64 * 64 + d % 64) ++ L.drop 4 := by
      rw [encN, if_neg (by omega), if_neg (by omega), if_neg (by omega)]
      have := split4 q7
      rw [ha, hb, hc, hd] at this
      rw [show 240 + (a % 8 * 262144 + b % 64 * 4096 + c % 64 * 64 + d % 64) / 262144 = a by omega, show 128 + (a % 8 * 262144 + b % 64 * 4096 + c % 64 * 64 + d % 64) / 4096 % 64 = b by omega, show 128 + (a % 8 * 262144 + b % 64 * 4096 + c % 64 * 64 + d % 64) / 64 % 64 = c by omega, show 128 + (a % 8 * 262144 + b % 64 * 4096 + c % 64 * 64 + d % 64) % 64 = d by omega]
      exact this
    rw [told _ _ q10 e, encN, if_neg (by omega), if_neg (by omega), if_neg (by omega)]
    rfl
  · intro q1 n2 n3 n4
    cases hLc : L with
    | nil => rw [hLc] at hlen; simp at hlen; omega
    | cons x t =>
      rcases dec_cases (c := x) (t := t) with ⟨v, hv, htk, hdv⟩ | ⟨hdv, _⟩
      · exfalso
        rw [← hLc] at htk
        have hvl := runeN_le hv
        have e : L = encN v ++ L.drop (encN v).length := by
          conv => lhs; rw [← List.take_append_drop (encN v).length L, htk]
        unfold encN at e
        by_cases h1 : v < 128
        · rw [if_pos h1] at e
          rw [e] at ha
          simp at ha
          omega
        · rw [if_neg h1] at e
          by_cases h2 : v < 2048
          · rw [if_pos h2] at e
            rw [e] at ha hb
            simp at ha hb
            have hl : 1 < L.length := by rw [e]; simp
            exact n2 ⟨by omega, hl, by omega, by omega⟩
          · rw [if_neg h2] at e
            by_cases h3 : v < 65536
            · rw [if_pos h3] at e
              rw [e] at ha hb hc
              simp at ha hb hc
              have hl : 2 < L.length := by rw [e]; simp
              have hval : a % 16 * 4096 + b % 64 * 64 + c % 64 = v := by omega
              exact n3 ⟨by omega, by omega, by omega, hl, by omega, by omega, by rw [hval]; exact hv⟩
            · rw [if_neg h3] at e
              rw [e] at ha hb hc hd
              simp at ha hb hc hd
              have hl : 3 < L.length := by rw [e]; simp
              have hval : a % 8 * 262144 + b % 64 * 4096 + c % 64 * 64 + d % 64 = v := by omega
              exact n4 ⟨by omega, by omega, by omega, by omega, by omega, hl, by omega, by omega, by rw [hval]; exact hv⟩
      · exact hdv
end Go.Proofs.Ytbhhakobkpdadaa
