/- Digits and numbers: what was written is read as it was, and the other way round. -/
import Derived.Test.YtlpfcilgndbopaaDoorNRText
namespace Go.Proofs.YtlpfcilgndbopaaDoor
open Go.RowKit

theorem is_num {l : List UInt8} (h : l.all digit = true) (h0 : l.length = 1 ∨ 1 < l.length ∧ l.getD 0 0 ≠ 48) : isNum l = true := by
  rw [isNum, h]
  rcases h0 with h0 | ⟨h1, h2⟩
  · rw [h0]; rfl
  · simp [h1]; right; simpa using h2
theorem decV_append (l : List UInt8) (b : UInt8) : decV (l ++ [b]) = 10 * decV l + (b.toNat - 48) := by
  rw [decV, List.foldl_append]; rfl
theorem ofNat_digit {n : Nat} (h : n < 10) : (UInt8.ofNat (48 + n)).toNat = 48 + n := by
  simp; omega
theorem digit_of {n : Nat} (h : n < 10) : digit (UInt8.ofNat (48 + n)) = true := by
  rw [digit, ofNat_digit h, decide_eq_true (by omega), decide_eq_true (by omega)]; rfl
theorem decV_dec : ∀ n, decV (Lib.decDigits n) = n := fun n => by
  induction n using Nat.strongRecOn with
  | _ n ih =>
    rw [Lib.decDigits]
    by_cases h : n < 10
    · rw [dif_pos h]
      show 10 * 0 + ((UInt8.ofNat (48 + n)).toNat - 48) = n
      rw [ofNat_digit h]; omega
    · rw [dif_neg h, decV_append, ih (n / 10) (by omega), ofNat_digit (by omega)]; omega
theorem dec_facts : ∀ n, (Lib.decDigits n).all digit = true ∧ (n ≠ 0 → (Lib.decDigits n).getD 0 0 ≠ 48) ∧ 0 < (Lib.decDigits n).length := fun n => by
  induction n using Nat.strongRecOn with
  | _ n ih =>
    rw [Lib.decDigits]
    by_cases h : n < 10
    · rw [dif_pos h]
      refine ⟨by rw [List.all_cons, digit_of h]; rfl, fun h0 h1 => ?_, by simp⟩
      have h2 := ofNat_digit h
      rw [show UInt8.ofNat (48 + n) = (48 : UInt8) from h1] at h2
      have : (48 : UInt8).toNat = 48 := rfl
      omega
    · rw [dif_neg h]
      obtain ⟨h1, h2, h3⟩ := ih (n / 10) (by omega)
      refine ⟨by rw [List.all_append, h1, List.all_cons, digit_of (by omega)]; rfl, fun _ => ?_, by simp⟩
      have h4 := h2 (by omega)
      rw [List.getD_eq_getElem?_getD] at h4 ⊢
      rwa [List.getElem?_append_left h3]
theorem isNum_dec (n : Nat) : isNum (Lib.decDigits n) = true := by
  obtain ⟨h1, h2, h3⟩ := dec_facts n
  refine is_num h1 ?_
  by_cases h0 : n = 0
  · left; subst h0; rw [Lib.decDigits, dif_pos (by decide)]; rfl
  · rcases Nat.lt_or_ge 1 (Lib.decDigits n).length with h | h
    · exact .inr ⟨h, h2 h0⟩
    · left; omega
theorem dec_take {l : List UInt8} (h0 : l.getD 0 0 ≠ 48) (hd : ∀ k, k < l.length → 48 ≤ (l.getD k 0).toNat ∧ (l.getD k 0).toNat ≤ 57) :
    ∀ k, k < l.length → decV (l.take (k + 1)) ≠ 0 ∧ Lib.decDigits (decV (l.take (k + 1))) = l.take (k + 1)
  | 0, hk => by
    have hd0 := hd 0 hk
    have hn : (l.getD 0 0).toNat ≠ 48 := fun h => h0 (UInt8.toNat.inj (by rw [h]; rfl))
    obtain ⟨b, hb⟩ : ∃ b, l.getD 0 0 = b := ⟨_, rfl⟩
    have e : l.take 1 = [b] := by
      rw [List.take_succ_eq_append_getElem hk, List.take_zero, ← hb, List.getD_eq_getElem?_getD, List.getElem?_eq_getElem hk]; rfl
    rw [hb] at hd0 hn
    rw [e]
    have e2 : decV [b] = b.toNat - 48 := by show 10 * 0 + (b.toNat - 48) = _; omega
    rw [e2]
    refine ⟨by omega, ?_⟩
    rw [Lib.decDigits, dif_pos (by omega), show 48 + (b.toNat - 48) = b.toNat by omega, UInt8.ofNat_toNat]
  | k + 1, hk => by
    obtain ⟨h1, h2⟩ := dec_take h0 hd k (by omega)
    have hdk := hd (k + 1) hk
    obtain ⟨b, hb⟩ : ∃ b, l.getD (k + 1) 0 = b := ⟨_, rfl⟩
    have e : l.take (k + 1 + 1) = l.take (k + 1) ++ [b] := by
      rw [List.take_succ_eq_append_getElem hk, ← hb, List.getD_eq_getElem?_getD, List.getElem?_eq_getElem hk]; rfl
    rw [hb] at hdk
    rw [e, decV_append]
    refine ⟨by omega, ?_⟩
    rw [Lib.decDigits, dif_neg (by omega), show (10 * decV (l.take (k + 1)) + (b.toNat - 48)) / 10 = decV (l.take (k + 1)) by omega, h2, show 48 + (10 * decV (l.take (k + 1)) + (b.toNat - 48)) % 10 = b.toNat by omega, UInt8.ofNat_toNat]
/-- A numeral's number has just this text. -/
theorem dec_decV {l : List UInt8} (h : isNum l = true) (h0 : l.getD 0 0 ≠ 48) (hl : 0 < l.length) : Lib.decDigits (decV l) = l := by
  have := (dec_take h0 (fun k hk => digit_at h k hk) (l.length - 1) (by omega)).2
  rwa [show l.length - 1 + 1 = l.length by omega, List.take_length] at this
theorem decV_zero (l : List UInt8) : decV (l ++ [48]) = decV l * 10 := by
  rw [decV_append, show (48 : UInt8).toNat = 48 from rfl]; omega
theorem isNum_more {l : List UInt8} (h : l.all digit = true) (h0 : l.getD 0 0 ≠ 48) (hl : 0 < l.length) : isNum l = true ∧ isNum (l ++ [48]) = true := by
  refine ⟨is_num h ?_, is_num (by rw [List.all_append, h]; rfl) (.inr ⟨by simp; omega, ?_⟩)⟩
  · rcases Nat.lt_or_ge 1 l.length with h1 | h1
    · exact .inr ⟨h1, h0⟩
    · left; omega
  · rw [List.getD_eq_getElem?_getD] at h0 ⊢
    rwa [List.getElem?_append_left hl]
theorem trim_facts (l : List UInt8) (h : l.all digit = true) : (Lib.trimLeftB l 48).all digit = true ∧ (Lib.trimLeftB l 48).length ≤ l.length ∧ (0 < (Lib.trimLeftB l 48).length → (Lib.trimLeftB l 48).getD 0 0 ≠ 48) := by
  unfold Lib.trimLeftB
  induction l with
  | nil => exact ⟨rfl, by simp, by simp⟩
  | cons b t ih =>
    rw [List.all_cons, Bool.and_eq_true] at h
    obtain ⟨h1, h2, h3⟩ := ih h.2
    rw [List.dropWhile_cons]
    by_cases hb : b = 48
    · rw [if_pos (by simp [hb])]
      exact ⟨h1, by simp; omega, h3⟩
    · rw [if_neg (by simp [hb])]
      exact ⟨by rw [List.all_cons, h.1, h.2]; rfl, by simp, fun _ => by simpa using hb⟩
theorem decV_limbs {l : List UInt8} (h : isNum l = true) : (limbs (decV l)).length ≤ l.length := by
  have := decV_len h (Nat.le_refl l.length)
  rwa [List.take_length] at this
/-- A numeral of 300 digits has 32 limbs at most. -/
theorem ten_pow_le {l : List UInt8} (h : isNum l = true) : decV l < 10 ^ l.length := by
  have : ∀ k, k ≤ l.length → decV (l.take k) < 10 ^ k := fun k => by
    induction k with
    | zero => intro _; rw [List.take_zero]; decide
    | succ k ih =>
      intro hk
      have ih := ih (by omega)
      have hd := digit_at h k (by omega)
      rw [decV_succ (by omega), Nat.pow_succ]
      omega
  have h2 := this l.length (Nat.le_refl _)
  rwa [List.take_length] at h2
theorem limbs_300 {l : List UInt8} (h : isNum l = true) (hl : l.length ≤ 300) : (limbs (decV l)).length ≤ 32 := by
  refine limbs_len (Nat.lt_of_lt_of_le (ten_pow_le h) (Nat.le_trans (Nat.pow_le_pow_right (by decide) hl) ?_))
  decide +kernel

section
variable {A : Option Addr} {n c X : Nat} {w : World}
theorem textG (h : Got w X n A) (hn : n ≤ 64) (ht : Tab w) :
    Calls Tryd.prog 34 #[.slice A n c] w fun e w' => e = .returned (.tuple #[.string ⟨(Lib.decDigits X).toArray⟩, .int .i64 0]) ∧ Below w.heap.size w w' := by
  have hx := chk_limbs (X := X) (by rw [h.1]; exact hn)
  have := Text_any A n c (limbs X) w h.2 (lim_limbs X) ht
  rwa [textL, hx, if_pos rfl, val_limbs, textOf_dec] at this
theorem readG (l : List UInt8) (h : isNum l = true) (hl : l.length ≤ 600) (s : ByteArray) (hs : s.data.toList = l) :
    Calls Tryd.prog 36 #[.string s] w fun e w' => ∃ B m d, e = .returned (.tuple #[.slice B m d, .int .i64 0]) ∧ Got w' (decV l) m B ∧ Below w.heap.size w w' := by
  have hE : readE l = 0 := by rw [readE, if_neg (by omega), if_pos h]
  have hR := Read_any s l hs w
  rw [readL, hE, if_pos rfl] at hR
  refine (outK _ ⟨rfl, rfl⟩ hR rfl).mono ?_
  rintro e w' ⟨B, d, rfl, r, b⟩
  exact ⟨B, _, d, rfl, ⟨rfl, r⟩, b⟩
end
end Go.Proofs.YtlpfcilgndbopaaDoor
