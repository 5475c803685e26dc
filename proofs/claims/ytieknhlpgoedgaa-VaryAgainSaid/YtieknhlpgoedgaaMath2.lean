/- What was read is written so: the other way round. Plain lists and numbers alone. -/
import Derived.Test.YtieknhlpgoedgaaMath
namespace Go.Proofs.Ytieknhlpgoedgaa

theorem leb_val : ∀ (ini : List Int) (last : Int), (∀ x ∈ ini, 128 ≤ x ∧ x ≤ 255) → 0 ≤ last → last < 128 → (ini ≠ [] → last ≠ 0) → leb (val (ini ++ [last])).toNat = ini ++ [last]
  | [], last, _, h0, h1, _ => by
    have e : (val ([] ++ [last])).toNat = last.toNat := by simp [val]; omega
    rw [e, leb_small (by omega)]
    simp; omega
  | h :: t, last, hi, h0, h1, hne => by
    have hn := hne (by simp)
    obtain ⟨g0, g1⟩ := hi h (by simp)
    have ih := leb_val t last (fun x hx => hi x (by simp [hx])) h0 h1 (fun _ => hn)
    have hv := val_snoc t last
    have hp : (0 : Int) < 128 ^ t.length := Int.pow_pos (by omega)
    have hge : 1 ≤ val (t ++ [last]) := by
      have := val_nonneg t
      have hm : 1 * 128 ^ t.length ≤ last % 128 * 128 ^ t.length := Int.mul_le_mul_of_nonneg_right (by omega) (by omega)
      omega
    simp only [List.cons_append, val]
    generalize val (t ++ [last]) = V at *
    rw [leb_big (by omega)]
    have e1 : (h % 128 + 128 * V).toNat / 128 = V.toNat := by omega
    have e2 : (((h % 128 + 128 * V).toNat % 128 + 128 : Nat) : Int) = h := by omega
    rw [e1, e2, ih]

theorem rdU_inv {l : List Int} (hu : ∀ x ∈ l, 0 ≤ x ∧ x ≤ 255) (hx : (rdU l).2.2 = 0) :
    ∃ (m : Nat) (rest : List Int), m ≤ 18014398509481982 ∧ rdU l = ((m : Int), rest, 0) ∧ l = leb m ++ rest := by
  cases he : endAt l with
  | none =>
    simp only [rdU, he] at hx
    split at hx <;> simp at hx
  | some i =>
    obtain ⟨z, hz, hz1, hz2⟩ := endAt_some he
    have hil : i < l.length := (List.getElem?_eq_some_iff.1 hz).1
    simp only [rdU, he] at hx ⊢
    by_cases h8 : 8 ≤ i
    · simp [h8] at hx
    · by_cases h0 : 0 < i ∧ l[i]? = some 0
      · simp [h8, h0] at hx
      · by_cases hb : 18014398509481982 < val (l.take (i + 1))
        · simp [h8, h0, hb] at hx
        · simp only [if_neg h8, if_neg h0, if_neg hb]
          have hzb := hu z (List.mem_of_getElem? hz)
          have ht : l.take (i + 1) = l.take i ++ [z] := by
            rw [List.take_add_one, hz]; rfl
          have hv0 := val_nonneg (l.take (i + 1))
          have hl := leb_val (l.take i) z (fun x hx => ⟨hz2 x hx, (hu x (List.mem_of_mem_take hx)).2⟩) hzb.1 hz1 (fun hne h => h0 ⟨by
            rcases Nat.eq_zero_or_pos i with h1 | h1
            · subst h1; simp at hne
            · exact h1, by rw [hz, h]⟩)
          rw [← ht] at hl
          refine ⟨(val (l.take (i + 1))).toNat, l.drop (i + 1), by omega, ?_, ?_⟩
          · rw [Int.toNat_of_nonneg hv0]
          · rw [hl, List.take_append_drop]

end Go.Proofs.Ytieknhlpgoedgaa
