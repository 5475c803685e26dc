/- The numbers' bytes, as lists: seven bits a byte, the lowest first, bit 7 set in all but the last. Plain lists and numbers alone. -/
namespace Go.Proofs.Ytieknhlpgoedgaa

def leb (n : Nat) : List Int := if n < 128 then [(n : Int)] else ((n % 128 + 128 : Nat) : Int) :: leb (n / 128)
termination_by n
decreasing_by omega

theorem leb_small {n : Nat} (h : n < 128) : leb n = [(n : Int)] := by rw [leb, if_pos h]
theorem leb_big {n : Nat} (h : ¬ n < 128) : leb n = ((n % 128 + 128 : Nat) : Int) :: leb (n / 128) := by rw [leb, if_neg h]

theorem leb_len_le : ∀ (k n : Nat), n < 128 ^ (k + 1) → (leb n).length ≤ k + 1
  | 0, n, h => by rw [leb_small (by simpa using h)]; simp
  | k + 1, n, h => by
    by_cases hn : n < 128
    · rw [leb_small hn]; simp
    · rw [leb_big hn]
      have h' : n / 128 < 128 ^ (k + 1) := by rw [Nat.pow_succ] at h; omega
      have := leb_len_le k (n / 128) h'
      simp only [List.length_cons]; omega
theorem leb_len8 {n : Nat} (h : n ≤ 18014398509481982) : (leb n).length ≤ 8 := leb_len_le 7 n (by omega)
theorem leb_pos (n : Nat) : 0 < (leb n).length := by
  by_cases h : n < 128
  · rw [leb_small h]; simp
  · rw [leb_big h]; simp
theorem leb_byte : ∀ (k n : Nat), n < 128 ^ (k + 1) → ∀ x ∈ leb n, 0 ≤ x ∧ x ≤ 255
  | 0, n, h => by
    have h' : n < 128 := by simpa using h
    rw [leb_small h']; intro x hx; simp at hx; omega
  | k + 1, n, h => by
    by_cases hn : n < 128
    · rw [leb_small hn]; intro x hx; simp at hx; omega
    · rw [leb_big hn]
      have h' : n / 128 < 128 ^ (k + 1) := by rw [Nat.pow_succ] at h; omega
      intro x hx
      rcases List.mem_cons.1 hx with rfl | hx
      · omega
      · exact leb_byte k (n / 128) h' x hx
theorem leb_step {n m : Nat} {out : List Int} (h : leb n = out ++ leb m) (hm : ¬ m < 128) : leb n = (out ++ [((m % 128 + 128 : Nat) : Int)]) ++ leb (m / 128) := by
  rw [h, leb_big hm, List.append_assoc]; rfl
theorem leb_out_len {n m : Nat} {out : List Int} (h : leb n = out ++ leb m) (hn : n ≤ 18014398509481982) : out.length ≤ 7 := by
  have h1 := leb_len8 hn
  have h2 := leb_pos m
  rw [h, List.length_append] at h1
  omega

/-- Where the first byte without bit 7 stands. -/
def endAt (l : List Int) : Option Nat := l.findIdx? (fun b => decide (b < 128))
def val : List Int → Int
  | [] => 0
  | b :: l => b % 128 + 128 * val l
/-- What reading one number off bytes comes to: the number, what is left, the error. -/
def rdU (l : List Int) : Int × List Int × Int :=
  match endAt l with
  | none => if 8 ≤ l.length then (0, [], 4) else (0, [], 3)
  | some i => if 8 ≤ i then (0, [], 4) else if 0 < i ∧ l[i]? = some 0 then (0, [], 4) else if 18014398509481982 < val (l.take (i + 1)) then (0, [], 4) else (val (l.take (i + 1)), l.drop (i + 1), 0)

theorem endAt_hit {l : List Int} {k : Nat} {z : Int} (h : ∀ x ∈ l.take k, 128 ≤ x) (hz : l[k]? = some z) (hlt : z < 128) : endAt l = some k := by
  have hk : k < l.length := (List.getElem?_eq_some_iff.1 hz).1
  unfold endAt
  rw [List.findIdx?_eq_some_iff_getElem]
  refine ⟨hk, ?_, ?_⟩
  · have := (List.getElem?_eq_some_iff.1 hz).2
    rw [this]; simpa using hlt
  · intro j hj
    have := h l[j] (by rw [List.mem_take_iff_getElem]; exact ⟨j, by omega, rfl⟩)
    simpa using this
theorem endAt_none {l : List Int} (h : ∀ x ∈ l, 128 ≤ x) : endAt l = none := by
  unfold endAt
  rw [List.findIdx?_eq_none_iff]
  intro x hx
  simpa using h x hx
theorem endAt_some {l : List Int} {i : Nat} (h : endAt l = some i) : ∃ z, l[i]? = some z ∧ z < 128 ∧ ∀ x ∈ l.take i, 128 ≤ x := by
  unfold endAt at h
  rw [List.findIdx?_eq_some_iff_getElem] at h
  obtain ⟨hk, h1, h2⟩ := h
  refine ⟨l[i], List.getElem?_eq_getElem hk, by simpa using h1, ?_⟩
  intro x hx
  rw [List.mem_take_iff_getElem] at hx
  obtain ⟨j, hj, rfl⟩ := hx
  have := h2 j (by omega)
  simpa using this

theorem val_snoc : ∀ (l : List Int) (z : Int), val (l ++ [z]) = val l + (z % 128) * 128 ^ l.length
  | [], z => by simp [val]
  | b :: l, z => by
    simp only [List.cons_append, val, val_snoc l z, List.length_cons, Int.pow_succ]
    have : 128 * (val l + z % 128 * 128 ^ l.length) = 128 * val l + z % 128 * (128 ^ l.length * 128) := by
      rw [Int.mul_add, Int.mul_comm (128 : Int) (z % 128 * 128 ^ l.length), Int.mul_assoc]
    omega
theorem val_nonneg : ∀ (l : List Int), 0 ≤ val l
  | [] => by simp [val]
  | b :: l => by have := val_nonneg l; simp only [val]; omega
theorem val_lt : ∀ (l : List Int), val l < 128 ^ l.length
  | [] => by simp [val]
  | b :: l => by
    have := val_lt l
    simp only [val, List.length_cons, Int.pow_succ]
    omega

theorem leb_mono : ∀ (k n m : Nat), m < 128 ^ (k + 1) → n ≤ m → (leb n).length ≤ (leb m).length
  | 0, n, m, h, hle => by
    have h' : m < 128 := by simpa using h
    rw [leb_small (n := n) (by omega), leb_small h']; simp
  | k + 1, n, m, h, hle => by
    by_cases hn : n < 128
    · rw [leb_small hn]; have := leb_pos m; simp; omega
    · rw [leb_big hn, leb_big (n := m) (by omega)]
      have h' : m / 128 < 128 ^ (k + 1) := by rw [Nat.pow_succ] at h; omega
      have := leb_mono k (n / 128) (m / 128) h' (by omega)
      simp; omega
theorem leb_apart : ∀ (k n m : Nat), m < 128 ^ (k + 1) → n < 128 ^ (k + 1) → (leb m).take (min (leb m).length (leb n).length) = (leb n).take (min (leb m).length (leb n).length) → m = n
  | 0, n, m, h, h2, he => by
    rw [leb_small (by simpa using h), leb_small (n := n) (by simpa using h2)] at he
    simp at he; omega
  | k + 1, n, m, h, h2, he => by
    by_cases hm : m < 128 <;> by_cases hn : n < 128
    · rw [leb_small hm, leb_small hn] at he
      simp at he; omega
    · rw [leb_small hm, leb_big hn] at he
      have hz : min 1 ((leb (n / 128)).length + 1) = 1 := by omega
      simp [hz] at he; omega
    · rw [leb_big hm, leb_small hn] at he
      have hz : min ((leb (m / 128)).length + 1) 1 = 1 := by omega
      simp [hz] at he; omega
    · rw [leb_big hm, leb_big hn] at he
      have hz : min ((leb (m / 128)).length + 1) ((leb (n / 128)).length + 1) = min (leb (m / 128)).length (leb (n / 128)).length + 1 := by omega
      simp only [List.length_cons, hz, List.take_succ_cons, List.cons.injEq] at he
      rw [Nat.pow_succ] at h h2
      have := leb_apart k (n / 128) (m / 128) (by omega) (by omega) he.2
      omega

theorem leb_form : ∀ (k n : Nat), n < 128 ^ (k + 1) → ∃ (ini : List Int) (last : Int), leb n = ini ++ [last] ∧ (∀ x ∈ ini, 128 ≤ x) ∧ last < 128 ∧ 0 ≤ last ∧ (ini ≠ [] → last ≠ 0) ∧ val (leb n) = n
  | 0, n, h => by
    have h' : n < 128 := by simpa using h
    refine ⟨[], n, leb_small h', by simp, by omega, by omega, by simp, ?_⟩
    rw [leb_small h']
    simp [val]; omega
  | k + 1, n, h => by
    by_cases hn : n < 128
    · refine ⟨[], n, leb_small hn, by simp, by omega, by omega, by simp, ?_⟩
      rw [leb_small hn]
      simp [val]; omega
    · have h' : n / 128 < 128 ^ (k + 1) := by rw [Nat.pow_succ] at h; omega
      obtain ⟨ini, last, e, h1, h2, h3, h4, h5⟩ := leb_form k (n / 128) h'
      refine ⟨((n % 128 + 128 : Nat) : Int) :: ini, last, by rw [leb_big hn, e]; rfl, ?_, h2, h3, ?_, ?_⟩
      · intro x hx
        rcases List.mem_cons.1 hx with rfl | hx
        · omega
        · exact h1 x hx
      · intro _ h0
        rcases ini with _ | ⟨a, r⟩
        · rw [e, h0] at h5
          simp [val] at h5
          omega
        · exact h4 (by simp) h0
      · rw [leb_big hn]
        simp only [val, h5]
        omega

theorem rdU_leb {n : Nat} (h : n ≤ 18014398509481982) (rest : List Int) : rdU (leb n ++ rest) = ((n : Int), rest, 0) := by
  obtain ⟨ini, last, e, h1, h2, h3, h4, h5⟩ := leb_form 8 n (by omega)
  have hl := leb_len8 h
  have hlen : (leb n).length = ini.length + 1 := by rw [e]; simp
  have hz : (leb n ++ rest)[ini.length]? = some last := by rw [e, List.append_assoc, List.getElem?_append_right (Nat.le_refl _)]; simp
  have he : endAt (leb n ++ rest) = some ini.length := by
    refine endAt_hit (z := last) ?_ hz h2
    intro x hx
    rw [e, List.append_assoc, List.take_left' rfl] at hx
    exact h1 x hx
  have ht : (leb n ++ rest).take (ini.length + 1) = leb n := by rw [← hlen]; exact List.take_left
  have hd : (leb n ++ rest).drop (ini.length + 1) = rest := by rw [← hlen]; exact List.drop_left
  unfold rdU
  rw [he]
  simp only []
  rw [if_neg (by omega), ht, hd, h5, if_neg, if_neg (by omega)]
  rintro ⟨h6, h7⟩
  rw [hz] at h7
  injection h7 with h7
  exact h4 (by intro h; rw [h] at h6; simp at h6) h7

end Go.Proofs.Ytieknhlpgoedgaa
