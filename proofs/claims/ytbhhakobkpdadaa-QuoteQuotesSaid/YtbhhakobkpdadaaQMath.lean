/- Texts as lists of bytes; the bytes of a rune, the first rune of bytes. -/
import Derived.Test.YtbhhakobkpdadaaBase
namespace Go.Proofs.Ytbhhakobkpdadaa
open Go.RowKit

def bl (s : ByteArray) : List Nat := s.data.toList.map UInt8.toNat
def ofl (l : List Nat) : ByteArray := ⟨(l.map UInt8.ofNat).toArray⟩
def Byt (l : List Nat) : Prop := ∀ x ∈ l, x < 256
theorem bl_len (s : ByteArray) : (bl s).length = s.size := by rw [bl, List.length_map, Array.length_toList]; rfl
theorem bl_byt (s : ByteArray) : Byt (bl s) := by
  intro x hx
  obtain ⟨b, _, rfl⟩ := List.mem_map.1 hx
  exact b.toNat_lt
theorem bl_ofl {l : List Nat} (h : Byt l) : bl (ofl l) = l := by
  simp only [bl, ofl, List.map_map]
  refine (List.map_congr_left fun x hx => ?_).trans (List.map_id l)
  have := h x hx
  simp only [Function.comp, id]
  rw [UInt8.toNat_ofNat']
  omega
theorem bl_inj {s t : ByteArray} (h : bl s = bl t) : s = t := by
  apply ByteArray.ext
  apply Array.toList_inj.1
  refine (List.map_inj_right ?_).1 h
  intro a b hab
  exact UInt8.toNat_inj.1 hab
theorem bl_append (a b : ByteArray) : bl (a ++ b) = bl a ++ bl b := by simp [bl, ByteArray.data_append]
theorem bl_extract (s : ByteArray) (i j : Nat) : bl (s.extract i j) = ((bl s).take j).drop i := by
  simp [bl, ByteArray.data_extract, List.map_drop, List.map_take]
  rw [List.drop_take]
theorem bl_empty : bl ByteArray.empty = [] := rfl
theorem bl_nil {s : ByteArray} : s = ByteArray.empty ↔ bl s = [] := ⟨fun h => by rw [h]; rfl, fun h => bl_inj (h.trans bl_empty.symm)⟩
theorem bl_get (s : ByteArray) (i : Nat) (h : i < s.size) : (s[i]).toNat = (bl s).getD i 0 := by
  have h' : i < s.data.size := h
  rw [List.getD_eq_getElem?_getD]
  simp only [bl, List.getElem?_map, Array.getElem?_toList, ByteArray.getElem_eq_getElem_data]
  rw [Array.getElem?_eq_getElem h']
  rfl
theorem toList_bl (s t : ByteArray) : (s.toList == t.toList) = decide (bl s = bl t) := by
  rw [ByteArray.toList_eq, ByteArray.toList_eq]
  by_cases h : s = t
  · subst h; simp
  · have h1 : bl s ≠ bl t := fun e => h (bl_inj e)
    have h2 : ¬ s.data = t.data := fun e => h (ByteArray.ext e)
    simp [h1, h2]
theorem Byt.take {l : List Nat} (h : Byt l) (n : Nat) : Byt (l.take n) := fun x hx => h x (List.mem_of_mem_take hx)
theorem Byt.drop {l : List Nat} (h : Byt l) (n : Nat) : Byt (l.drop n) := fun x hx => h x (List.mem_of_mem_drop hx)
theorem Byt.app {l m : List Nat} (h : Byt l) (k : Byt m) : Byt (l ++ m) := fun x hx => by
  rcases List.mem_append.1 hx with h1 | h1
  · exact h x h1
  · exact k x h1
theorem Byt.cons {x : Nat} {l : List Nat} (h : x < 256) (k : Byt l) : Byt (x :: l) := fun y hy => by
  rcases List.mem_cons.1 hy with rfl | h1
  · exact h
  · exact k y h1
theorem Byt.nil : Byt [] := fun x hx => by cases hx

/-- The bytes of a rune's number. -/
def encN (n : Nat) : List Nat :=
  if n < 128 then [n]
  else if n < 2048 then [192 + n / 64, 128 + n % 64]
  else if n < 65536 then [224 + n / 4096, 128 + n / 64 % 64, 128 + n % 64]
  else [240 + n / 262144, 128 + n / 4096 % 64, 128 + n / 64 % 64, 128 + n % 64]
def runeN (n : Nat) : Bool := decide (n ≤ 1114111 ∧ (n < 55296 ∨ 57343 < n))
def isR (r : Int) : Bool := decide (0 ≤ r ∧ r ≤ 1114111 ∧ (r < 55296 ∨ 57343 < r))
def runeOf (r : Int) : Nat := if isR r then r.toNat else 65533
def enc (r : Int) : List Nat := encN (runeOf r)
theorem isR_nat (n : Nat) : isR (n : Int) = runeN n := by
  unfold isR runeN
  apply decide_eq_decide.2
  omega
theorem runeOf_le (r : Int) : runeOf r ≤ 1114111 ∧ runeN (runeOf r) = true := by
  unfold runeOf
  split
  · rename_i h
    have h' := of_decide_eq_true h
    exact ⟨by omega, by unfold runeN; exact decide_eq_true (by omega)⟩
  · exact ⟨by decide, by decide⟩
theorem encN_byt {n : Nat} (h : n ≤ 1114111) : Byt (encN n) := by
  unfold encN
  intro x hx
  split at hx
  · simp at hx; omega
  · split at hx
    · simp at hx; omega
    · split at hx <;> (simp at hx; omega)
theorem enc_byt (r : Int) : Byt (enc r) := encN_byt (runeOf_le r).1
theorem encN_len (n : Nat) : 1 ≤ (encN n).length ∧ (encN n).length ≤ 4 := by
  unfold encN
  repeat' split
  all_goals simp

/-- How many bytes begin with that one; 0: none. -/
def szB (c : Nat) : Nat := if c < 128 then 1 else if c < 192 then 0 else if c < 224 then 2 else if c < 240 then 3 else if c < 248 then 4 else 0
def headB (c n : Nat) : Nat := c % 2 ^ (7 - n)
def foldB (r : Nat) (l : List Nat) : Nat := l.foldl (fun r b => r * 64 + b % 64) r
def candB (L : List Nat) : Nat := match L with
  | [] => 0
  | c :: t => if szB c = 1 then c else foldB (headB c (szB c)) (t.take (szB c - 1))
/-- The first rune, and its bytes' number. -/
def dec (L : List Nat) : Nat × Nat := match L with
  | [] => (0, 0)
  | c :: t => if szB c = 0 ∨ t.length + 1 < szB c then (65533, 1) else if enc (candB (c :: t) : Nat) = (c :: t).take (szB c) then (candB (c :: t), szB c) else (65533, 1)
theorem szB_le (c : Nat) : szB c ≤ 4 := by
  unfold szB
  repeat' split
  all_goals omega
theorem dec_size {L : List Nat} (h : L ≠ []) : 1 ≤ (dec L).2 ∧ (dec L).2 ≤ L.length := by
  cases L with
  | nil => exact absurd rfl h
  | cons c t =>
    unfold dec
    try simp only
    split
    · simp
    · rename_i h1
      split
      · simp only [List.length_cons]; omega
      · simp
theorem dec_size4 (L : List Nat) : (dec L).2 ≤ 4 := by
  unfold dec
  split
  · simp
  · rename_i c t
    have := szB_le c
    split
    · omega
    · split <;> (try simp only) <;> omega
theorem foldB_lt {r k : Nat} (hr : r < k) (l : List Nat) : foldB r l < k * 64 ^ l.length := by
  induction l generalizing r k with
  | nil => simpa [foldB] using hr
  | cons b t ih =>
    have h1 : r * 64 + b % 64 < k * 64 := by omega
    have := ih h1
    simp only [foldB, List.foldl_cons, List.length_cons] at this ⊢
    rw [Nat.pow_succ, Nat.mul_comm (64 ^ t.length) 64, ← Nat.mul_assoc]
    exact this
theorem candB_lt {L : List Nat} (hb : Byt L) : candB L < 2097152 := by
  cases L with
  | nil => simp [candB]
  | cons c t =>
    have hc := hb c (by simp)
    unfold candB
    try simp only
    split
    · omega
    · have h := szB_le c
      have hl : (t.take (szB c - 1)).length ≤ szB c - 1 := by rw [List.length_take]; omega
      have hh : headB c (szB c) < 2 ^ (7 - szB c) := Nat.mod_lt _ (Nat.two_pow_pos _)
      refine Nat.lt_of_lt_of_le (foldB_lt hh _) ?_
      refine Nat.le_trans (Nat.mul_le_mul_left _ (Nat.pow_le_pow_right (by omega) hl)) ?_
      have : szB c = 0 ∨ szB c = 1 ∨ szB c = 2 ∨ szB c = 3 ∨ szB c = 4 := by omega
      rcases this with e | e | e | e | e <;> rw [e] <;> decide
theorem dec_lt {L : List Nat} (hb : Byt L) : (dec L).1 < 2097152 := by
  cases L with
  | nil => simp [dec]
  | cons c t =>
    have := candB_lt hb
    unfold dec
    try simp only
    split
    · omega
    · split
      · exact this
      · omega
/-- The runes of bytes, with the bytes of each. -/
def partsF : Nat → List Nat → List (List Nat × Nat)
  | 0, _ => []
  | f + 1, L => if L = [] then [] else (L.take (dec L).2, (dec L).1) :: partsF f (L.drop (dec L).2)
def parts (L : List Nat) : List (List Nat × Nat) := partsF L.length L
theorem partsF_more (f : Nat) : ∀ (g : Nat) (L : List Nat), L.length ≤ f → L.length ≤ g → partsF f L = partsF g L := by
  induction f with
  | zero =>
    intro g L h1 _
    have : L = [] := List.eq_nil_of_length_eq_zero (by omega)
    subst this
    cases g <;> simp [partsF]
  | succ f ih =>
    intro g L h1 h2
    cases g with
    | zero =>
      have : L = [] := List.eq_nil_of_length_eq_zero (by omega)
      subst this
      simp [partsF]
    | succ g =>
      simp only [partsF]
      by_cases hL : L = []
      · rw [if_pos hL, if_pos hL]
      · rw [if_neg hL, if_neg hL]
        have := dec_size hL
        rw [ih g (L.drop (dec L).2) (by rw [List.length_drop]; omega) (by rw [List.length_drop]; omega)]
theorem parts_nil : parts [] = [] := rfl
theorem parts_cons {L : List Nat} (h : L ≠ []) : parts L = (L.take (dec L).2, (dec L).1) :: parts (L.drop (dec L).2) := by
  have hd := dec_size h
  unfold parts
  cases hL : L.length with
  | zero => exact absurd (List.eq_nil_of_length_eq_zero hL) h
  | succ n =>
    simp only [partsF]
    rw [if_neg h, partsF_more n (L.drop (dec L).2).length (L.drop (dec L).2) (by rw [List.length_drop]; omega) (Nat.le_refl _)]
theorem parts_len (L : List Nat) : (parts L).length ≤ L.length := by
  suffices ∀ n (L : List Nat), L.length ≤ n → (parts L).length ≤ L.length from this _ L (Nat.le_refl _)
  intro n
  induction n with
  | zero =>
    intro L h
    have : L = [] := List.eq_nil_of_length_eq_zero (by omega)
    subst this
    simp [parts_nil]
  | succ n ih =>
    intro L h
    by_cases hL : L = []
    · subst hL; simp [parts_nil]
    · have hd := dec_size hL
      rw [parts_cons hL, List.length_cons]
      have := ih (L.drop (dec L).2) (by rw [List.length_drop]; omega)
      rw [List.length_drop] at this
      omega
end Go.Proofs.Ytbhhakobkpdadaa
