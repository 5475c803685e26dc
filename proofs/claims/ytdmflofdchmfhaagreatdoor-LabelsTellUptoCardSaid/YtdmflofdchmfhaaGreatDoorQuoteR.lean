/- QMap QNum QUnqM QREnc QRDecA QRDec2 QRDec3 QRDec4 QRDec QRRunes QLawM QLawN QRQuote: taken over. -/
import Derived.Test.YtdmflofdchmfhaaGreatDoorQuoteB
import Derived.Deep.QuietTactic
import Derived.BigQuiet
namespace Go.Proofs.YtdmflofdchmfhaaGreatDoor
open Go.RowKit

open Go.RowKit Go.Shelf

def ESC : Array MapEntry := #[{ key := .int .u8 97, val := .int .u8 7, born := 0 }, { key := .int .u8 98, val := .int .u8 8, born := 1 }, { key := .int .u8 102, val := .int .u8 12, born := 2 }, { key := .int .u8 110, val := .int .u8 10, born := 3 }, { key := .int .u8 114, val := .int .u8 13, born := 4 }, { key := .int .u8 116, val := .int .u8 9, born := 5 }, { key := .int .u8 118, val := .int .u8 11, born := 6 }, { key := .int .u8 92, val := .int .u8 92, born := 7 }, { key := .int .u8 39, val := .int .u8 39, born := 8 }, { key := .int .u8 34, val := .int .u8 34, born := 9 }]
/-- What a backslash and one byte stand for. -/
def escF (c : Nat) : Option Nat :=
  if c = 97 then some 7 else
  if c = 98 then some 8 else
  if c = 102 then some 12 else
  if c = 110 then some 10 else
  if c = 114 then some 13 else
  if c = 116 then some 9 else
  if c = 118 then some 11 else
  if c = 92 then some 92 else
  if c = 39 then some 39 else
  if c = 34 then some 34 else none
theorem push_set (A : Array Obj) (a b : Obj) : (A.push a).setIfInBounds A.size b = A.push b := by
  apply Array.toList_inj.1
  simp
theorem find_esc (c : Nat) : ∃ i, Instr.findNow (.int .u8) (.int .u8 (c : Int)) ESC.toList 0 = some ((escF c).map fun v => (i, .int .u8 (v : Int))) := by
  by_cases h97 : c = 97
  · subst h97; exact ⟨0, rfl⟩
  by_cases h98 : c = 98
  · subst h98; exact ⟨1, rfl⟩
  by_cases h102 : c = 102
  · subst h102; exact ⟨2, rfl⟩
  by_cases h110 : c = 110
  · subst h110; exact ⟨3, rfl⟩
  by_cases h114 : c = 114
  · subst h114; exact ⟨4, rfl⟩
  by_cases h116 : c = 116
  · subst h116; exact ⟨5, rfl⟩
  by_cases h118 : c = 118
  · subst h118; exact ⟨6, rfl⟩
  by_cases h92 : c = 92
  · subst h92; exact ⟨7, rfl⟩
  by_cases h39 : c = 39
  · subst h39; exact ⟨8, rfl⟩
  by_cases h34 : c = 34
  · subst h34; exact ⟨9, rfl⟩
  have e97 : ((c : Int) == 97) = false := by simp; omega
  have e98 : ((c : Int) == 98) = false := by simp; omega
  have e102 : ((c : Int) == 102) = false := by simp; omega
  have e110 : ((c : Int) == 110) = false := by simp; omega
  have e114 : ((c : Int) == 114) = false := by simp; omega
  have e116 : ((c : Int) == 116) = false := by simp; omega
  have e118 : ((c : Int) == 118) = false := by simp; omega
  have e92 : ((c : Int) == 92) = false := by simp; omega
  have e39 : ((c : Int) == 39) = false := by simp; omega
  have e34 : ((c : Int) == 34) = false := by simp; omega
  have hn : escF c = none := by simp [escF, h97, h98, h102, h110, h114, h116, h118, h92, h39, h34]
  refine ⟨0, ?_⟩
  rw [hn]
  simp [ESC, Instr.findNow, Instr.sameNow, e97, e98, e102, e110, e114, e116, e118, e92, e39, e34]

open Go.RowKit Go.Shelf

def dcB (c : Nat) : Nat := if c = 85 then 8 else if c = 117 then 4 else if c = 120 then 2 else 0
def digV (c : Nat) : Option Nat := if 48 ≤ c ∧ c ≤ 57 then some (c - 48) else if 97 ≤ c ∧ c ≤ 102 then some (c - 87) else if 65 ≤ c ∧ c ≤ 70 then some (c - 55) else none
/-- The number of hexadecimal digits. -/
def hexG (n : Nat) : List Nat → Option Nat
  | [] => some n
  | c :: t => match digV c with
    | none => none
    | some d => hexG (n * 16 + d) t
def numB (L : List Nat) (k : Nat) : Option Nat := if k = 0 ∨ L.length < k then none else hexG 0 (L.take k)
theorem dcB_le (c : Nat) : dcB c ≤ 8 := by unfold dcB; repeat' split
                                           all_goals omega
theorem digV_lt {c d : Nat} (h : digV c = some d) : d < 16 := by
  unfold digV at h
  repeat' split at h
  all_goals (try cases h)
  all_goals omega
def lowB (c : Nat) : Nat := if 65 ≤ c ∧ c ≤ 70 then c + 32 else c
theorem index_hex : ∀ c : Fin 256, Lib.indexByte hexS.data.toList (lowB c.val).toUInt8 = (match digV c.val with | some d => (d : Int) | none => -1) := by decide +kernel

/-- What number answers. -/
def NumOut (w : World) (o : Option Nat) (e : Ending) (w' : World) : Prop := e = .returned (.tuple #[.int .i64 ((o.getD 0 : Nat) : Int), .bool o.isSome]) ∧ Below w.heap.size w w'
theorem hexG_next {n c : Nat} {t : List Nat} : hexG n (c :: t) = (digV c).bind fun d => hexG (n * 16 + d) t := by
  rw [hexG]
  cases digV c <;> rfl
theorem i64_ofInt (a : Nat) (ha : a < 4611686018427387904) : (BitVec.ofInt 64 (a : Int)).toNat = a := by
  rw [BitVec.ofInt_natCast, BitVec.toNat_ofNat]; exact Nat.mod_eq_of_lt (by omega)
theorem i64_wrap (n : Nat) (h : n < 4611686018427387904) : IntKind.i64.wrap (n : Int) = (n : Int) := by
  rw [IntKind.wrap_i64]
  omega
theorem or_i64 (a b : Nat) (ha : a < 4611686018427387904) (hb : b < 4611686018427387904) : bits .or .i64 (a : Int) (b : Int) = ((a ||| b : Nat) : Int) := by
  have hx : a ||| b < 2 ^ 62 := Nat.or_lt_two_pow (by omega) (by omega)
  show IntKind.i64.wrap ((BitVec.ofInt 64 (a : Int) ||| BitVec.ofInt 64 (b : Int)).toNat : Int) = _
  rw [BitVec.toNat_or, i64_ofInt a ha, i64_ofInt b hb, i64_wrap _ (by omega)]
theorem or4 (n d : Nat) (hn : n < 4294967296) (hd : d < 16) : bits .or .i64 ((n : Int) * 16) (d : Int) = (n : Int) * 16 + (d : Int) := by
  have h := or_i64 (n * 16) d (by omega) (by omega)
  rw [Nat.mul_comm n 16, or_add4 n d hd] at h
  rw [show ((n : Int) * 16) = ((16 * n : Nat) : Int) by omega, h]
  omega
theorem hexG_lt {k : Nat} : ∀ (l : List Nat) (n m : Nat), n < k → hexG n l = some m → m < k * 16 ^ l.length := by
  intro l
  induction l generalizing k with
  | nil => intro n m hn h; cases h; simpa using hn
  | cons c t ih =>
    intro n m hn h
    rw [hexG] at h
    cases hd : digV c with
    | none => rw [hd] at h; cases h
    | some d =>
      rw [hd] at h
      have := digV_lt hd
      have h2 := ih (k := k * 16) (n * 16 + d) m (by omega) h
      rw [List.length_cons, Nat.pow_succ, Nat.mul_comm (16 ^ t.length) 16, ← Nat.mul_assoc]
      exact h2
theorem numB_lt {L : List Nat} {k m : Nat} (hk : k ≤ 8) (h : numB L k = some m) : m < 4294967296 := by
  unfold numB at h
  split at h
  · cases h
  · have h2 := hexG_lt (k := 1) _ 0 m (by omega) h
    have h3 : (16 : Nat) ^ (L.take k).length ≤ 16 ^ 8 := Nat.pow_le_pow_right (by omega) (by rw [List.length_take]; omega)
    omega

open Go.RowKit Go.Shelf

/-- One piece of a text in double quotes: what it stands for, how many bytes it has. -/
def stepU (L : List Nat) : Option (List Nat × Nat) := match L with
  | [] => none
  | c :: t => if c = 34 ∨ c = 10 then none else if c ≠ 92 then some ([c], 1) else
    match t with
    | [] => none
    | k :: u => match escF k with
      | some b => some ([b], 2)
      | none => match numB u (dcB k) with
        | none => none
        | some x => if k = 120 then some ([x], 2 + dcB k) else if runeN x then some (encN x, 2 + dcB k) else none
theorem stepU_bad {c : Nat} {t : List Nat} (h : c = 34 ∨ c = 10) : stepU (c :: t) = none := by
  unfold stepU; simp only [if_pos h]
theorem stepU_one {c : Nat} {t : List Nat} (h : ¬ (c = 34 ∨ c = 10)) (h2 : c ≠ 92) : stepU (c :: t) = some ([c], 1) := by
  unfold stepU; simp only [if_neg h, if_pos h2]
theorem stepU_end : stepU [92] = none := by decide
theorem stepU_esc {k b : Nat} {u : List Nat} (h : escF k = some b) : stepU (92 :: k :: u) = some ([b], 2) := by
  unfold stepU; simp [h]
theorem stepU_num {k : Nat} {u : List Nat} (h : escF k = none) (h2 : numB u (dcB k) = none) : stepU (92 :: k :: u) = none := by
  unfold stepU; simp [h, h2]
theorem stepU_x {x : Nat} {u : List Nat} (h2 : numB u 2 = some x) : stepU (92 :: 120 :: u) = some ([x], 4) := by
  have h : escF 120 = none := by decide
  have h3 : dcB 120 = 2 := by decide
  unfold stepU; simp [h, h3, h2]
theorem stepU_rune {k x : Nat} {u : List Nat} (h : escF k = none) (hk : k ≠ 120) (h2 : numB u (dcB k) = some x) (hr : runeN x = true) : stepU (92 :: k :: u) = some (encN x, 2 + dcB k) := by
  unfold stepU; simp [h, h2, hk, hr]
theorem stepU_no {k x : Nat} {u : List Nat} (h : escF k = none) (hk : k ≠ 120) (h2 : numB u (dcB k) = some x) (hr : runeN x = false) : stepU (92 :: k :: u) = none := by
  unfold stepU; simp [h, h2, hk, hr]
def unF : Nat → List Nat → Option (List Nat)
  | 0, _ => some []
  | f + 1, L => if L = [] then some [] else match stepU L with
    | none => none
    | some (o, n) => (unF f (L.drop n)).map (o ++ ·)
def unL (L : List Nat) : Option (List Nat) := unF L.length L
theorem numB_len {L : List Nat} {k m : Nat} (h : numB L k = some m) : k ≤ L.length ∧ k ≠ 0 := by
  unfold numB at h
  split at h
  · cases h
  · omega
theorem escF_lt {c b : Nat} (h : escF c = some b) : b < 256 := by
  unfold escF at h
  repeat' split at h
  all_goals (cases h)
  all_goals omega
theorem hexG_two {u : List Nat} {x : Nat} (h : numB u 2 = some x) : x < 256 := by
  unfold numB at h
  split at h
  · cases h
  · have := hexG_lt (k := 1) _ 0 x (by omega) h
    have h3 : (16 : Nat) ^ (u.take 2).length ≤ 16 ^ 2 := Nat.pow_le_pow_right (by omega) (by rw [List.length_take]; omega)
    omega
theorem runeN_le {x : Nat} (h : runeN x = true) : x ≤ 1114111 := (of_decide_eq_true h).1
theorem stepU_size {L o : List Nat} {n : Nat} (hb : Byt L) (h : stepU L = some (o, n)) : 1 ≤ n ∧ n ≤ L.length ∧ o.length ≤ 4 * n ∧ Byt o := by
  unfold stepU at h
  cases L with
  | nil => cases h
  | cons c t =>
    simp only at h
    split at h
    · cases h
    · split at h
      · cases h
        exact ⟨by omega, by simp, by simp, Byt.cons (hb c (by simp)) Byt.nil⟩
      · cases t with
        | nil => cases h
        | cons k u =>
          simp only at h
          cases he : escF k with
          | some b =>
            rw [he] at h
            cases h
            exact ⟨by omega, by simp, by simp, Byt.cons (escF_lt he) Byt.nil⟩
          | none =>
            rw [he] at h
            simp only at h
            cases hn : numB u (dcB k) with
            | none => rw [hn] at h; cases h
            | some x =>
              rw [hn] at h
              simp only at h
              have hl := numB_len hn
              split at h
              · rename_i hk
                cases h
                subst hk
                exact ⟨by omega, by simp only [List.length_cons]; omega, by simp; omega, Byt.cons (hexG_two hn) Byt.nil⟩
              · split at h
                · rename_i hr
                  cases h
                  have := encN_len x
                  exact ⟨by omega, by simp only [List.length_cons]; omega, by omega, encN_byt (runeN_le hr)⟩
                · cases h
theorem unF_more (f : Nat) : ∀ (g : Nat) (L : List Nat), Byt L → L.length ≤ f → L.length ≤ g → unF f L = unF g L := by
  induction f with
  | zero =>
    intro g L _ h1 _
    have : L = [] := List.eq_nil_of_length_eq_zero (by omega)
    subst this
    cases g <;> simp [unF]
  | succ f ih =>
    intro g L hb h1 h2
    cases g with
    | zero =>
      have : L = [] := List.eq_nil_of_length_eq_zero (by omega)
      subst this
      simp [unF]
    | succ g =>
      simp only [unF]
      by_cases hL : L = []
      · rw [if_pos hL, if_pos hL]
      · rw [if_neg hL, if_neg hL]
        cases hs : stepU L with
        | none => rfl
        | some p =>
          obtain ⟨o, n⟩ := p
          have := stepU_size hb hs
          simp only
          rw [ih g (L.drop n) (hb.drop n) (by rw [List.length_drop]; omega) (by rw [List.length_drop]; omega)]
theorem unL_nil : unL [] = some [] := rfl
theorem unL_cons {L : List Nat} (hb : Byt L) (h : L ≠ []) : unL L = match stepU L with
    | none => none
    | some (o, n) => (unL (L.drop n)).map (o ++ ·) := by
  unfold unL
  cases hL : L.length with
  | zero => exact absurd (List.eq_nil_of_length_eq_zero hL) h
  | succ m =>
    simp only [unF]
    rw [if_neg h]
    cases hs : stepU L with
    | none => rfl
    | some p =>
      obtain ⟨o, n⟩ := p
      have := stepU_size hb hs
      simp only
      rw [unF_more m (L.drop n).length (L.drop n) (hb.drop n) (by rw [List.length_drop]; omega) (Nat.le_refl _)]
theorem unL_none {L : List Nat} (hb : Byt L) (h : L ≠ []) (hs : stepU L = none) : unL L = none := by rw [unL_cons hb h, hs]
theorem unL_some {L o : List Nat} {n : Nat} (hb : Byt L) (h : L ≠ []) (hs : stepU L = some (o, n)) : unL L = (unL (L.drop n)).map (o ++ ·) := by rw [unL_cons hb h, hs]
theorem unL_byt : ∀ (m : Nat) (L t : List Nat), L.length ≤ m → Byt L → unL L = some t → Byt t ∧ t.length ≤ 4 * L.length := by
  intro m
  induction m with
  | zero =>
    intro L t h _ hu
    have : L = [] := List.eq_nil_of_length_eq_zero (by omega)
    subst this
    cases hu
    exact ⟨Byt.nil, by simp⟩
  | succ m ih =>
    intro L t h hb hu
    by_cases hL : L = []
    · subst hL
      cases hu
      exact ⟨Byt.nil, by simp⟩
    · rw [unL_cons hb hL] at hu
      cases hs : stepU L with
      | none => rw [hs] at hu; cases hu
      | some p =>
        obtain ⟨o, n⟩ := p
        have hz := stepU_size hb hs
        rw [hs] at hu
        simp only at hu
        cases hr : unL (L.drop n) with
        | none => rw [hr] at hu; cases hu
        | some r =>
          rw [hr] at hu
          cases hu
          have h2 := ih (L.drop n) r (by rw [List.length_drop]; omega) (hb.drop n) hr
          rw [List.length_drop] at h2
          exact ⟨hz.2.2.2.app h2.1, by rw [List.length_append]; omega⟩
/-- What Unquote answers. -/
def unqL (L : List Nat) : Option (List Nat) :=
  if L.length < 2 ∨ L.getD 0 0 ≠ L.getD (L.length - 1) 0 then none
  else if L.getD 0 0 = 96 then (if 96 ∈ (L.take (L.length - 1)).drop 1 then none else some ((L.take (L.length - 1)).drop 1))
  else if L.getD 0 0 = 34 then unL ((L.take (L.length - 1)).drop 1) else none
/-- A text, or the error of what is none. -/
def UnOut (w : World) (o : Option (List Nat)) (e : Ending) (w' : World) : Prop :=
  ∃ s, e = .returned (.tuple #[.string s, .int .i64 (if o.isSome then 0 else 40)]) ∧ bl s = o.getD [] ∧ Below w.heap.size w w'

open Go.RowKit Go.Shelf

theorem enc_rune0 {v : Nat} (h : runeN v = true) : enc (v : Nat) = encN v := by
  rw [enc, runeOf, isR_nat, h, if_pos rfl, Int.toNat_natCast]
theorem rIsRune_any (r : Int) (v : Bool) (hv : isR r = v) (w : World) : Calls Tryz.prog 104 #[.int .i32 r] w fun e w' => e = .returned (.bool v) ∧ w' = w := by
  subst hv
  by_cases h0 : 0 ≤ r
  · by_cases h1 : r ≤ 1114111
    · by_cases h2 : r < 55296
      · have hR : isR r = true := decide_eq_true (by omega)
        rw [hR]
        go_enter Tryz.func104, Tryz.ntmps104
        go_wp2
        go_ret
        exact ⟨rfl, rfl⟩
      · by_cases h3 : 57343 < r
        · have hR : isR r = true := decide_eq_true (by omega)
          rw [hR]
          go_enter Tryz.func104, Tryz.ntmps104
          go_wp2
          go_ret
          exact ⟨rfl, rfl⟩
        · have hR : isR r = false := decide_eq_false (by omega)
          rw [hR]
          go_enter Tryz.func104, Tryz.ntmps104
          go_wp2
          go_ret
          exact ⟨rfl, rfl⟩
    · have hR : isR r = false := decide_eq_false (by omega)
      rw [hR]
      go_enter Tryz.func104, Tryz.ntmps104
      go_wp2
      go_ret
      exact ⟨rfl, rfl⟩
  · have hR : isR r = false := decide_eq_false (by omega)
    rw [hR]
    go_enter Tryz.func104, Tryz.ntmps104
    go_wp2
    go_ret
    exact ⟨rfl, rfl⟩
theorem six_val (v k : Nat) (h : v ≤ 1114111) : bits .and .i32 ((v : Int) / 2 ^ k) 63 = ((v / 2 ^ k % 64 : Nat) : Int) := by
  have h2 : v / 2 ^ k ≤ v := Nat.div_le_self _ _
  rw [show (v : Int) / 2 ^ k = ((v / 2 ^ k : Nat) : Int) by rw [Int.natCast_ediv, Int.natCast_pow]; rfl, and63 _ (by omega)]
theorem six_any (v k : Nat) (x : Nat) (hx : v / 2 ^ k % 64 = x) (hk : k ≤ 12) (hv : v ≤ 1114111) (w : World) :
    Calls Tryz.prog 105 #[.int .i32 (v : Int), .int .i64 (k : Int)] w fun e w' => e = .returned (.int .u8 ((128 + x : Nat) : Int)) ∧ w' = w := by
  have hk0 : (0 : Int) ≤ (k : Int) := by omega
  have hk1 : (k : Int) ≤ 12 := by omega
  have hs := six_val v k hv
  rw [hx] at hs
  have hx64 : x < 64 := by omega
  have hw1 : IntKind.i32.wrap (128 + (x : Int)) = 128 + (x : Int) := by rw [IntKind.wrap_i32]; omega
  have hw2 : IntKind.u8.wrap (128 + (x : Int)) = 128 + (x : Int) := by
    rw [show (128 : Int) + (x : Int) = ((128 + x : Nat) : Int) by omega, u8_wrap _ (by omega)]
  clear hx
  go_enter Tryz.func105, Tryz.ntmps105
  go_wp2
  go_ret
  exact ⟨by simp, rfl⟩
theorem six0 (v x : Nat) (hx : v % 64 = x) (hv : v ≤ 1114111) (w : World) : Calls Tryz.prog 105 #[.int .i32 (v : Int), .int .i64 0] w fun e w' => e = .returned (.int .u8 ((128 + x : Nat) : Int)) ∧ w' = w := six_any v 0 x (by rw [Nat.pow_zero, Nat.div_one]; exact hx) (by omega) hv w
theorem six6 (v x : Nat) (hx : v / 64 % 64 = x) (hv : v ≤ 1114111) (w : World) : Calls Tryz.prog 105 #[.int .i32 (v : Int), .int .i64 6] w fun e w' => e = .returned (.int .u8 ((128 + x : Nat) : Int)) ∧ w' = w := six_any v 6 x hx (by omega) hv w
theorem six12 (v x : Nat) (hx : v / 4096 % 64 = x) (hv : v ≤ 1114111) (w : World) : Calls Tryz.prog 105 #[.int .i32 (v : Int), .int .i64 12] w fun e w' => e = .returned (.int .u8 ((128 + x : Nat) : Int)) ∧ w' = w := six_any v 12 x hx (by omega) hv w
theorem headw (b q : Nat) (h : b + q < 256) : IntKind.i32.wrap ((b : Int) + (q : Int)) = (b : Int) + (q : Int) ∧ IntKind.u8.wrap ((b : Int) + (q : Int)) = (b : Int) + (q : Int) := by
  refine ⟨by rw [IntKind.wrap_i32]; omega, ?_⟩
  rw [show (b : Int) + (q : Int) = ((b + q : Nat) : Int) by omega, u8_wrap _ h]
set_option maxRecDepth 100000 in
set_option maxHeartbeats 4000000 in
theorem rEncode_one (v : Nat) (hR : runeN v = true) (hc : v < 128) (w : World) : Calls Tryz.prog 88 #[.int .i32 (v : Int)] w (StrOut w [v]) := by
  have hv1 := runeN_le hR
  obtain ⟨z, hz⟩ : ∃ x, v % 64 = x := ⟨_, rfl⟩
  obtain ⟨y, hy⟩ : ∃ x, v / 64 % 64 = x := ⟨_, rfl⟩
  obtain ⟨u, hu⟩ : ∃ x, v / 4096 % 64 = x := ⟨_, rfl⟩
  have HR := Lib.hid (fun w => rIsRune_any (v : Int) true (by rw [isR_nat]; exact hR) w)
  have HZ := Lib.hid (fun w => six0 v z hz hv1 w)
  have HY := Lib.hid (fun w => six6 v y hy hv1 w)
  have HU := Lib.hid (fun w => six12 v u hu hv1 w)
  have d1 : decide ((v : Int) < 128) = true := decide_eq_true (by omega)
  have kc := fun (W : World) (x0 : Int) => cv_row W #[.int .u8 x0] [x0] 1 1 rfl rfl
  have hw2 : IntKind.u8.wrap (v : Int) = (v : Int) := u8_wrap v (by omega)
  have HE : Hid ([v] = [v] ∧ Byt [v]) := Lib.hid ⟨by rfl, by intro x hx; simp at hx; omega⟩
  clear hR hc hv1 hz hy hu
  go_enter Tryz.func88, Tryz.ntmps88
  go_wp2_with fail
  with_reducible refine (HR.out _).mono ?_
  rintro e w' ⟨rfl, rfl⟩
  go_wp2_with fail
  with_reducible refine (HZ.out _).mono ?_
  rintro e w' ⟨rfl, rfl⟩
  go_wp2_with fail
  go_ret
  exact ⟨_, rfl, bl_str (by simp) HE.out.2, (Below.refl _ _).alloc (Nat.le_refl _) _⟩
set_option maxRecDepth 100000 in
set_option maxHeartbeats 4000000 in
theorem rEncode_two (v : Nat) (hR : runeN v = true) (hc : 128 ≤ v ∧ v < 2048) (w : World) : Calls Tryz.prog 88 #[.int .i32 (v : Int)] w (StrOut w [192 + v / 64, 128 + v % 64]) := by
  have hv1 := runeN_le hR
  obtain ⟨z, hz⟩ : ∃ x, v % 64 = x := ⟨_, rfl⟩
  obtain ⟨y, hy⟩ : ∃ x, v / 64 % 64 = x := ⟨_, rfl⟩
  obtain ⟨u, hu⟩ : ∃ x, v / 4096 % 64 = x := ⟨_, rfl⟩
  have HR := Lib.hid (fun w => rIsRune_any (v : Int) true (by rw [isR_nat]; exact hR) w)
  have HZ := Lib.hid (fun w => six0 v z hz hv1 w)
  have HY := Lib.hid (fun w => six6 v y hy hv1 w)
  have HU := Lib.hid (fun w => six12 v u hu hv1 w)
  have d1 : decide ((v : Int) < 128) = false := decide_eq_false (by omega)
  have d2 : decide ((v : Int) < 2048) = true := decide_eq_true (by omega)
  have kc := fun (W : World) (x0 x1 : Int) => cv_row W #[.int .u8 x0, .int .u8 x1] [x0, x1] 2 2 rfl rfl
  obtain ⟨q, hq⟩ : ∃ x, v / 64 = x := ⟨_, rfl⟩
  have hq' : (v : Int) / 64 = (q : Int) := by omega
  have hww := headw 192 q (by omega)
  have hw1 : IntKind.i32.wrap (192 + (q : Int)) = 192 + (q : Int) := hww.1
  have hw2 : IntKind.u8.wrap (192 + (q : Int)) = 192 + (q : Int) := hww.2
  clear hww
  have HE : Hid ([192 + v / 64, 128 + v % 64] = [192 + q, 128 + z] ∧ Byt [192 + q, 128 + z]) := Lib.hid ⟨by rw [hq, hz], by intro x hx; simp at hx; omega⟩
  clear hR hc hv1 hz hy hu hq
  go_enter Tryz.func88, Tryz.ntmps88
  go_wp2_with fail
  with_reducible refine (HR.out _).mono ?_
  rintro e w' ⟨rfl, rfl⟩
  go_wp2_with fail
  with_reducible refine (HZ.out _).mono ?_
  rintro e w' ⟨rfl, rfl⟩
  go_wp2_with fail
  go_ret
  rw [HE.out.1]
  exact ⟨_, rfl, bl_str (by simp) HE.out.2, (Below.refl _ _).alloc (Nat.le_refl _) _⟩
set_option maxRecDepth 100000 in
set_option maxHeartbeats 4000000 in
theorem rEncode_three (v : Nat) (hR : runeN v = true) (hc : 2048 ≤ v ∧ v < 65536) (w : World) : Calls Tryz.prog 88 #[.int .i32 (v : Int)] w (StrOut w [224 + v / 4096, 128 + v / 64 % 64, 128 + v % 64]) := by
  have hv1 := runeN_le hR
  obtain ⟨z, hz⟩ : ∃ x, v % 64 = x := ⟨_, rfl⟩
  obtain ⟨y, hy⟩ : ∃ x, v / 64 % 64 = x := ⟨_, rfl⟩
  obtain ⟨u, hu⟩ : ∃ x, v / 4096 % 64 = x := ⟨_, rfl⟩
  have HR := Lib.hid (fun w => rIsRune_any (v : Int) true (by rw [isR_nat]; exact hR) w)
  have HZ := Lib.hid (fun w => six0 v z hz hv1 w)
  have HY := Lib.hid (fun w => six6 v y hy hv1 w)
  have HU := Lib.hid (fun w => six12 v u hu hv1 w)
  have d1 : decide ((v : Int) < 128) = false := decide_eq_false (by omega)
  have d2 : decide ((v : Int) < 2048) = false := decide_eq_false (by omega)
  have d3 : decide ((v : Int) < 65536) = true := decide_eq_true (by omega)
  have kc := fun (W : World) (x0 x1 x2 : Int) => cv_row W #[.int .u8 x0, .int .u8 x1, .int .u8 x2] [x0, x1, x2] 3 3 rfl rfl
  obtain ⟨q, hq⟩ : ∃ x, v / 4096 = x := ⟨_, rfl⟩
  have hq' : (v : Int) / 4096 = (q : Int) := by omega
  have hww := headw 224 q (by omega)
  have hw1 : IntKind.i32.wrap (224 + (q : Int)) = 224 + (q : Int) := hww.1
  have hw2 : IntKind.u8.wrap (224 + (q : Int)) = 224 + (q : Int) := hww.2
  clear hww
  have HE : Hid ([224 + v / 4096, 128 + v / 64 % 64, 128 + v % 64] = [224 + q, 128 + y, 128 + z] ∧ Byt [224 + q, 128 + y, 128 + z]) := Lib.hid ⟨by rw [hq, hy, hz], by intro x hx; simp at hx; omega⟩
  clear hR hc hv1 hz hy hu hq
  go_enter Tryz.func88, Tryz.ntmps88
  go_wp2_with fail
  with_reducible refine (HR.out _).mono ?_
  rintro e w' ⟨rfl, rfl⟩
  go_wp2_with fail
  with_reducible refine (HZ.out _).mono ?_
  rintro e w' ⟨rfl, rfl⟩
  go_wp2_with fail
  with_reducible refine (HY.out _).mono ?_
  rintro e w' ⟨rfl, rfl⟩
  go_wp2_with fail
  go_ret
  rw [HE.out.1]
  exact ⟨_, rfl, bl_str (by simp) HE.out.2, (Below.refl _ _).alloc (Nat.le_refl _) _⟩
set_option maxRecDepth 100000 in
set_option maxHeartbeats 4000000 in
theorem rEncode_four (v : Nat) (hR : runeN v = true) (hc : 65536 ≤ v) (w : World) : Calls Tryz.prog 88 #[.int .i32 (v : Int)] w (StrOut w [240 + v / 262144, 128 + v / 4096 % 64, 128 + v / 64 % 64, 128 + v % 64]) := by
  have hv1 := runeN_le hR
  obtain ⟨z, hz⟩ : ∃ x, v % 64 = x := ⟨_, rfl⟩
  obtain ⟨y, hy⟩ : ∃ x, v / 64 % 64 = x := ⟨_, rfl⟩
  obtain ⟨u, hu⟩ : ∃ x, v / 4096 % 64 = x := ⟨_, rfl⟩
  have HR := Lib.hid (fun w => rIsRune_any (v : Int) true (by rw [isR_nat]; exact hR) w)
  have HZ := Lib.hid (fun w => six0 v z hz hv1 w)
  have HY := Lib.hid (fun w => six6 v y hy hv1 w)
  have HU := Lib.hid (fun w => six12 v u hu hv1 w)
  have d1 : decide ((v : Int) < 128) = false := decide_eq_false (by omega)
  have d2 : decide ((v : Int) < 2048) = false := decide_eq_false (by omega)
  have d3 : decide ((v : Int) < 65536) = false := decide_eq_false (by omega)
  have kc := fun (W : World) (x0 x1 x2 x3 : Int) => cv_row W #[.int .u8 x0, .int .u8 x1, .int .u8 x2, .int .u8 x3] [x0, x1, x2, x3] 4 4 rfl rfl
  obtain ⟨q, hq⟩ : ∃ x, v / 262144 = x := ⟨_, rfl⟩
  have hq' : (v : Int) / 262144 = (q : Int) := by omega
  have hww := headw 240 q (by omega)
  have hw1 : IntKind.i32.wrap (240 + (q : Int)) = 240 + (q : Int) := hww.1
  have hw2 : IntKind.u8.wrap (240 + (q : Int)) = 240 + (q : Int) := hww.2
  clear hww
  have HE : Hid ([240 + v / 262144, 128 + v / 4096 % 64, 128 + v / 64 % 64, 128 + v % 64] = [240 + q, 128 + u, 128 + y, 128 + z] ∧ Byt [240 + q, 128 + u, 128 + y, 128 + z]) := Lib.hid ⟨by rw [hq, hu, hy, hz], by intro x hx; simp at hx; omega⟩
  clear hR hc hv1 hz hy hu hq
  go_enter Tryz.func88, Tryz.ntmps88
  go_wp2_with fail
  with_reducible refine (HR.out _).mono ?_
  rintro e w' ⟨rfl, rfl⟩
  go_wp2_with fail
  with_reducible refine (HZ.out _).mono ?_
  rintro e w' ⟨rfl, rfl⟩
  go_wp2_with fail
  with_reducible refine (HU.out _).mono ?_
  rintro e w' ⟨rfl, rfl⟩
  go_wp2_with fail
  with_reducible refine (HY.out _).mono ?_
  rintro e w' ⟨rfl, rfl⟩
  go_wp2_with fail
  go_ret
  rw [HE.out.1]
  exact ⟨_, rfl, bl_str (by simp) HE.out.2, (Below.refl _ _).alloc (Nat.le_refl _) _⟩
set_option maxRecDepth 100000 in
set_option maxHeartbeats 4000000 in
theorem rEncode_bad (r : Int) (hr : isR r = false) (w : World) : Calls Tryz.prog 88 #[.int .i32 r] w (StrOut w [239, 191, 189]) := by
  have HR := Lib.hid (fun w => rIsRune_any r false hr w)
  have HZ := Lib.hid (fun w => six0 65533 61 (by decide) (by decide) w)
  have HY := Lib.hid (fun w => six6 65533 63 (by decide) (by decide) w)
  have kc := fun (W : World) (x0 x1 x2 : Int) => cv_row W #[.int .u8 x0, .int .u8 x1, .int .u8 x2] [x0, x1, x2] 3 3 rfl rfl
  go_enter Tryz.func88, Tryz.ntmps88
  go_wp2_with fail
  with_reducible refine (HR.out _).mono ?_
  rintro e w' ⟨rfl, rfl⟩
  go_wp2_with fail
  refine (HZ.out _).mono ?_
  rintro e w' ⟨rfl, rfl⟩
  go_wp2_with fail
  refine (HY.out _).mono ?_
  rintro e w' ⟨rfl, rfl⟩
  go_wp2_with fail
  go_ret
  exact ⟨_, rfl, bl_str (by rfl) (by intro x hx; simp at hx; omega), (Below.refl _ _).alloc (Nat.le_refl _) _⟩
theorem rEncode_any (r : Int) (w : World) : Calls Tryz.prog 88 #[.int .i32 r] w (StrOut w (enc r)) := by
  by_cases hR : isR r = true
  · have h := of_decide_eq_true hR
    obtain ⟨v, rfl⟩ := Int.eq_ofNat_of_zero_le h.1
    have hN : runeN v = true := by rw [← isR_nat]; exact hR
    rw [enc_rune0 hN]
    unfold encN
    by_cases h1 : v < 128
    · rw [if_pos h1]; exact rEncode_one v hN h1 w
    · rw [if_neg h1]
      by_cases h2 : v < 2048
      · rw [if_pos h2]; exact rEncode_two v hN ⟨by omega, h2⟩ w
      · rw [if_neg h2]
        by_cases h3 : v < 65536
        · rw [if_pos h3]; exact rEncode_three v hN ⟨by omega, h3⟩ w
        · rw [if_neg h3]; exact rEncode_four v hN (by omega) w
  · rw [enc, runeOf, if_neg hR]
    exact rEncode_bad r (by simpa using hR) w

open Go.RowKit Go.Shelf

/-- The end of Decode: what was told against the rune's own bytes. -/
theorem rest_getD {s : ByteArray} {c : Nat} {t : List Nat} (h : bl s = c :: t) (i : Nat) (hi : 1 ≤ i) (hs : i < s.size) : (s[i]'hs).toNat = t.getD (i - 1) 0 := by
  rw [bl_get, h]
  cases i with
  | zero => omega
  | succ j => rfl
theorem enc_high {c : Nat} (h : 128 ≤ c) (h2 : c < 256) : enc (c : Nat) ≠ [c] := by
  have hr : runeN c = true := decide_eq_true (by omega)
  rw [enc_rune0 hr, encN, if_neg (by omega), if_pos (by omega)]
  simp
set_option maxRecDepth 100000 in
set_option maxHeartbeats 4000000 in
theorem rDecode_low (s : ByteArray) (c : Nat) (t : List Nat) (hL : bl s = c :: t) (hc : c < 128) (w : World) : Calls Tryz.prog 63 #[.string s] w (DecOut w (c, 1)) := by
  obtain ⟨hc8, hln, h00, h0⟩ := first_byte hL
  have hne := isEmpty_no hL
  have hs0 : (0 : Int) < (s.size : Int) := by omega
  have hs1 : (1 : Int) ≤ (s.size : Int) := by omega
  have hw : IntKind.i32.wrap (c : Int) = (c : Int) := i32_wrap c (by omega)
  have d0 : decide ((192 : Int) ≤ (c : Int)) = false := decide_eq_false (by omega)
  have d1 : decide ((224 : Int) ≤ (c : Int)) = false := decide_eq_false (by omega)
  have d2 : decide ((240 : Int) ≤ (c : Int)) = false := decide_eq_false (by omega)
  have d8 : decide ((s.size : Int) < 1) = false := decide_eq_false (by omega)
  have d9 : decide (s.size < 1) = false := decide_eq_false (by omega)
  have hX : bl (s.extract 0 1) = [c] := by rw [bl_extract, hL]; rfl
  have HQ : Hid (∀ S, bl S = enc (c : Nat) → (S.toList == (s.extract 0 1).toList) = true) := Lib.hid (fun S h => by rw [toList_bl, h, hX]; exact decide_eq_true (enc_one hc))
  have HE := Lib.hid (fun w => rEncode_any (c : Nat) w)
  clear hX hL hln hc hc8
  go_enter Tryz.func63, Tryz.ntmps63
  go_wp2_with fail
  go_loopw [6, 7] (fun r i wr => r = .int .i32 c ∧ i = .int .i64 1 ∧ w = wr) (fun _ _ _ => 0)
  case atStart => exact ⟨rfl, rfl, rfl⟩
  case round =>
    obtain ⟨rfl, rfl, rfl⟩ := hrel
    go_wp2_with fail
    go_region_held3 (fun w' => Below w.heap.size w w') (first | exact (Below.refl _ _).drew | assumption | exact (Below.refl _ _).drew.trans (by assumption)) ((first
      | (go_at_call 88
         with_reducible refine (HE.out _).mono ?_
         rintro e w2 ⟨S, rfl, hS, hb2⟩
         have hq := HQ.out S hS)))
    all_goals
      go_wp2
      go_ret2
      exact ⟨rfl, by assumption⟩
set_option maxRecDepth 100000 in
set_option maxHeartbeats 4000000 in
theorem rDecode_mid (s : ByteArray) (c : Nat) (t : List Nat) (hL : bl s = c :: t) (hc : 128 ≤ c ∧ c < 192) (w : World) : Calls Tryz.prog 63 #[.string s] w (DecOut w (65533, 1)) := by
  obtain ⟨hc8, hln, h00, h0⟩ := first_byte hL
  have hne := isEmpty_no hL
  have hs0 : (0 : Int) < (s.size : Int) := by omega
  have hs1 : (1 : Int) ≤ (s.size : Int) := by omega
  have hw : IntKind.i32.wrap (c : Int) = (c : Int) := i32_wrap c (by omega)
  have d0 : decide ((192 : Int) ≤ (c : Int)) = false := decide_eq_false (by omega)
  have d1 : decide ((224 : Int) ≤ (c : Int)) = false := decide_eq_false (by omega)
  have d2 : decide ((240 : Int) ≤ (c : Int)) = false := decide_eq_false (by omega)
  have d8 : decide ((s.size : Int) < 1) = false := decide_eq_false (by omega)
  have d9 : decide (s.size < 1) = false := decide_eq_false (by omega)
  have hX : bl (s.extract 0 1) = [c] := by rw [bl_extract, hL]; rfl
  have HQ : Hid (∀ S, bl S = enc (c : Nat) → (S.toList == (s.extract 0 1).toList) = false) := Lib.hid (fun S h => by rw [toList_bl, h, hX]; exact decide_eq_false (enc_high (by omega) (by omega)))
  have HE := Lib.hid (fun w => rEncode_any (c : Nat) w)
  clear hX hL hln hc hc8
  go_enter Tryz.func63, Tryz.ntmps63
  go_wp2_with fail
  go_loopw [6, 7] (fun r i wr => r = .int .i32 c ∧ i = .int .i64 1 ∧ w = wr) (fun _ _ _ => 0)
  case atStart => exact ⟨rfl, rfl, rfl⟩
  case round =>
    obtain ⟨rfl, rfl, rfl⟩ := hrel
    go_wp2_with fail
    go_region_held3 (fun w' => Below w.heap.size w w') (first | exact (Below.refl _ _).drew | assumption | exact (Below.refl _ _).drew.trans (by assumption)) ((first
      | (go_at_call 88
         with_reducible refine (HE.out _).mono ?_
         rintro e w2 ⟨S, rfl, hS, hb2⟩
         have hq := HQ.out S hS)))
    all_goals
      go_wp2
      go_ret2
      exact ⟨rfl, by assumption⟩
set_option maxRecDepth 100000 in
set_option maxHeartbeats 4000000 in
theorem rDecode_top (s : ByteArray) (c : Nat) (t : List Nat) (hL : bl s = c :: t) (hc : 248 ≤ c ∧ c < 256) (w : World) : Calls Tryz.prog 63 #[.string s] w (DecOut w (65533, 1)) := by
  obtain ⟨hc8, hln, h00, h0⟩ := first_byte hL
  have hne := isEmpty_no hL
  have hs0 : (0 : Int) < (s.size : Int) := by omega
  have hs1 : (1 : Int) ≤ (s.size : Int) := by omega
  have hw : IntKind.i32.wrap (c : Int) = (c : Int) := i32_wrap c (by omega)
  have d0 : decide ((192 : Int) ≤ (c : Int)) = true := decide_eq_true (by omega)
  have d1 : decide ((c : Int) < 224) = false := decide_eq_false (by omega)
  have d2 : decide ((224 : Int) ≤ (c : Int)) = true := decide_eq_true (by omega)
  have d3 : decide ((c : Int) < 240) = false := decide_eq_false (by omega)
  have d4 : decide ((240 : Int) ≤ (c : Int)) = true := decide_eq_true (by omega)
  have d5 : decide ((c : Int) < 248) = false := decide_eq_false (by omega)
  have d8 : decide ((s.size : Int) < 1) = false := decide_eq_false (by omega)
  have d9 : decide (s.size < 1) = false := decide_eq_false (by omega)
  have hX : bl (s.extract 0 1) = [c] := by rw [bl_extract, hL]; rfl
  have HQ : Hid (∀ S, bl S = enc (c : Nat) → (S.toList == (s.extract 0 1).toList) = false) := Lib.hid (fun S h => by rw [toList_bl, h, hX]; exact decide_eq_false (enc_high (by omega) (by omega)))
  have HE := Lib.hid (fun w => rEncode_any (c : Nat) w)
  clear hX hL hln hc hc8
  go_enter Tryz.func63, Tryz.ntmps63
  go_wp2_with fail
  go_loopw [6, 7] (fun r i wr => r = .int .i32 c ∧ i = .int .i64 1 ∧ w = wr) (fun _ _ _ => 0)
  case atStart => exact ⟨rfl, rfl, rfl⟩
  case round =>
    obtain ⟨rfl, rfl, rfl⟩ := hrel
    go_wp2_with fail
    go_region_held3 (fun w' => Below w.heap.size w w') (first | exact (Below.refl _ _).drew | assumption | exact (Below.refl _ _).drew.trans (by assumption)) ((first
      | (go_at_call 88
         with_reducible refine (HE.out _).mono ?_
         rintro e w2 ⟨S, rfl, hS, hb2⟩
         have hq := HQ.out S hS)))
    all_goals
      go_wp2
      go_ret2
      exact ⟨rfl, by assumption⟩

open Go.RowKit Go.Shelf
set_option maxRecDepth 100000 in
set_option maxHeartbeats 8000000 in
theorem rDecode_2 (s : ByteArray) (hs9 : s.size ≤ 140737488351232) (c : Nat) (t : List Nat) (hL : bl s = c :: t) (hc : 192 ≤ c ∧ c < 224) (w : World) : Calls Tryz.prog 63 #[.string s] w (DecOut w (dec (c :: t))) := by
  obtain ⟨hc8, hln, h00, h0⟩ := first_byte hL
  have hne := isEmpty_no hL
  have hs0 : (0 : Int) < (s.size : Int) := by omega
  have hw : IntKind.i32.wrap (c : Int) = (c : Int) := i32_wrap c (by omega)
  have hz : szB c = 2 := by rcases sz_cases c with h | h | h | h | h | h <;> omega
  obtain ⟨r0, hr0⟩ : ∃ r, c - 192 = r := ⟨_, rfl⟩
  have hrs : (c : Int) - 192 = (r0 : Int) := by omega
  have hrw : IntKind.i32.wrap ((c : Int) - 192) = (r0 : Int) := by rw [hrs]; exact i32_wrap r0 (by omega)
  have hhd : headB c 2 = r0 := by unfold headB; simp; omega
  have hr32 : r0 < 32 := by omega
  have d0 : decide ((192 : Int) ≤ (c : Int)) = true := decide_eq_true (by omega)
  have d1 : decide ((c : Int) < 224) = true := decide_eq_true (by omega)
  have d2 : decide ((224 : Int) ≤ (c : Int)) = false := decide_eq_false (by omega)
  have d3 : decide ((240 : Int) ≤ (c : Int)) = false := decide_eq_false (by omega)
  have HL := Lib.hid hL
  have HZ := Lib.hid hz
  have HLn := Lib.hid hln
  obtain ⟨p, hp⟩ : ∃ p, min 2 s.size = p := ⟨_, rfl⟩
  have hp1 : 1 ≤ p := by omega
  have hpn : p ≤ 2 := by omega
  have hps : p ≤ s.size := by omega
  have HP := Lib.hid hp
  have HBt : Hid (Byt t) := Lib.hid (fun x hx => bl_byt s x (by rw [hL]; simp [hx]))
  have HHd := Lib.hid hhd
  clear hp hL hz hln hc hc8 hr0 hrs hhd
  go_enter Tryz.func63, Tryz.ntmps63
  go_wp2_with fail
  clear hrw hw d0 d1 d2 d3 hne h0
  go_loopw [6, 7] (fun r i wr => ∃ j : Nat, j + 1 ≤ p ∧ i = .int .i64 ((j + 1 : Nat) : Int) ∧ r = .int .i32 (foldB r0 (t.take j) : Nat) ∧ w = wr) (fun _ i _ => p - (intOf i).toNat)
  case atStart => exact ⟨0, hp1, rfl, rfl, rfl⟩
  case round =>
    obtain ⟨j, hj, rfl, rfl, rfl⟩ := hrel
    obtain ⟨i, hi⟩ : ∃ i, j + 1 = i := ⟨_, rfl⟩
    obtain ⟨R, hR⟩ : ∃ r, foldB r0 (t.take j) = r := ⟨_, rfl⟩
    have hRl : R < 33554432 := by
      rw [← hR]
      refine Nat.lt_of_lt_of_le (foldB_lt hr32 _) ?_
      have : (t.take j).length ≤ 3 := by rw [List.length_take]; omega
      exact Nat.le_trans (Nat.mul_le_mul_left _ (Nat.pow_le_pow_right (by omega) this)) (by decide)
    rw [hi] at hj ⊢
    rw [hR]
    by_cases hlt : i < p
    · have hin : (i : Int) < 2 := by omega
      have f1 : decide ((i : Int) < 2) = true := decide_eq_true hin
      have f2 : decide ((i : Int) < (s.size : Int)) = true := decide_eq_true (by omega)
      have f3 : decide (i < s.size) = true := decide_eq_true (by omega)
      have g0 : (0 : Int) ≤ (i : Int) := by omega
      have g1 : (i : Int) < (s.size : Int) := by omega
      have his : i < s.size := by omega
      obtain ⟨B, hB⟩ : ∃ b, t.getD j 0 = b := ⟨_, rfl⟩
      have hget : (s[i]'his).toNat = B := by
        rw [rest_getD HL.out i (by omega) his, ← hB, show i - 1 = j by omega]
      have hjt : j < t.length := by have := HLn.out; omega
      have hB8 : B < 256 := by
        rw [← hB, List.getD_eq_getElem?_getD, List.getElem?_eq_getElem hjt]
        exact HBt.out _ (List.getElem_mem hjt)
      have hnx := foldB_next r0 t j hjt
      rw [hB, hR] at hnx
      obtain ⟨b6, hb6⟩ : ∃ x, B % 64 = x := ⟨_, rfl⟩
      rw [hb6] at hnx
      have q1 : bits .and .u8 (B : Int) 63 = (b6 : Int) := by
        rw [show (63 : Int) = ((63 : Nat) : Int) from rfl, and_u8 _ _ hB8 (by omega), low6, hb6]
      have q2 : IntKind.i32.wrap (b6 : Int) = (b6 : Int) := i32_wrap b6 (by omega)
      have q3 : IntKind.i32.wrap ((R : Int) * 64) = (R : Int) * 64 := by rw [IntKind.wrap_i32]; omega
      have q4 : IntKind.i32.wrap ((R : Int) * 64 + (b6 : Int)) = (R : Int) * 64 + (b6 : Int) := by rw [IntKind.wrap_i32]; omega
      have HN := Lib.hid hnx
      have HI := Lib.hid hi
      clear hnx hB hb6 hB8 hR hi hjt
      go_wp2_with fail
      exact ⟨⟨j + 1, by have := HI.out; omega, by have := HI.out; subst this; go_num, by rw [HN.out]; simp, trivial⟩, by have := HI.out; simp [intOf]; omega⟩
    · have hip : i = p := by omega
      have hm := HP.out
      by_cases hs : s.size < 2
      · have hpe : i = s.size := by omega
        have f1 : decide ((i : Int) < 2) = true := decide_eq_true (by omega)
        have f2 : decide ((i : Int) < (s.size : Int)) = false := decide_eq_false (by omega)
        have f3 : decide (i < s.size) = false := decide_eq_false (by omega)
        have f4 : decide ((s.size : Int) < 2) = true := decide_eq_true (by omega)
        have f5 : decide (s.size < 2) = true := decide_eq_true hs
        have HD : Hid (dec (c :: t) = (65533, 1)) := Lib.hid (dec_bad (by rw [HZ.out]; have := HLn.out; omega))
        clear hs hpe hip hm hlt hR hi
        go_wp2_with fail
        go_quiet (fail)
        all_goals
          go_wp2
          go_ret2
          rw [HD.out]
          exact ⟨rfl, Below.dn (Below.refl _ _) _⟩
      · have hpe : i = 2 := by omega
        have f1 : decide ((i : Int) < 2) = false := decide_eq_false (by omega)
        have f4 : decide ((s.size : Int) < 2) = false := decide_eq_false (by omega)
        have f5 : decide (s.size < 2) = false := decide_eq_false hs
        have g2 : (2 : Int) ≤ (s.size : Int) := by omega
        have hcd : candB (c :: t) = R := by
          rw [candB_long (by rw [HZ.out]; omega), HZ.out, HHd.out, ← hR, show 2 - 1 = j by omega]
        have hX : bl (s.extract 0 2) = (c :: t).take 2 := by rw [bl_extract, HL.out]; rfl
        have HE := Lib.hid (fun w => rEncode_any (R : Nat) w)
        have hsl : 2 ≤ t.length + 1 := by have := HLn.out; omega
        by_cases hE : enc (R : Nat) = (c :: t).take 2
        · have HD : Hid (dec (c :: t) = (R, 2)) := Lib.hid (by
            have := dec_yes (c := c) (t := t) (by rw [HZ.out]; omega) (by rw [HZ.out]; exact hsl) (by rw [hcd, HZ.out]; exact hE)
            rw [this, hcd, HZ.out])
          have HQ : Hid (∀ S, bl S = enc (R : Nat) → (S.toList == (s.extract 0 2).toList) = true) := Lib.hid (fun S h => by rw [toList_bl, h, hX]; exact decide_eq_true hE)
          clear hs hpe hip hm hlt hR hi hE hX hcd hsl
          go_wp2_with fail
          go_region_held3 (fun w' => Below w.heap.size w w') (first | exact (Below.refl _ _).drew | assumption | exact (Below.refl _ _).drew.trans (by assumption)) ((first
            | (go_at_call 88
               with_reducible refine (HE.out _).mono ?_
               rintro e w2 ⟨S, rfl, hS, hb2⟩
               have hq := HQ.out S hS)))
          all_goals
            go_wp2
            go_ret2
            rw [HD.out]
            exact ⟨rfl, by assumption⟩
        · have HD : Hid (dec (c :: t) = (65533, 1)) := Lib.hid (dec_no (c := c) (t := t) (by rw [hcd, HZ.out]; exact hE))
          have HQ : Hid (∀ S, bl S = enc (R : Nat) → (S.toList == (s.extract 0 2).toList) = false) := Lib.hid (fun S h => by rw [toList_bl, h, hX]; exact decide_eq_false hE)
          clear hs hpe hip hm hlt hR hi hE hX hcd hsl
          go_wp2_with fail
          go_region_held3 (fun w' => Below w.heap.size w w') (first | exact (Below.refl _ _).drew | assumption | exact (Below.refl _ _).drew.trans (by assumption)) ((first
            | (go_at_call 88
               with_reducible refine (HE.out _).mono ?_
               rintro e w2 ⟨S, rfl, hS, hb2⟩
               have hq := HQ.out S hS)))
          all_goals
            go_wp2
            go_ret2
            rw [HD.out]
            exact ⟨rfl, by assumption⟩

open Go.RowKit Go.Shelf
set_option maxRecDepth 100000 in
set_option maxHeartbeats 8000000 in
theorem rDecode_3 (s : ByteArray) (hs9 : s.size ≤ 140737488351232) (c : Nat) (t : List Nat) (hL : bl s = c :: t) (hc : 224 ≤ c ∧ c < 240) (w : World) : Calls Tryz.prog 63 #[.string s] w (DecOut w (dec (c :: t))) := by
  obtain ⟨hc8, hln, h00, h0⟩ := first_byte hL
  have hne := isEmpty_no hL
  have hs0 : (0 : Int) < (s.size : Int) := by omega
  have hw : IntKind.i32.wrap (c : Int) = (c : Int) := i32_wrap c (by omega)
  have hz : szB c = 3 := by rcases sz_cases c with h | h | h | h | h | h <;> omega
  obtain ⟨r0, hr0⟩ : ∃ r, c - 224 = r := ⟨_, rfl⟩
  have hrs : (c : Int) - 224 = (r0 : Int) := by omega
  have hrw : IntKind.i32.wrap ((c : Int) - 224) = (r0 : Int) := by rw [hrs]; exact i32_wrap r0 (by omega)
  have hhd : headB c 3 = r0 := by unfold headB; simp; omega
  have hr32 : r0 < 32 := by omega
  have d0 : decide ((192 : Int) ≤ (c : Int)) = true := decide_eq_true (by omega)
  have d1 : decide ((c : Int) < 224) = false := decide_eq_false (by omega)
  have d2 : decide ((224 : Int) ≤ (c : Int)) = true := decide_eq_true (by omega)
  have d3 : decide ((c : Int) < 240) = true := decide_eq_true (by omega)
  have d4 : decide ((240 : Int) ≤ (c : Int)) = false := decide_eq_false (by omega)
  have HL := Lib.hid hL
  have HZ := Lib.hid hz
  have HLn := Lib.hid hln
  obtain ⟨p, hp⟩ : ∃ p, min 3 s.size = p := ⟨_, rfl⟩
  have hp1 : 1 ≤ p := by omega
  have hpn : p ≤ 3 := by omega
  have hps : p ≤ s.size := by omega
  have HP := Lib.hid hp
  have HBt : Hid (Byt t) := Lib.hid (fun x hx => bl_byt s x (by rw [hL]; simp [hx]))
  have HHd := Lib.hid hhd
  clear hp hL hz hln hc hc8 hr0 hrs hhd
  go_enter Tryz.func63, Tryz.ntmps63
  go_wp2_with fail
  clear hrw hw d0 d1 d2 d3 d4 hne h0
  go_loopw [6, 7] (fun r i wr => ∃ j : Nat, j + 1 ≤ p ∧ i = .int .i64 ((j + 1 : Nat) : Int) ∧ r = .int .i32 (foldB r0 (t.take j) : Nat) ∧ w = wr) (fun _ i _ => p - (intOf i).toNat)
  case atStart => exact ⟨0, hp1, rfl, rfl, rfl⟩
  case round =>
    obtain ⟨j, hj, rfl, rfl, rfl⟩ := hrel
    obtain ⟨i, hi⟩ : ∃ i, j + 1 = i := ⟨_, rfl⟩
    obtain ⟨R, hR⟩ : ∃ r, foldB r0 (t.take j) = r := ⟨_, rfl⟩
    have hRl : R < 33554432 := by
      rw [← hR]
      refine Nat.lt_of_lt_of_le (foldB_lt hr32 _) ?_
      have : (t.take j).length ≤ 3 := by rw [List.length_take]; omega
      exact Nat.le_trans (Nat.mul_le_mul_left _ (Nat.pow_le_pow_right (by omega) this)) (by decide)
    rw [hi] at hj ⊢
    rw [hR]
    by_cases hlt : i < p
    · have hin : (i : Int) < 3 := by omega
      have f1 : decide ((i : Int) < 3) = true := decide_eq_true hin
      have f2 : decide ((i : Int) < (s.size : Int)) = true := decide_eq_true (by omega)
      have f3 : decide (i < s.size) = true := decide_eq_true (by omega)
      have g0 : (0 : Int) ≤ (i : Int) := by omega
      have g1 : (i : Int) < (s.size : Int) := by omega
      have his : i < s.size := by omega
      obtain ⟨B, hB⟩ : ∃ b, t.getD j 0 = b := ⟨_, rfl⟩
      have hget : (s[i]'his).toNat = B := by
        rw [rest_getD HL.out i (by omega) his, ← hB, show i - 1 = j by omega]
      have hjt : j < t.length := by have := HLn.out; omega
      have hB8 : B < 256 := by
        rw [← hB, List.getD_eq_getElem?_getD, List.getElem?_eq_getElem hjt]
        exact HBt.out _ (List.getElem_mem hjt)
      have hnx := foldB_next r0 t j hjt
      rw [hB, hR] at hnx
      obtain ⟨b6, hb6⟩ : ∃ x, B % 64 = x := ⟨_, rfl⟩
      rw [hb6] at hnx
      have q1 : bits .and .u8 (B : Int) 63 = (b6 : Int) := by
        rw [show (63 : Int) = ((63 : Nat) : Int) from rfl, and_u8 _ _ hB8 (by omega), low6, hb6]
      have q2 : IntKind.i32.wrap (b6 : Int) = (b6 : Int) := i32_wrap b6 (by omega)
      have q3 : IntKind.i32.wrap ((R : Int) * 64) = (R : Int) * 64 := by rw [IntKind.wrap_i32]; omega
      have q4 : IntKind.i32.wrap ((R : Int) * 64 + (b6 : Int)) = (R : Int) * 64 + (b6 : Int) := by rw [IntKind.wrap_i32]; omega
      have HN := Lib.hid hnx
      have HI := Lib.hid hi
      clear hnx hB hb6 hB8 hR hi hjt
      go_wp2_with fail
      exact ⟨⟨j + 1, by have := HI.out; omega, by have := HI.out; subst this; go_num, by rw [HN.out]; simp, trivial⟩, by have := HI.out; simp [intOf]; omega⟩
    · have hip : i = p := by omega
      have hm := HP.out
      by_cases hs : s.size < 3
      · have hpe : i = s.size := by omega
        have f1 : decide ((i : Int) < 3) = true := decide_eq_true (by omega)
        have f2 : decide ((i : Int) < (s.size : Int)) = false := decide_eq_false (by omega)
        have f3 : decide (i < s.size) = false := decide_eq_false (by omega)
        have f4 : decide ((s.size : Int) < 3) = true := decide_eq_true (by omega)
        have f5 : decide (s.size < 3) = true := decide_eq_true hs
        have HD : Hid (dec (c :: t) = (65533, 1)) := Lib.hid (dec_bad (by rw [HZ.out]; have := HLn.out; omega))
        clear hs hpe hip hm hlt hR hi
        go_wp2_with fail
        go_quiet (fail)
        all_goals
          go_wp2
          go_ret2
          rw [HD.out]
          exact ⟨rfl, Below.dn (Below.refl _ _) _⟩
      · have hpe : i = 3 := by omega
        have f1 : decide ((i : Int) < 3) = false := decide_eq_false (by omega)
        have f4 : decide ((s.size : Int) < 3) = false := decide_eq_false (by omega)
        have f5 : decide (s.size < 3) = false := decide_eq_false hs
        have g2 : (3 : Int) ≤ (s.size : Int) := by omega
        have hcd : candB (c :: t) = R := by
          rw [candB_long (by rw [HZ.out]; omega), HZ.out, HHd.out, ← hR, show 3 - 1 = j by omega]
        have hX : bl (s.extract 0 3) = (c :: t).take 3 := by rw [bl_extract, HL.out]; rfl
        have HE := Lib.hid (fun w => rEncode_any (R : Nat) w)
        have hsl : 3 ≤ t.length + 1 := by have := HLn.out; omega
        by_cases hE : enc (R : Nat) = (c :: t).take 3
        · have HD : Hid (dec (c :: t) = (R, 3)) := Lib.hid (by
            have := dec_yes (c := c) (t := t) (by rw [HZ.out]; omega) (by rw [HZ.out]; exact hsl) (by rw [hcd, HZ.out]; exact hE)
            rw [this, hcd, HZ.out])
          have HQ : Hid (∀ S, bl S = enc (R : Nat) → (S.toList == (s.extract 0 3).toList) = true) := Lib.hid (fun S h => by rw [toList_bl, h, hX]; exact decide_eq_true hE)
          clear hs hpe hip hm hlt hR hi hE hX hcd hsl
          go_wp2_with fail
          go_region_held3 (fun w' => Below w.heap.size w w') (first | exact (Below.refl _ _).drew | assumption | exact (Below.refl _ _).drew.trans (by assumption)) ((first
            | (go_at_call 88
               with_reducible refine (HE.out _).mono ?_
               rintro e w2 ⟨S, rfl, hS, hb2⟩
               have hq := HQ.out S hS)))
          all_goals
            go_wp2
            go_ret2
            rw [HD.out]
            exact ⟨rfl, by assumption⟩
        · have HD : Hid (dec (c :: t) = (65533, 1)) := Lib.hid (dec_no (c := c) (t := t) (by rw [hcd, HZ.out]; exact hE))
          have HQ : Hid (∀ S, bl S = enc (R : Nat) → (S.toList == (s.extract 0 3).toList) = false) := Lib.hid (fun S h => by rw [toList_bl, h, hX]; exact decide_eq_false hE)
          clear hs hpe hip hm hlt hR hi hE hX hcd hsl
          go_wp2_with fail
          go_region_held3 (fun w' => Below w.heap.size w w') (first | exact (Below.refl _ _).drew | assumption | exact (Below.refl _ _).drew.trans (by assumption)) ((first
            | (go_at_call 88
               with_reducible refine (HE.out _).mono ?_
               rintro e w2 ⟨S, rfl, hS, hb2⟩
               have hq := HQ.out S hS)))
          all_goals
            go_wp2
            go_ret2
            rw [HD.out]
            exact ⟨rfl, by assumption⟩

open Go.RowKit Go.Shelf
set_option maxRecDepth 100000 in
set_option maxHeartbeats 8000000 in
theorem rDecode_4 (s : ByteArray) (hs9 : s.size ≤ 140737488351232) (c : Nat) (t : List Nat) (hL : bl s = c :: t) (hc : 240 ≤ c ∧ c < 248) (w : World) : Calls Tryz.prog 63 #[.string s] w (DecOut w (dec (c :: t))) := by
  obtain ⟨hc8, hln, h00, h0⟩ := first_byte hL
  have hne := isEmpty_no hL
  have hs0 : (0 : Int) < (s.size : Int) := by omega
  have hw : IntKind.i32.wrap (c : Int) = (c : Int) := i32_wrap c (by omega)
  have hz : szB c = 4 := by rcases sz_cases c with h | h | h | h | h | h <;> omega
  obtain ⟨r0, hr0⟩ : ∃ r, c - 240 = r := ⟨_, rfl⟩
  have hrs : (c : Int) - 240 = (r0 : Int) := by omega
  have hrw : IntKind.i32.wrap ((c : Int) - 240) = (r0 : Int) := by rw [hrs]; exact i32_wrap r0 (by omega)
  have hhd : headB c 4 = r0 := by unfold headB; simp; omega
  have hr32 : r0 < 32 := by omega
  have d0 : decide ((192 : Int) ≤ (c : Int)) = true := decide_eq_true (by omega)
  have d1 : decide ((c : Int) < 224) = false := decide_eq_false (by omega)
  have d2 : decide ((224 : Int) ≤ (c : Int)) = true := decide_eq_true (by omega)
  have d3 : decide ((c : Int) < 240) = false := decide_eq_false (by omega)
  have d4 : decide ((240 : Int) ≤ (c : Int)) = true := decide_eq_true (by omega)
  have d5 : decide ((c : Int) < 248) = true := decide_eq_true (by omega)
  have HL := Lib.hid hL
  have HZ := Lib.hid hz
  have HLn := Lib.hid hln
  obtain ⟨p, hp⟩ : ∃ p, min 4 s.size = p := ⟨_, rfl⟩
  have hp1 : 1 ≤ p := by omega
  have hpn : p ≤ 4 := by omega
  have hps : p ≤ s.size := by omega
  have HP := Lib.hid hp
  have HBt : Hid (Byt t) := Lib.hid (fun x hx => bl_byt s x (by rw [hL]; simp [hx]))
  have HHd := Lib.hid hhd
  clear hp hL hz hln hc hc8 hr0 hrs hhd
  go_enter Tryz.func63, Tryz.ntmps63
  go_wp2_with fail
  clear hrw hw d0 d1 d2 d3 d4 d5 hne h0
  go_loopw [6, 7] (fun r i wr => ∃ j : Nat, j + 1 ≤ p ∧ i = .int .i64 ((j + 1 : Nat) : Int) ∧ r = .int .i32 (foldB r0 (t.take j) : Nat) ∧ w = wr) (fun _ i _ => p - (intOf i).toNat)
  case atStart => exact ⟨0, hp1, rfl, rfl, rfl⟩
  case round =>
    obtain ⟨j, hj, rfl, rfl, rfl⟩ := hrel
    obtain ⟨i, hi⟩ : ∃ i, j + 1 = i := ⟨_, rfl⟩
    obtain ⟨R, hR⟩ : ∃ r, foldB r0 (t.take j) = r := ⟨_, rfl⟩
    have hRl : R < 33554432 := by
      rw [← hR]
      refine Nat.lt_of_lt_of_le (foldB_lt hr32 _) ?_
      have : (t.take j).length ≤ 3 := by rw [List.length_take]; omega
      exact Nat.le_trans (Nat.mul_le_mul_left _ (Nat.pow_le_pow_right (by omega) this)) (by decide)
    rw [hi] at hj ⊢
    rw [hR]
    by_cases hlt : i < p
    · have hin : (i : Int) < 4 := by omega
      have f1 : decide ((i : Int) < 4) = true := decide_eq_true hin
      have f2 : decide ((i : Int) < (s.size : Int)) = true := decide_eq_true (by omega)
      have f3 : decide (i < s.size) = true := decide_eq_true (by omega)
      have g0 : (0 : Int) ≤ (i : Int) := by omega
      have g1 : (i : Int) < (s.size : Int) := by omega
      have his : i < s.size := by omega
      obtain ⟨B, hB⟩ : ∃ b, t.getD j 0 = b := ⟨_, rfl⟩
      have hget : (s[i]'his).toNat = B := by
        rw [rest_getD HL.out i (by omega) his, ← hB, show i - 1 = j by omega]
      have hjt : j < t.length := by have := HLn.out; omega
      have hB8 : B < 256 := by
        rw [← hB, List.getD_eq_getElem?_getD, List.getElem?_eq_getElem hjt]
        exact HBt.out _ (List.getElem_mem hjt)
      have hnx := foldB_next r0 t j hjt
      rw [hB, hR] at hnx
      obtain ⟨b6, hb6⟩ : ∃ x, B % 64 = x := ⟨_, rfl⟩
      rw [hb6] at hnx
      have q1 : bits .and .u8 (B : Int) 63 = (b6 : Int) := by
        rw [show (63 : Int) = ((63 : Nat) : Int) from rfl, and_u8 _ _ hB8 (by omega), low6, hb6]
      have q2 : IntKind.i32.wrap (b6 : Int) = (b6 : Int) := i32_wrap b6 (by omega)
      have q3 : IntKind.i32.wrap ((R : Int) * 64) = (R : Int) * 64 := by rw [IntKind.wrap_i32]; omega
      have q4 : IntKind.i32.wrap ((R : Int) * 64 + (b6 : Int)) = (R : Int) * 64 + (b6 : Int) := by rw [IntKind.wrap_i32]; omega
      have HN := Lib.hid hnx
      have HI := Lib.hid hi
      clear hnx hB hb6 hB8 hR hi hjt
      go_wp2_with fail
      exact ⟨⟨j + 1, by have := HI.out; omega, by have := HI.out; subst this; go_num, by rw [HN.out]; simp, trivial⟩, by have := HI.out; simp [intOf]; omega⟩
    · have hip : i = p := by omega
      have hm := HP.out
      by_cases hs : s.size < 4
      · have hpe : i = s.size := by omega
        have f1 : decide ((i : Int) < 4) = true := decide_eq_true (by omega)
        have f2 : decide ((i : Int) < (s.size : Int)) = false := decide_eq_false (by omega)
        have f3 : decide (i < s.size) = false := decide_eq_false (by omega)
        have f4 : decide ((s.size : Int) < 4) = true := decide_eq_true (by omega)
        have f5 : decide (s.size < 4) = true := decide_eq_true hs
        have HD : Hid (dec (c :: t) = (65533, 1)) := Lib.hid (dec_bad (by rw [HZ.out]; have := HLn.out; omega))
        clear hs hpe hip hm hlt hR hi
        go_wp2_with fail
        go_quiet (fail)
        all_goals
          go_wp2
          go_ret2
          rw [HD.out]
          exact ⟨rfl, Below.dn (Below.refl _ _) _⟩
      · have hpe : i = 4 := by omega
        have f1 : decide ((i : Int) < 4) = false := decide_eq_false (by omega)
        have f4 : decide ((s.size : Int) < 4) = false := decide_eq_false (by omega)
        have f5 : decide (s.size < 4) = false := decide_eq_false hs
        have g2 : (4 : Int) ≤ (s.size : Int) := by omega
        have hcd : candB (c :: t) = R := by
          rw [candB_long (by rw [HZ.out]; omega), HZ.out, HHd.out, ← hR, show 4 - 1 = j by omega]
        have hX : bl (s.extract 0 4) = (c :: t).take 4 := by rw [bl_extract, HL.out]; rfl
        have HE := Lib.hid (fun w => rEncode_any (R : Nat) w)
        have hsl : 4 ≤ t.length + 1 := by have := HLn.out; omega
        by_cases hE : enc (R : Nat) = (c :: t).take 4
        · have HD : Hid (dec (c :: t) = (R, 4)) := Lib.hid (by
            have := dec_yes (c := c) (t := t) (by rw [HZ.out]; omega) (by rw [HZ.out]; exact hsl) (by rw [hcd, HZ.out]; exact hE)
            rw [this, hcd, HZ.out])
          have HQ : Hid (∀ S, bl S = enc (R : Nat) → (S.toList == (s.extract 0 4).toList) = true) := Lib.hid (fun S h => by rw [toList_bl, h, hX]; exact decide_eq_true hE)
          clear hs hpe hip hm hlt hR hi hE hX hcd hsl
          go_wp2_with fail
          go_region_held3 (fun w' => Below w.heap.size w w') (first | exact (Below.refl _ _).drew | assumption | exact (Below.refl _ _).drew.trans (by assumption)) ((first
            | (go_at_call 88
               with_reducible refine (HE.out _).mono ?_
               rintro e w2 ⟨S, rfl, hS, hb2⟩
               have hq := HQ.out S hS)))
          all_goals
            go_wp2
            go_ret2
            rw [HD.out]
            exact ⟨rfl, by assumption⟩
        · have HD : Hid (dec (c :: t) = (65533, 1)) := Lib.hid (dec_no (c := c) (t := t) (by rw [hcd, HZ.out]; exact hE))
          have HQ : Hid (∀ S, bl S = enc (R : Nat) → (S.toList == (s.extract 0 4).toList) = false) := Lib.hid (fun S h => by rw [toList_bl, h, hX]; exact decide_eq_false hE)
          clear hs hpe hip hm hlt hR hi hE hX hcd hsl
          go_wp2_with fail
          go_region_held3 (fun w' => Below w.heap.size w w') (first | exact (Below.refl _ _).drew | assumption | exact (Below.refl _ _).drew.trans (by assumption)) ((first
            | (go_at_call 88
               with_reducible refine (HE.out _).mono ?_
               rintro e w2 ⟨S, rfl, hS, hb2⟩
               have hq := HQ.out S hS)))
          all_goals
            go_wp2
            go_ret2
            rw [HD.out]
            exact ⟨rfl, by assumption⟩

open Go.RowKit Go.Shelf
theorem rDecode_any (s : ByteArray) (hs : s.size ≤ 140737488351232) (w : World) : Calls Tryz.prog 63 #[.string s] w (DecOut w (dec (bl s))) := by
  cases hL : bl s with
  | nil =>
    have he : s = ByteArray.empty := bl_nil.2 hL
    subst he
    go_enter Tryz.func63, Tryz.ntmps63
    go_wp2
    go_ret2
    exact ⟨rfl, Below.refl _ _⟩
  | cons c t =>
    obtain ⟨hc8, _, _, _⟩ := first_byte hL
    rcases sz_cases c with ⟨h1, h2⟩ | ⟨h1, h2, h3⟩ | ⟨h1, h2, h3⟩ | ⟨h1, h2, h3⟩ | ⟨h1, h2, h3⟩ | ⟨h1, h2⟩
    · rw [dec_one h1]; exact rDecode_low s c t hL h1 w
    · rw [dec_bad (Or.inl h3)]; exact rDecode_mid s c t hL ⟨h1, h2⟩ w
    · exact rDecode_2 s hs c t hL ⟨h1, h2⟩ w
    · exact rDecode_3 s hs c t hL ⟨h1, h2⟩ w
    · exact rDecode_4 s hs c t hL ⟨h1, h2⟩ w
    · rw [dec_bad (Or.inl h2)]; exact rDecode_top s c t hL ⟨h1, hc8⟩ w

open Go.RowKit Go.Shelf

theorem own32_on {w w' : World} {base n : Nat} {v : Value} {xs : List Value} (h : w.ownsRow base 21 1 v n xs) (hb : Below w.heap.size w w') : w'.ownsRow base 21 1 v n xs :=
  h.kept (row := none) ⟨hb.os, hb.tape, hb.output, hb.size, fun j hj _ => hb.block j hj⟩ (by rcases h : v.ownBlock with _ | g <;> simp)
theorem rEnc_get (l : List (List Nat × Nat)) (j : Nat) (h : j < l.length) : (l.map rEnc)[j]? = some (.int .i32 ((l.getD j ([], 0)).2 : Int)) := by
  simp [rEnc, List.getD_eq_getElem?_getD, List.getElem?_map, List.getElem?_eq_getElem h]

open Go.RowKit Go.Shelf

theorem enc_rune {v : Nat} (h : runeN v = true) : enc (v : Nat) = encN v := by
  rw [enc, runeOf, isR_nat, h, if_pos rfl, Int.toNat_natCast]
theorem dec_enc {v : Nat} (h : runeN v = true) (rest : List Nat) : dec (encN v ++ rest) = (v, (encN v).length) := by
  have hv := of_decide_eq_true h
  have hE := enc_rune h
  by_cases h1 : v < 128
  · have e : encN v = [v] := by rw [encN, if_pos h1]
    rw [e]
    exact dec_one h1
  · by_cases h2 : v < 2048
    · have e : encN v = [192 + v / 64, 128 + v % 64] := by rw [encN, if_neg h1, if_pos h2]
      have hs : szB (192 + v / 64) = 2 := by rcases sz_cases (192 + v / 64) with h | h | h | h | h | h <;> omega
      have hc : candB ((192 + v / 64) :: (128 + v % 64) :: rest) = v := by
        rw [candB_long (by omega), hs]
        simp [foldB, headB]
        omega
      rw [e] at hE ⊢
      have := dec_yes (c := 192 + v / 64) (t := (128 + v % 64) :: rest) (by omega) (by simp [hs]) (by rw [hc, hs, hE]; rfl)
      rw [hc, hs] at this
      exact this
    · by_cases h3 : v < 65536
      · have e : encN v = [224 + v / 4096, 128 + v / 64 % 64, 128 + v % 64] := by rw [encN, if_neg h1, if_neg h2, if_pos h3]
        have hs : szB (224 + v / 4096) = 3 := by rcases sz_cases (224 + v / 4096) with h | h | h | h | h | h <;> omega
        have hc : candB ((224 + v / 4096) :: (128 + v / 64 % 64) :: (128 + v % 64) :: rest) = v := by
          rw [candB_long (by omega), hs]
          simp [foldB, headB]
          omega
        rw [e] at hE ⊢
        have := dec_yes (c := 224 + v / 4096) (t := (128 + v / 64 % 64) :: (128 + v % 64) :: rest) (by omega) (by simp [hs]) (by rw [hc, hs, hE]; rfl)
        rw [hc, hs] at this
        exact this
      · have e : encN v = [240 + v / 262144, 128 + v / 4096 % 64, 128 + v / 64 % 64, 128 + v % 64] := by rw [encN, if_neg h1, if_neg h2, if_neg h3]
        have hs : szB (240 + v / 262144) = 4 := by rcases sz_cases (240 + v / 262144) with h | h | h | h | h | h <;> omega
        have hc : candB ((240 + v / 262144) :: (128 + v / 4096 % 64) :: (128 + v / 64 % 64) :: (128 + v % 64) :: rest) = v := by
          rw [candB_long (by omega), hs]
          simp [foldB, headB]
          omega
        rw [e] at hE ⊢
        have := dec_yes (c := 240 + v / 262144) (t := (128 + v / 4096 % 64) :: (128 + v / 64 % 64) :: (128 + v % 64) :: rest) (by omega) (by simp [hs]) (by rw [hc, hs, hE]; rfl)
        rw [hc, hs] at this
        exact this
theorem encN_ne (v : Nat) : encN v ≠ [] := by have := encN_len v; intro e; rw [e] at this; simp at this
/-- The first rune of bytes: one that is told by its bytes, or a byte that is none's. -/
theorem dec_cases {c : Nat} {t : List Nat} : (∃ v, runeN v = true ∧ (c :: t).take (encN v).length = encN v ∧ dec (c :: t) = (v, (encN v).length)) ∨ (dec (c :: t) = (65533, 1) ∧ 128 ≤ c) := by
  by_cases hb : szB c = 0 ∨ t.length + 1 < szB c
  · refine .inr ⟨dec_bad hb, ?_⟩
    rcases sz_cases c with h | h | h | h | h | h <;> omega
  · by_cases hE : enc (candB (c :: t) : Nat) = (c :: t).take (szB c)
    · have hd := dec_yes (c := c) (t := t) (by omega) (by omega) hE
      have hlen : (enc (candB (c :: t) : Nat)).length = szB c := by
        rw [hE, List.length_take, List.length_cons]; omega
      obtain ⟨v, hv⟩ : ∃ v, runeOf (candB (c :: t) : Nat) = v := ⟨_, rfl⟩
      have hvr : runeN v = true := by rw [← hv]; exact (runeOf_le _).2
      have hEv : enc (candB (c :: t) : Nat) = encN v := by rw [enc, hv]
      rw [hEv] at hE hlen
      have hsplit : c :: t = encN v ++ (c :: t).drop (szB c) := by rw [hE, List.take_append_drop]
      have hd2 := dec_enc hvr ((c :: t).drop (szB c))
      rw [← hsplit] at hd2
      exact .inl ⟨v, hvr, by rw [hlen, ← hE], hd2⟩
    · refine .inr ⟨dec_no hE, ?_⟩
      rcases Nat.lt_or_ge c 128 with hc | hc
      · exfalso
        have hs : szB c = 1 := by rw [szB, if_pos hc]
        have hcand : candB (c :: t) = c := by simp only [candB, hs, if_pos]
        rw [hcand, hs, enc_one hc] at hE
        exact hE rfl
      · exact hc
theorem encN_high {v : Nat} (h : 128 ≤ v) : ∀ b ∈ encN v, 128 ≤ b := by
  intro b hb
  unfold encN at hb
  rw [if_neg (by omega)] at hb
  split at hb
  · simp at hb; omega
  · split at hb <;> (simp at hb; omega)
/-- A part of a text: a byte below 128, a rune's bytes, or a byte that is none's. -/
def Good (x : List Nat × Nat) : Prop := (x.2 < 128 ∧ x.1 = [x.2]) ∨ (128 ≤ x.2 ∧ runeN x.2 = true ∧ x.1 = encN x.2) ∨ (x.2 = 65533 ∧ ∃ b, x.1 = [b] ∧ 128 ≤ b ∧ b < 256)
theorem good_first {c : Nat} {t : List Nat} (hc : c < 256) : Good ((c :: t).take (dec (c :: t)).2, (dec (c :: t)).1) := by
  rcases dec_cases (c := c) (t := t) with ⟨v, hv, ht, hd⟩ | ⟨hd, hc2⟩
  · rw [hd]
    simp only
    rw [ht]
    by_cases h1 : v < 128
    · exact .inl ⟨h1, by rw [encN, if_pos h1]⟩
    · exact .inr (.inl ⟨by simp; omega, hv, rfl⟩)
  · rw [hd]
    exact .inr (.inr ⟨rfl, c, rfl, hc2, hc⟩)
theorem parts_good : ∀ (n : Nat) (L : List Nat), L.length ≤ n → Byt L → ∀ x ∈ parts L, Good x := by
  intro n
  induction n with
  | zero =>
    intro L h _ x hx
    have : L = [] := List.eq_nil_of_length_eq_zero (by omega)
    subst this
    cases hx
  | succ n ih =>
    intro L h hb x hx
    cases L with
    | nil => cases hx
    | cons c t =>
      have hd := dec_size (L := c :: t) (by simp)
      rw [parts_cons (by simp)] at hx
      rcases List.mem_cons.1 hx with rfl | h2
      · exact good_first (hb c (by simp))
      · exact ih _ (by rw [List.length_drop]; omega) (hb.drop _) x h2
theorem parts_bytes : ∀ (n : Nat) (L : List Nat), L.length ≤ n → (parts L).flatMap Prod.fst = L := by
  intro n
  induction n with
  | zero =>
    intro L h
    have : L = [] := List.eq_nil_of_length_eq_zero (by omega)
    subst this
    rfl
  | succ n ih =>
    intro L h
    by_cases hL : L = []
    · subst hL; rfl
    · have hd := dec_size hL
      rw [parts_cons hL, List.flatMap_cons, ih _ (by rw [List.length_drop]; omega), List.take_append_drop]
theorem digV_hx {d : Nat} (h : d < 16) : digV (hx d) = some d := by
  have : ∀ d : Fin 16, digV (hx d.val) = some d.val := by decide
  exact this ⟨d, h⟩
theorem hex_num {b : Nat} (h : b < 256) (rest : List Nat) : numB (hx (b / 16) :: hx (b % 16) :: rest) 2 = some b := by
  rw [numB, if_neg (by simp)]
  simp only [List.take_succ_cons, List.take_zero, hexG, digV_hx (show b / 16 < 16 by omega), digV_hx (show b % 16 < 16 by omega)]
  congr 1
  omega
/-- Bytes that stand for themselves. -/
theorem unL_plain : ∀ (l rest : List Nat), Byt l → Byt rest → (∀ b ∈ l, b ≠ 34 ∧ b ≠ 10 ∧ b ≠ 92) → unL (l ++ rest) = (unL rest).map (l ++ ·) := by
  intro l
  induction l with
  | nil => intro rest _ _ _; simp
  | cons c t ih =>
    intro rest h1 h2 h3
    have hc := h3 c (by simp)
    have hs : stepU (c :: (t ++ rest)) = some ([c], 1) := stepU_one (by omega) hc.2.2
    rw [List.cons_append, unL_some (Byt.cons (h1 c (by simp)) (Byt.app (fun x hx => h1 x (by simp [hx])) h2)) (by simp) hs]
    simp only [List.drop_succ_cons, List.drop_zero]
    rw [ih rest (fun x hx => h1 x (by simp [hx])) h2 (fun b hb => h3 b (by simp [hb])), Option.map_map]
    rfl
theorem unL_two {k b : Nat} {rest : List Nat} (hk : k < 256) (hr : Byt rest) (h : escF k = some b) : unL (92 :: k :: rest) = (unL rest).map ([b] ++ ·) := by
  rw [unL_some (Byt.cons (by omega) (Byt.cons hk hr)) (by simp) (stepU_esc h)]
  rfl
theorem unL_hex {b : Nat} {rest : List Nat} (hb : b < 256) (hr : Byt rest) : unL (92 :: 120 :: hx (b / 16) :: hx (b % 16) :: rest) = (unL rest).map ([b] ++ ·) := by
  rw [unL_some (Byt.cons (by omega) (Byt.cons (by omega) (Byt.cons (hx_lt (by omega)) (Byt.cons (hx_lt (by omega)) hr)))) (by simp) (stepU_x (hex_num hb rest))]
  rfl
theorem good_byt {x : List Nat × Nat} (h : Good x) : Byt x.1 := by
  rcases h with ⟨h1, h2⟩ | ⟨_, h2, h3⟩ | ⟨_, b, h2, _, h4⟩
  · rw [h2]; exact Byt.cons (by omega) Byt.nil
  · rw [h3]; exact encN_byt (runeN_le h2)
  · rw [h2]; exact Byt.cons h4 Byt.nil
theorem unL_piece {x : List Nat × Nat} (h : Good x) {rest : List Nat} (hr : Byt rest) : unL (qB x ++ rest) = (unL rest).map (x.1 ++ ·) := by
  unfold qB
  by_cases q1 : x.2 = 34 ∨ x.2 = 92
  · rw [if_pos q1]
    rcases h with ⟨h1, h2⟩ | ⟨h1, _⟩ | ⟨h1, _⟩
    · rw [h2]
      rcases q1 with q | q <;> rw [q]
      · exact unL_two (by omega) hr (by decide)
      · exact unL_two (by omega) hr (by decide)
    · omega
    · omega
  · rw [if_neg q1]
    by_cases q2 : x.2 = 10
    · rw [if_pos q2]
      rcases h with ⟨h1, h2⟩ | ⟨h1, _⟩ | ⟨h1, _⟩
      · rw [h2, q2]; exact unL_two (by omega) hr (by decide)
      · omega
      · omega
    · rw [if_neg q2]
      by_cases q3 : x.2 = 13
      · rw [if_pos q3]
        rcases h with ⟨h1, h2⟩ | ⟨h1, _⟩ | ⟨h1, _⟩
        · rw [h2, q3]; exact unL_two (by omega) hr (by decide)
        · omega
        · omega
      · rw [if_neg q3]
        by_cases q4 : x.2 = 9
        · rw [if_pos q4]
          rcases h with ⟨h1, h2⟩ | ⟨h1, _⟩ | ⟨h1, _⟩
          · rw [h2, q4]; exact unL_two (by omega) hr (by decide)
          · omega
          · omega
        · rw [if_neg q4]
          by_cases q5 : x.2 < 32 ∨ x.2 = 127 ∨ (x.2 = 65533 ∧ x.1.length = 1)
          · rw [if_pos q5]
            have h1 : ∃ b, x.1 = [b] ∧ b < 256 := by
              rcases h with ⟨h1, h2⟩ | ⟨h1, h2, h3⟩ | ⟨h1, b, h2, _, h4⟩
              · exact ⟨_, h2, by omega⟩
              · exfalso
                rcases q5 with q | q | ⟨q, ql⟩
                · omega
                · omega
                · rw [h3, q] at ql
                  exact absurd ql (by decide)
              · exact ⟨b, h2, h4⟩
            obtain ⟨b, h2, h3⟩ := h1
            rw [h2]
            exact unL_hex h3 hr
          · rw [if_neg q5]
            refine unL_plain _ _ (good_byt h) hr (fun b hb => ?_)
            rcases h with ⟨h1, h2⟩ | ⟨h1, h2, h3⟩ | ⟨h1, b', h2, h3, h4⟩
            · rw [h2] at hb; simp at hb; omega
            · rw [h3] at hb
              have := encN_high h1 b hb
              omega
            · rw [h2] at hb; simp at hb; omega
theorem unL_flat : ∀ (l : List (List Nat × Nat)) (rest : List Nat), (∀ x ∈ l, Good x) → Byt rest → unL (qFlat l ++ rest) = (unL rest).map (l.flatMap Prod.fst ++ ·) := by
  intro l
  induction l with
  | nil => intro rest _ _; simp [qFlat]
  | cons x t ih =>
    intro rest hg hr
    have hb : Byt (qFlat t ++ rest) := (qFlat_byt (fun y hy => good_byt (hg y (by simp [hy])))).app hr
    show unL ((qB x ++ qFlat t) ++ rest) = _
    rw [List.append_assoc, unL_piece (hg x (by simp)) hb, ih rest (fun y hy => hg y (by simp [hy])) hr, Option.map_map]
    congr 1
    funext z
    simp

open Go.RowKit Go.Shelf

theorem good_le4 {x : List Nat × Nat} (h : Good x) : 1 ≤ x.1.length ∧ x.1.length ≤ 4 := by
  rcases h with ⟨_, h⟩ | ⟨_, _, h⟩ | ⟨_, b, h, _⟩
  · rw [h]; simp
  · rw [h]; exact encN_len _
  · rw [h]; simp
theorem qB_ge {x : List Nat × Nat} (h : Good x) : x.1.length ≤ (qB x).length ∧ (qB x).length ≤ 4 * x.1.length := by
  have h4 := good_le4 h
  have h1 : x.2 < 128 → x.1.length = 1 := fun hx => by
    rcases h with ⟨_, h⟩ | ⟨h, _⟩ | ⟨h, _⟩
    · rw [h]; rfl
    · omega
    · omega
  unfold qB
  by_cases q1 : x.2 = 34 ∨ x.2 = 92
  · rw [if_pos q1]; have := h1 (by omega); simp; omega
  · rw [if_neg q1]
    by_cases q2 : x.2 = 10
    · rw [if_pos q2]; have := h1 (by omega); simp; omega
    · rw [if_neg q2]
      by_cases q3 : x.2 = 13
      · rw [if_pos q3]; have := h1 (by omega); simp; omega
      · rw [if_neg q3]
        by_cases q4 : x.2 = 9
        · rw [if_pos q4]; have := h1 (by omega); simp; omega
        · rw [if_neg q4]
          by_cases q5 : x.2 < 32 ∨ x.2 = 127 ∨ (x.2 = 65533 ∧ x.1.length = 1)
          · rw [if_pos q5]
            have : x.1.length = 1 := by
              rcases q5 with q | q | q
              · exact h1 (by omega)
              · exact h1 (by omega)
              · exact q.2
            simp; omega
          · rw [if_neg q5]; omega
theorem flat_ge : ∀ (l : List (List Nat × Nat)), (∀ x ∈ l, Good x) → (l.flatMap Prod.fst).length ≤ (qFlat l).length ∧ (qFlat l).length ≤ 4 * (l.flatMap Prod.fst).length := by
  intro l
  induction l with
  | nil => intro _; simp [qFlat]
  | cons x t ih =>
    intro h
    have h1 := qB_ge (h x (by simp))
    have h2 := ih (fun y hy => h y (by simp [hy]))
    simp only [qFlat, List.flatMap_cons, List.length_append] at h2 ⊢
    omega
theorem quote_len {L : List Nat} (hb : Byt L) : L.length + 2 ≤ (quoteL L).length ∧ (quoteL L).length ≤ 4 * L.length + 2 := by
  have h := flat_ge (parts L) (parts_good _ L (Nat.le_refl _) hb)
  rw [parts_bytes _ L (Nat.le_refl _)] at h
  simp only [quoteL, List.length_cons, List.length_append, List.length_nil]
  omega
theorem quoteL_byt {L : List Nat} (hb : Byt L) : Byt (quoteL L) :=
  Byt.cons (by omega) ((qFlat_byt (fun x hx => good_byt (parts_good _ L (Nat.le_refl _) hb x hx))).app (Byt.cons (by omega) Byt.nil))
theorem wrap_getD (a z : Nat) (M : List Nat) : (a :: (M ++ [z])).length = M.length + 2 ∧ (a :: (M ++ [z])).getD 0 0 = a ∧ (a :: (M ++ [z])).getD ((a :: (M ++ [z])).length - 1) 0 = z ∧ ((a :: (M ++ [z])).take ((a :: (M ++ [z])).length - 1)).drop 1 = M := by
  refine ⟨by simp, rfl, ?_, ?_⟩
  · simp [List.getD_eq_getElem?_getD]
  · simp
theorem unq_wrap (q : Nat) (I : List Nat) : unqL (q :: (I ++ [q])) = if q = 96 then (if 96 ∈ I then none else some I) else if q = 34 then unL I else none := by
  obtain ⟨h1, h2, h3, h4⟩ := wrap_getD q q I
  unfold unqL
  rw [h2, h3, h4, h1, if_neg (by omega)]
theorem unq_apart {a z : Nat} (M : List Nat) (h : a ≠ z) : unqL (a :: (M ++ [z])) = none := by
  obtain ⟨h1, h2, h3, _⟩ := wrap_getD a z M
  unfold unqL
  rw [h2, h3, if_pos (Or.inr h)]
theorem unq_short {L : List Nat} (h : L.length < 2) : unqL L = none := by unfold unqL; rw [if_pos (Or.inl h)]
theorem unq_quote {L : List Nat} (hb : Byt L) : unqL (quoteL L) = some L := by
  rw [quoteL, unq_wrap, if_neg (by omega), if_pos rfl]
  have := unL_flat (parts L) [] (parts_good _ L (Nat.le_refl _) hb) Byt.nil
  rw [List.append_nil] at this
  rw [this, unL_nil, parts_bytes _ L (Nat.le_refl _)]
  simp
theorem unL_bad34 {rest : List Nat} (h : Byt rest) : unL (34 :: rest) = none := unL_none (Byt.cons (by omega) h) (by simp) (stepU_bad (Or.inl rfl))
theorem two_quotes {L M : List Nat} (hL : Byt L) (hM : Byt M) : unqL (quoteL L ++ quoteL M) = none := by
  have hg := parts_good _ L (Nat.le_refl _) hL
  have e : quoteL L ++ quoteL M = 34 :: ((qFlat (parts L) ++ (34 :: 34 :: qFlat (parts M))) ++ [34]) := by simp [quoteL]
  have hb : Byt (34 :: qFlat (parts M)) := Byt.cons (by omega) (qFlat_byt (fun x hx => good_byt (parts_good _ M (Nat.le_refl _) hM x hx)))
  rw [e, unq_wrap, if_neg (by omega), if_pos rfl, unL_flat _ _ hg (Byt.cons (by omega) hb), unL_bad34 hb]
  rfl
theorem hx_ne {d : Nat} (h : d < 16) : hx d ≠ 34 := by unfold hx; split <;> omega
/-- A piece begins with no quote; it ends with one only if it is a quote's. -/
theorem qB_ends {x : List Nat × Nat} (h : Good x) : ∃ a M, qB x = a :: M ∧ a ≠ 34 ∧ ∀ N z, qB x = N ++ [z] → z = 34 → qB x = [92, 34] := by
  have hlast : ∀ (l : List Nat), l ≠ [34] → (∀ b ∈ l, b ≠ 34) → ∀ N z, l = N ++ [z] → z = 34 → l = [92, 34] := fun l _ hb N z e hz => by
    exfalso
    exact hb z (by rw [e]; simp) hz
  have hlow : x.2 < 128 → x.1 = [x.2] := fun hx => by
    rcases h with ⟨_, h⟩ | ⟨h, _⟩ | ⟨h, _⟩
    · exact h
    · omega
    · omega
  unfold qB
  by_cases q1 : x.2 = 34 ∨ x.2 = 92
  · rw [if_pos q1, hlow (by omega)]
    refine ⟨92, _, rfl, by omega, fun N z e hz => ?_⟩
    rcases q1 with q | q
    · rw [q]
    · rw [q] at e
      exfalso
      have := congrArg (fun l => l.getLast?) e
      simp at this
      omega
  · rw [if_neg q1]
    by_cases q2 : x.2 = 10
    · rw [if_pos q2]; exact ⟨_, _, rfl, by omega, hlast _ (by simp) (by simp)⟩
    · rw [if_neg q2]
      by_cases q3 : x.2 = 13
      · rw [if_pos q3]; exact ⟨_, _, rfl, by omega, hlast _ (by simp) (by simp)⟩
      · rw [if_neg q3]
        by_cases q4 : x.2 = 9
        · rw [if_pos q4]; exact ⟨_, _, rfl, by omega, hlast _ (by simp) (by simp)⟩
        · rw [if_neg q4]
          by_cases q5 : x.2 < 32 ∨ x.2 = 127 ∨ (x.2 = 65533 ∧ x.1.length = 1)
          · rw [if_pos q5]
            have hb0 : x.1.getD 0 0 < 256 := by
              have h4 := good_le4 h
              rw [List.getD_eq_getElem?_getD, List.getElem?_eq_getElem (by omega)]
              exact good_byt h _ (List.getElem_mem _)
            refine ⟨_, _, rfl, by omega, hlast _ (by simp) (fun b hb => ?_)⟩
            have e1 := hx_ne (show x.1.getD 0 0 / 16 < 16 by omega)
            have e2 := hx_ne (show x.1.getD 0 0 % 16 < 16 by omega)
            simp only [List.mem_cons, List.not_mem_nil, or_false] at hb
            rcases hb with rfl | rfl | rfl | rfl
            · omega
            · omega
            · exact e1
            · exact e2
          · rw [if_neg q5]
            have hall : ∀ b ∈ x.1, b ≠ 34 := fun b hb => by
              rcases h with ⟨h1, h2⟩ | ⟨h1, h2, h3⟩ | ⟨h1, b', h2, h3, h4⟩
              · rw [h2] at hb; simp at hb; omega
              · rw [h3] at hb
                have := encN_high h1 b hb
                omega
              · rw [h2] at hb; simp at hb; omega
            cases hx : x.1 with
            | nil => have := good_le4 h; rw [hx] at this; simp at this
            | cons a M =>
              rw [hx] at hall
              exact ⟨a, M, rfl, hall a (by simp), hlast _ (fun e => hall 34 (by rw [e]; simp) rfl) hall⟩
theorem cut_end {L : List Nat} (hL : Byt L) : unqL (34 :: qFlat (parts L)) = none := by
  have hg := parts_good _ L (Nat.le_refl _) hL
  rcases List.eq_nil_or_concat (parts L) with h | ⟨l, x, h⟩
  · rw [h]; exact unq_short (by simp [qFlat])
  · have h' : parts L = l ++ [x] := by rw [h, List.concat_eq_append]
    rw [h'] at hg ⊢
    have hgx := hg x (by simp)
    have hgl : ∀ y ∈ l, Good y := fun y hy => hg y (by simp [hy])
    rw [qFlat_snoc]
    obtain ⟨a, M, e, _, hend⟩ := qB_ends hgx
    rcases List.eq_nil_or_concat (qB x) with h2 | ⟨N, z, h2⟩
    · rw [e] at h2; cases h2
    · rw [List.concat_eq_append] at h2
      by_cases hz : z = 34
      · rw [hend N z h2 hz]
        rw [show 34 :: (qFlat l ++ [92, 34]) = 34 :: ((qFlat l ++ [92]) ++ [34]) by simp, unq_wrap, if_neg (by omega), if_pos rfl, unL_flat _ _ hgl (Byt.cons (by omega) Byt.nil)]
        rw [unL_none (Byt.cons (by omega) Byt.nil) (by simp) stepU_end]
        rfl
      · rw [h2, ← List.append_assoc]
        exact unq_apart _ (fun e => hz e.symm)
theorem cut_start {L : List Nat} (hL : Byt L) : unqL (qFlat (parts L) ++ [34]) = none := by
  have hg := parts_good _ L (Nat.le_refl _) hL
  cases hp : parts L with
  | nil => exact unq_short (by simp [qFlat])
  | cons x t =>
    rw [hp] at hg
    obtain ⟨a, M, e, ha, _⟩ := qB_ends (hg x (by simp))
    show unqL ((qB x ++ qFlat t) ++ [34]) = none
    rw [e, List.cons_append, List.cons_append]
    exact unq_apart _ ha

open Go.RowKit Go.Shelf

theorem qB_low {c : Nat} (t : List Nat) (h : c < 128) : qB ((c :: t).take (dec (c :: t)).2, (dec (c :: t)).1) = if c = 34 ∨ c = 92 then [92, c] else if c = 10 then [92, 110] else if c = 13 then [92, 114] else if c = 9 then [92, 116] else if c < 32 ∨ c = 127 then [92, 120, hx (c / 16), hx (c % 16)] else [c] := by
  rw [dec_one h]
  simp only [qB, List.take_succ_cons, List.take_zero, List.getD_cons_zero]
  have : (c = 65533 ∧ [c].length = 1) ↔ False := by simp; omega
  simp only [this, or_false]
theorem dec_ge {c : Nat} {t : List Nat} (h : 128 ≤ c) : 128 ≤ (dec (c :: t)).1 := by
  rcases dec_cases (c := c) (t := t) with ⟨v, hv, ht, hd⟩ | ⟨hd, _⟩
  · rw [hd]
    refine Nat.le_of_not_lt fun hlt => ?_
    have e : encN v = [v] := by rw [encN, if_pos hlt]
    rw [e] at ht
    simp at ht
    omega
  · rw [hd]; decide
theorem qB_high {c : Nat} {t : List Nat} (h : 128 ≤ c) : qB ((c :: t).take (dec (c :: t)).2, (dec (c :: t)).1) = if (dec (c :: t)).1 = 65533 ∧ (dec (c :: t)).2 = 1 then [92, 120, hx (c / 16), hx (c % 16)] else (c :: t).take (dec (c :: t)).2 := by
  have h1 := dec_ge (t := t) h
  have h2 := dec_size (L := c :: t) (by simp)
  have h3 : ((c :: t).take (dec (c :: t)).2).length = (dec (c :: t)).2 := by rw [List.length_take]; omega
  have h4 : ((c :: t).take (dec (c :: t)).2).getD 0 0 = c := by
    obtain ⟨m, hm⟩ : ∃ m, (dec (c :: t)).2 = m + 1 := ⟨(dec (c :: t)).2 - 1, by omega⟩
    rw [hm, List.take_succ_cons]; rfl
  unfold qB
  rw [h3, h4]
  dsimp only
  rw [if_neg (by omega), if_neg (by omega), if_neg (by omega), if_neg (by omega)]
  by_cases hc : (dec (c :: t)).1 = 65533 ∧ (dec (c :: t)).2 = 1
  · rw [if_pos (Or.inr (Or.inr hc)), if_pos hc]
  · rw [if_neg (by omega), if_neg hc]
theorem add_run' (a b S : ByteArray) (h : a ++ b = S) (hs : a.size + b.size ≤ 100000000) : ∀ w, Sem.run Tryz.prog (Op.stringOp .add a b) w = Result.ok (.string S) w := fun w => by
  rw [← h]; exact run_string_add_sum w a b (by omega)
theorem hex_cut (q : Nat) (h : q < 16) : bl (hexS.extract q (q + 1)) = [hx q] := by
  rw [bl_extract]
  revert q
  decide
set_option maxRecDepth 100000 in
set_option maxHeartbeats 8000000 in
theorem rQuote_any (s : ByteArray) (hs : s.size ≤ 2000000) (w : World) :
    Calls Tryz.prog 45 #[.string s] w (StrOut w (quoteL (bl s))) := by
  have HQL := Lib.hid (quote_len (bl_byt s)).2
  go_enter Tryz.func45, Tryz.ntmps45
  go_wp2
  go_loopw [0, 3] (fun p o wr => ∃ (pre : List (List Nat × Nat)) (r q : ByteArray), p = .string r ∧ o = .string q ∧ Hid (parts (bl s) = pre ++ parts (bl r)) ∧ r.size ≤ s.size ∧ Hid (bl q = 34 :: qFlat pre) ∧ Below w.heap.size w wr) (fun p _ _ => strLen p)
  case atStart => exact ⟨[], s, _, rfl, rfl, Lib.hid rfl, Nat.le_refl _, Lib.hid rfl, Below.refl _ _⟩
  case round =>
    obtain ⟨pre, r, q, rfl, rfl, HP, hr, HQ, hb⟩ := hrel
    have hx := HP.out
    have hq : q.size ≤ 8000001 := by
      have h1 := HQL.out
      have h2 : q.size = 1 + (qFlat pre).length := by rw [← bl_len, HQ.out, List.length_cons]; omega
      have h3 : (quoteL (bl s)).length = 1 + ((qFlat pre).length + (qFlat (parts (bl r))).length + 1) := by
        rw [quoteL, hx, qFlat_snoc']
        simp [qFlat]; omega
      rw [bl_len] at h1
      omega
    cases hL : bl r with
    | nil =>
      have he : r = ByteArray.empty := bl_nil.2 hL
      subst he
      rw [hL, parts_nil, List.append_nil] at hx
      obtain ⟨S, hS⟩ : ∃ S, q ++ (⟨#[34]⟩ : ByteArray) = S := ⟨_, rfl⟩
      have one : (⟨#[34]⟩ : ByteArray).size = 1 := rfl
      have a1 := add_run' q ⟨#[34]⟩ S hS (by omega)
      have HF : Hid (bl S = quoteL (bl s)) := Lib.hid (by rw [← hS, bl_append, HQ.out, quoteL, hx]; rfl)
      clear hx hS one hq hL
      go_wp2_with fail
      go_ret
      exact ⟨S, rfl, HF.out, hb⟩
    | cons c t =>
      have hne := isEmpty_no hL
      have hnn : bl r ≠ [] := by rw [hL]; simp
      have hd := dec_size hnn
      rw [bl_len] at hd
      have hp := parts_cons hnn
      obtain ⟨hc8, hln, h00, h0⟩ := first_byte hL
      have HD := Lib.hid (fun w => rDecode_any r (by omega) w)
      have hlow := qB_low (c := c) t
      have hhigh := qB_high (c := c) (t := t)
      rw [← hL] at hlow hhigh
      obtain ⟨x, hX⟩ : ∃ x, ((bl r).take (dec (bl r)).2, (dec (bl r)).1) = x := ⟨_, rfl⟩
      have hgood : (qB x).length ≤ 5 := by
        rw [← hX]; refine qB_len ?_
        have := dec_size4 (bl r)
        dsimp only
        rw [List.length_take]; omega
      rw [hX] at hp hlow hhigh
      obtain ⟨d2, h2⟩ : ∃ d, (dec (bl r)).2 = d := ⟨_, rfl⟩
      obtain ⟨d1, h1⟩ : ∃ d, (dec (bl r)).1 = d := ⟨_, rfl⟩
      have hlow2 : c < 128 → d2 = 1 := fun h => by rw [← h2, hL, dec_one h]
      have HD1 : Hid (c < 128 → d1 = c) := Lib.hid (fun h => by rw [← h1, hL, dec_one h])
      rw [h2] at hd hp hhigh
      rw [h1] at hhigh
      have e1 : (0 : Int) ≤ (d2 : Int) := by omega
      have e2 : (d2 : Int) ≤ (r.size : Int) := by omega
      have e3 : (1 : Int) ≤ (r.size : Int) := by omega
      have e4 : (0 : Int) < (r.size : Int) := by omega
      have hsz : r.size - d2 < r.size := by omega
      have HP2 : Hid (parts (bl s) = (pre ++ [x]) ++ parts (bl (r.extract d2 r.size))) := Lib.hid (by
        rw [bl_extract, ← bl_len, List.take_length, hx, hp, List.append_assoc]; rfl)
      have hs2 : (r.extract d2 r.size).size = r.size - d2 := by
        have : (bl (r.extract d2 r.size)).length = r.size - d2 := by rw [bl_extract, List.length_drop, List.length_take, bl_len]; omega
        rwa [bl_len] at this
      have HS2 := Lib.hid hs2
      have HN : Hid (∀ S E, bl E = qB x → q ++ E = S → bl S = 34 :: qFlat (pre ++ [x])) := Lib.hid (fun S E hE hS => by
        rw [← hS, bl_append, HQ.out, qFlat_snoc, hE]; rfl)
      have HB := Lib.hid hb
      have HX1 : Hid (bl (r.extract 0 1) = [c]) := Lib.hid (by rw [bl_extract, hL]; rfl)
      have HXd : Hid (bl (r.extract 0 d2) = (bl r).take d2) := Lib.hid (by rw [bl_extract]; rfl)
      have HLow := Lib.hid hlow
      have HHigh := Lib.hid hhigh
      clear hL hnn hx hp hs2 hb HP hlow hhigh hX
      go_wp2_with fail
      refine (HD.out _).mono ?_
      rintro e w2 ⟨rfl, b2⟩
      rw [h1, h2]
      have hb := next HB.out b2
      clear HD HB b2 h1 h2
      by_cases k34 : c = 34
      · have f34 : (((c : Nat) : Int) == 34) = true := by simp; omega
        obtain ⟨S1, hS1⟩ : ∃ S, q ++ (⟨#[92]⟩ : ByteArray) = S := ⟨_, rfl⟩
        obtain ⟨E, hE⟩ : ∃ E, r.extract 0 1 = E := ⟨_, rfl⟩
        obtain ⟨S, hS⟩ : ∃ S, S1 ++ E = S := ⟨_, rfl⟩
        have one : (⟨#[92]⟩ : ByteArray).size = 1 := rfl
        have hE1 : bl E = [c] := by rw [← hE]; exact HX1.out
        have oneE : E.size = 1 := by rw [← bl_len, hE1]; rfl
        have sz1 : S1.size = q.size + 1 := by rw [← hS1, ← bl_len, bl_append, List.length_append, bl_len]; rfl
        have a1 := add_run' q ⟨#[92]⟩ S1 hS1 (by omega)
        have a2 := add_run' S1 E S hS (by omega)
        have HS : Hid (bl S = 34 :: qFlat (pre ++ [x])) := Lib.hid (HN.out S (⟨#[92]⟩ ++ E) (by rw [HLow.out (by omega), if_pos (by omega), bl_append, hE1]; rfl) (by rw [← hS, ← hS1, ByteArray.append_assoc]))
        clear hS hS1 one oneE hE1 sz1
        clear hc8 hln hlow2 hgood hd hq
        go_wp2_with fail
        exact ⟨⟨_, _, _, rfl, rfl, HP2, by rw [HS2.out]; omega, HS, hb⟩, by simp only [strLen]; rw [HS2.out]; exact hsz⟩
      by_cases k92 : c = 92
      · have f34 : (((c : Nat) : Int) == 34) = false := by simp; omega
        have f92 : (((c : Nat) : Int) == 92) = true := by simp; omega
        obtain ⟨S1, hS1⟩ : ∃ S, q ++ (⟨#[92]⟩ : ByteArray) = S := ⟨_, rfl⟩
        obtain ⟨E, hE⟩ : ∃ E, r.extract 0 1 = E := ⟨_, rfl⟩
        obtain ⟨S, hS⟩ : ∃ S, S1 ++ E = S := ⟨_, rfl⟩
        have one : (⟨#[92]⟩ : ByteArray).size = 1 := rfl
        have hE1 : bl E = [c] := by rw [← hE]; exact HX1.out
        have oneE : E.size = 1 := by rw [← bl_len, hE1]; rfl
        have sz1 : S1.size = q.size + 1 := by rw [← hS1, ← bl_len, bl_append, List.length_append, bl_len]; rfl
        have a1 := add_run' q ⟨#[92]⟩ S1 hS1 (by omega)
        have a2 := add_run' S1 E S hS (by omega)
        have HS : Hid (bl S = 34 :: qFlat (pre ++ [x])) := Lib.hid (HN.out S (⟨#[92]⟩ ++ E) (by rw [HLow.out (by omega), if_pos (by omega), bl_append, hE1]; rfl) (by rw [← hS, ← hS1, ByteArray.append_assoc]))
        clear hS hS1 one oneE hE1 sz1
        clear hc8 hln hlow2 hgood hd hq
        go_wp2_with fail
        exact ⟨⟨_, _, _, rfl, rfl, HP2, by rw [HS2.out]; omega, HS, hb⟩, by simp only [strLen]; rw [HS2.out]; exact hsz⟩
      by_cases k10 : c = 10
      · have f34 : (((c : Nat) : Int) == 34) = false := by simp; omega
        have f92 : (((c : Nat) : Int) == 92) = false := by simp; omega
        have f10 : (((c : Nat) : Int) == 10) = true := by simp; omega
        obtain ⟨S, hS⟩ : ∃ S, q ++ (⟨#[92, 110]⟩ : ByteArray) = S := ⟨_, rfl⟩
        have one : (⟨#[92, 110]⟩ : ByteArray).size = 2 := rfl
        have a1 := add_run' q ⟨#[92, 110]⟩ S hS (by omega)
        have HS : Hid (bl S = 34 :: qFlat (pre ++ [x])) := Lib.hid (HN.out S _ (by rw [HLow.out (by omega), if_neg (by omega), if_pos (by omega)]; rfl) hS)
        clear hS one
        clear hc8 hln hlow2 hgood hd hq
        go_wp2_with fail
        exact ⟨⟨_, _, _, rfl, rfl, HP2, by rw [HS2.out]; omega, HS, hb⟩, by simp only [strLen]; rw [HS2.out]; exact hsz⟩
      by_cases k13 : c = 13
      · have f34 : (((c : Nat) : Int) == 34) = false := by simp; omega
        have f92 : (((c : Nat) : Int) == 92) = false := by simp; omega
        have f10 : (((c : Nat) : Int) == 10) = false := by simp; omega
        have f13 : (((c : Nat) : Int) == 13) = true := by simp; omega
        obtain ⟨S, hS⟩ : ∃ S, q ++ (⟨#[92, 114]⟩ : ByteArray) = S := ⟨_, rfl⟩
        have one : (⟨#[92, 114]⟩ : ByteArray).size = 2 := rfl
        have a1 := add_run' q ⟨#[92, 114]⟩ S hS (by omega)
        have HS : Hid (bl S = 34 :: qFlat (pre ++ [x])) := Lib.hid (HN.out S _ (by rw [HLow.out (by omega), if_neg (by omega), if_neg (by omega), if_pos (by omega)]; rfl) hS)
        clear hS one
        clear hc8 hln hlow2 hgood hd hq
        go_wp2_with fail
        exact ⟨⟨_, _, _, rfl, rfl, HP2, by rw [HS2.out]; omega, HS, hb⟩, by simp only [strLen]; rw [HS2.out]; exact hsz⟩
      by_cases k9 : c = 9
      · have f34 : (((c : Nat) : Int) == 34) = false := by simp; omega
        have f92 : (((c : Nat) : Int) == 92) = false := by simp; omega
        have f10 : (((c : Nat) : Int) == 10) = false := by simp; omega
        have f13 : (((c : Nat) : Int) == 13) = false := by simp; omega
        have f9 : (((c : Nat) : Int) == 9) = true := by simp; omega
        obtain ⟨S, hS⟩ : ∃ S, q ++ (⟨#[92, 116]⟩ : ByteArray) = S := ⟨_, rfl⟩
        have one : (⟨#[92, 116]⟩ : ByteArray).size = 2 := rfl
        have a1 := add_run' q ⟨#[92, 116]⟩ S hS (by omega)
        have HS : Hid (bl S = 34 :: qFlat (pre ++ [x])) := Lib.hid (HN.out S _ (by rw [HLow.out (by omega), if_neg (by omega), if_neg (by omega), if_neg (by omega), if_pos (by omega)]; rfl) hS)
        clear hS one
        clear hc8 hln hlow2 hgood hd hq
        go_wp2_with fail
        exact ⟨⟨_, _, _, rfl, rfl, HP2, by rw [HS2.out]; omega, HS, hb⟩, by simp only [strLen]; rw [HS2.out]; exact hsz⟩
      have f34 : (((c : Nat) : Int) == 34) = false := by simp; omega
      have f92 : (((c : Nat) : Int) == 92) = false := by simp; omega
      have f10 : (((c : Nat) : Int) == 10) = false := by simp; omega
      have f13 : (((c : Nat) : Int) == 13) = false := by simp; omega
      have f9 : (((c : Nat) : Int) == 9) = false := by simp; omega
      by_cases k32 : c < 32
      · have f32 : decide ((c : Int) < 32) = true := decide_eq_true (by omega)
        have HS0 : Hid (qB x = [92, 120, hx (c / 16), hx (c % 16)]) := Lib.hid (by rw [HLow.out (by omega), if_neg (by omega), if_neg (by omega), if_neg (by omega), if_neg (by omega), if_pos (by omega)])
        obtain ⟨u, hu⟩ : ∃ u, c / 16 = u := ⟨_, rfl⟩
        obtain ⟨v, hv⟩ : ∃ v, c % 16 = v := ⟨_, rfl⟩
        rw [hu, hv] at HS0
        have hu16 : u < 16 := by omega
        have hv16 : v < 16 := by omega
        obtain ⟨E1, hE1⟩ : ∃ E, (⟨#[48, 49, 50, 51, 52, 53, 54, 55, 56, 57, 97, 98, 99, 100, 101, 102]⟩ : ByteArray).extract u (u + 1) = E := ⟨_, rfl⟩
        obtain ⟨E2, hE2⟩ : ∃ E, (⟨#[48, 49, 50, 51, 52, 53, 54, 55, 56, 57, 97, 98, 99, 100, 101, 102]⟩ : ByteArray).extract v (v + 1) = E := ⟨_, rfl⟩
        have bE1 := hex_cut u hu16
        have bE2 := hex_cut v hv16
        rw [show hexS.extract u (u + 1) = E1 from hE1] at bE1
        rw [show hexS.extract v (v + 1) = E2 from hE2] at bE2
        obtain ⟨S1, hS1⟩ : ∃ S, q ++ (⟨#[92, 120]⟩ : ByteArray) = S := ⟨_, rfl⟩
        obtain ⟨S2, hS2⟩ : ∃ S, S1 ++ E1 = S := ⟨_, rfl⟩
        obtain ⟨S, hS⟩ : ∃ S, S2 ++ E2 = S := ⟨_, rfl⟩
        have one : (⟨#[92, 120]⟩ : ByteArray).size = 2 := rfl
        have oneE : E1.size = 1 := by rw [← bl_len, bE1]; rfl
        have oneF : E2.size = 1 := by rw [← bl_len, bE2]; rfl
        have sz1 : S1.size = q.size + 2 := by rw [← hS1, ← bl_len, bl_append, List.length_append, bl_len]; rfl
        have sz2 : S2.size = q.size + 3 := by rw [← hS2, ← bl_len, bl_append, List.length_append, bl_len, bl_len]; omega
        have a1 := add_run' q ⟨#[92, 120]⟩ S1 hS1 (by omega)
        have a2 := add_run' S1 E1 S2 hS2 (by omega)
        have a3 := add_run' S2 E2 S hS (by omega)
        have HS : Hid (bl S = 34 :: qFlat (pre ++ [x])) := Lib.hid (HN.out S (⟨#[92, 120]⟩ ++ (E1 ++ E2)) (by rw [HS0.out, bl_append, bl_append, bE1, bE2]; rfl) (by rw [← hS, ← hS2, ← hS1, ByteArray.append_assoc, ByteArray.append_assoc]))
        have t1 : (c : Int).tdiv 16 = (u : Int) := by rw [Int.tdiv_eq_ediv_of_nonneg (by omega)]; omega
        have t2 : (c : Int).tmod 16 = (v : Int) := by rw [Int.tmod_eq_emod_of_nonneg (by omega)]; omega
        have t3 : IntKind.u8.wrap (u : Int) = (u : Int) := u8_wrap u (by omega)
        have t4 : IntKind.u8.wrap (v : Int) = (v : Int) := u8_wrap v (by omega)
        have t5 : IntKind.u8.wrap ((u : Int) + 1) = (u : Int) + 1 := by have := u8_wrap (u + 1) (by omega); simpa using this
        have t6 : IntKind.u8.wrap ((v : Int) + 1) = (v : Int) + 1 := by have := u8_wrap (v + 1) (by omega); simpa using this
        have n1 : ((u : Int) + 1).toNat = u + 1 := by omega
        have n2 : ((v : Int) + 1).toNat = v + 1 := by omega
        have g1 : (0 : Int) ≤ (u : Int) := by omega
        have g2 : (u : Int) + 1 ≤ 16 := by omega
        have g3 : (u : Int) ≤ (u : Int) + 1 := by omega
        have g4 : (0 : Int) ≤ (v : Int) := by omega
        have g5 : (v : Int) + 1 ≤ 16 := by omega
        have g6 : (v : Int) ≤ (v : Int) + 1 := by omega
        clear hu hv hS hS1 hS2 one oneE oneF sz1 sz2 bE1 bE2 hln hu16 hv16
        clear hc8 hlow2 hgood hd hq
        go_wp2_with fail
        go_quiet (fail)
        go_wp2_with fail
        exact ⟨⟨_, _, _, rfl, rfl, HP2, by rw [HS2.out]; omega, HS, Below.dn hb _⟩, by simp only [strLen]; rw [HS2.out]; exact hsz⟩
      have f32 : decide ((c : Int) < 32) = false := decide_eq_false (by omega)
      by_cases k127 : c = 127
      · have f127 : (((c : Nat) : Int) == 127) = true := by simp; omega
        have HS0 : Hid (qB x = [92, 120, hx (c / 16), hx (c % 16)]) := Lib.hid (by rw [HLow.out (by omega), if_neg (by omega), if_neg (by omega), if_neg (by omega), if_neg (by omega), if_pos (by omega)])
        obtain ⟨u, hu⟩ : ∃ u, c / 16 = u := ⟨_, rfl⟩
        obtain ⟨v, hv⟩ : ∃ v, c % 16 = v := ⟨_, rfl⟩
        rw [hu, hv] at HS0
        have hu16 : u < 16 := by omega
        have hv16 : v < 16 := by omega
        obtain ⟨E1, hE1⟩ : ∃ E, (⟨#[48, 49, 50, 51, 52, 53, 54, 55, 56, 57, 97, 98, 99, 100, 101, 102]⟩ : ByteArray).extract u (u + 1) = E := ⟨_, rfl⟩
        obtain ⟨E2, hE2⟩ : ∃ E, (⟨#[48, 49, 50, 51, 52, 53, 54, 55, 56, 57, 97, 98, 99, 100, 101, 102]⟩ : ByteArray).extract v (v + 1) = E := ⟨_, rfl⟩
        have bE1 := hex_cut u hu16
        have bE2 := hex_cut v hv16
        rw [show hexS.extract u (u + 1) = E1 from hE1] at bE1
        rw [show hexS.extract v (v + 1) = E2 from hE2] at bE2
        obtain ⟨S1, hS1⟩ : ∃ S, q ++ (⟨#[92, 120]⟩ : ByteArray) = S := ⟨_, rfl⟩
        obtain ⟨S2, hS2⟩ : ∃ S, S1 ++ E1 = S := ⟨_, rfl⟩
        obtain ⟨S, hS⟩ : ∃ S, S2 ++ E2 = S := ⟨_, rfl⟩
        have one : (⟨#[92, 120]⟩ : ByteArray).size = 2 := rfl
        have oneE : E1.size = 1 := by rw [← bl_len, bE1]; rfl
        have oneF : E2.size = 1 := by rw [← bl_len, bE2]; rfl
        have sz1 : S1.size = q.size + 2 := by rw [← hS1, ← bl_len, bl_append, List.length_append, bl_len]; rfl
        have sz2 : S2.size = q.size + 3 := by rw [← hS2, ← bl_len, bl_append, List.length_append, bl_len, bl_len]; omega
        have a1 := add_run' q ⟨#[92, 120]⟩ S1 hS1 (by omega)
        have a2 := add_run' S1 E1 S2 hS2 (by omega)
        have a3 := add_run' S2 E2 S hS (by omega)
        have HS : Hid (bl S = 34 :: qFlat (pre ++ [x])) := Lib.hid (HN.out S (⟨#[92, 120]⟩ ++ (E1 ++ E2)) (by rw [HS0.out, bl_append, bl_append, bE1, bE2]; rfl) (by rw [← hS, ← hS2, ← hS1, ByteArray.append_assoc, ByteArray.append_assoc]))
        have t1 : (c : Int).tdiv 16 = (u : Int) := by rw [Int.tdiv_eq_ediv_of_nonneg (by omega)]; omega
        have t2 : (c : Int).tmod 16 = (v : Int) := by rw [Int.tmod_eq_emod_of_nonneg (by omega)]; omega
        have t3 : IntKind.u8.wrap (u : Int) = (u : Int) := u8_wrap u (by omega)
        have t4 : IntKind.u8.wrap (v : Int) = (v : Int) := u8_wrap v (by omega)
        have t5 : IntKind.u8.wrap ((u : Int) + 1) = (u : Int) + 1 := by have := u8_wrap (u + 1) (by omega); simpa using this
        have t6 : IntKind.u8.wrap ((v : Int) + 1) = (v : Int) + 1 := by have := u8_wrap (v + 1) (by omega); simpa using this
        have n1 : ((u : Int) + 1).toNat = u + 1 := by omega
        have n2 : ((v : Int) + 1).toNat = v + 1 := by omega
        have g1 : (0 : Int) ≤ (u : Int) := by omega
        have g2 : (u : Int) + 1 ≤ 16 := by omega
        have g3 : (u : Int) ≤ (u : Int) + 1 := by omega
        have g4 : (0 : Int) ≤ (v : Int) := by omega
        have g5 : (v : Int) + 1 ≤ 16 := by omega
        have g6 : (v : Int) ≤ (v : Int) + 1 := by omega
        clear hu hv hS hS1 hS2 one oneE oneF sz1 sz2 bE1 bE2 hln hu16 hv16
        clear k127
        clear hc8 hlow2 hgood hd hq
        go_wp2_with fail
        go_quiet (fail)
        go_wp2_with fail
        exact ⟨⟨_, _, _, rfl, rfl, HP2, by rw [HS2.out]; omega, HS, Below.dn hb _⟩, by simp only [strLen]; rw [HS2.out]; exact hsz⟩
      have f127 : (((c : Nat) : Int) == 127) = false := by simp; omega
      by_cases k128 : c < 128
      · have hd2 := hlow2 k128
        have hc1 : (bl r).take d2 = [c] := by rw [hd2, ← HX1.out, bl_extract]; rfl
        by_cases kr : d1 = 65533
        · exact absurd (HD1.out k128) (by omega)
        have fr : (((d1 : Nat) : Int) == 65533) = false := by simp; omega
        obtain ⟨E, hE⟩ : ∃ E, r.extract 0 d2 = E := ⟨_, rfl⟩
        obtain ⟨S, hS⟩ : ∃ S, q ++ E = S := ⟨_, rfl⟩
        have hE1 : bl E = (bl r).take d2 := by rw [← hE]; exact HXd.out
        have hEq : bl E = qB x := by rw [hE1, hc1, HLow.out (by omega), if_neg (by omega), if_neg (by omega), if_neg (by omega), if_neg (by omega), if_neg (by omega)]
        have oneE : E.size ≤ 5 := by rw [← bl_len, hEq]; exact hgood
        have a1 := add_run' q E S hS (by omega)
        have HS : Hid (bl S = 34 :: qFlat (pre ++ [x])) := Lib.hid (HN.out S E hEq hS)
        clear hS hE1 hEq oneE
        clear hd2 hc1 kr
        clear hc8 hln hlow2 hgood hd hq
        go_wp2_with fail
        exact ⟨⟨_, _, _, rfl, rfl, HP2, by rw [HS2.out]; omega, HS, hb⟩, by simp only [strLen]; rw [HS2.out]; exact hsz⟩
      by_cases kr : d1 = 65533
      · have fr : (((d1 : Nat) : Int) == 65533) = true := by simp; omega
        by_cases kn : d2 = 1
        · have fn : (((d2 : Nat) : Int) == 1) = true := by simp; omega
          have HS0 : Hid (qB x = [92, 120, hx (c / 16), hx (c % 16)]) := Lib.hid (by rw [HHigh.out (by omega), if_pos ⟨kr, kn⟩])
          obtain ⟨u, hu⟩ : ∃ u, c / 16 = u := ⟨_, rfl⟩
          obtain ⟨v, hv⟩ : ∃ v, c % 16 = v := ⟨_, rfl⟩
          rw [hu, hv] at HS0
          have hu16 : u < 16 := by omega
          have hv16 : v < 16 := by omega
          obtain ⟨E1, hE1⟩ : ∃ E, (⟨#[48, 49, 50, 51, 52, 53, 54, 55, 56, 57, 97, 98, 99, 100, 101, 102]⟩ : ByteArray).extract u (u + 1) = E := ⟨_, rfl⟩
          obtain ⟨E2, hE2⟩ : ∃ E, (⟨#[48, 49, 50, 51, 52, 53, 54, 55, 56, 57, 97, 98, 99, 100, 101, 102]⟩ : ByteArray).extract v (v + 1) = E := ⟨_, rfl⟩
          have bE1 := hex_cut u hu16
          have bE2 := hex_cut v hv16
          rw [show hexS.extract u (u + 1) = E1 from hE1] at bE1
          rw [show hexS.extract v (v + 1) = E2 from hE2] at bE2
          obtain ⟨S1, hS1⟩ : ∃ S, q ++ (⟨#[92, 120]⟩ : ByteArray) = S := ⟨_, rfl⟩
          obtain ⟨S2, hS2⟩ : ∃ S, S1 ++ E1 = S := ⟨_, rfl⟩
          obtain ⟨S, hS⟩ : ∃ S, S2 ++ E2 = S := ⟨_, rfl⟩
          have one : (⟨#[92, 120]⟩ : ByteArray).size = 2 := rfl
          have oneE : E1.size = 1 := by rw [← bl_len, bE1]; rfl
          have oneF : E2.size = 1 := by rw [← bl_len, bE2]; rfl
          have sz1 : S1.size = q.size + 2 := by rw [← hS1, ← bl_len, bl_append, List.length_append, bl_len]; rfl
          have sz2 : S2.size = q.size + 3 := by rw [← hS2, ← bl_len, bl_append, List.length_append, bl_len, bl_len]; omega
          have a1 := add_run' q ⟨#[92, 120]⟩ S1 hS1 (by omega)
          have a2 := add_run' S1 E1 S2 hS2 (by omega)
          have a3 := add_run' S2 E2 S hS (by omega)
          have HS : Hid (bl S = 34 :: qFlat (pre ++ [x])) := Lib.hid (HN.out S (⟨#[92, 120]⟩ ++ (E1 ++ E2)) (by rw [HS0.out, bl_append, bl_append, bE1, bE2]; rfl) (by rw [← hS, ← hS2, ← hS1, ByteArray.append_assoc, ByteArray.append_assoc]))
          have t1 : (c : Int).tdiv 16 = (u : Int) := by rw [Int.tdiv_eq_ediv_of_nonneg (by omega)]; omega
          have t2 : (c : Int).tmod 16 = (v : Int) := by rw [Int.tmod_eq_emod_of_nonneg (by omega)]; omega
          have t3 : IntKind.u8.wrap (u : Int) = (u : Int) := u8_wrap u (by omega)
          have t4 : IntKind.u8.wrap (v : Int) = (v : Int) := u8_wrap v (by omega)
          have t5 : IntKind.u8.wrap ((u : Int) + 1) = (u : Int) + 1 := by have := u8_wrap (u + 1) (by omega); simpa using this
          have t6 : IntKind.u8.wrap ((v : Int) + 1) = (v : Int) + 1 := by have := u8_wrap (v + 1) (by omega); simpa using this
          have n1 : ((u : Int) + 1).toNat = u + 1 := by omega
          have n2 : ((v : Int) + 1).toNat = v + 1 := by omega
          have g1 : (0 : Int) ≤ (u : Int) := by omega
          have g2 : (u : Int) + 1 ≤ 16 := by omega
          have g3 : (u : Int) ≤ (u : Int) + 1 := by omega
          have g4 : (0 : Int) ≤ (v : Int) := by omega
          have g5 : (v : Int) + 1 ≤ 16 := by omega
          have g6 : (v : Int) ≤ (v : Int) + 1 := by omega
          clear hu hv hS hS1 hS2 one oneE oneF sz1 sz2 bE1 bE2 hln hu16 hv16
          clear kr kn
          clear hc8 hlow2 hgood hd hq
          go_wp2_with fail
          go_quiet (fail)
          go_wp2_with fail
          exact ⟨⟨_, _, _, rfl, rfl, HP2, by rw [HS2.out]; omega, HS, Below.dn hb _⟩, by simp only [strLen]; rw [HS2.out]; exact hsz⟩
        have fn : (((d2 : Nat) : Int) == 1) = false := by simp; omega
        obtain ⟨E, hE⟩ : ∃ E, r.extract 0 d2 = E := ⟨_, rfl⟩
        obtain ⟨S, hS⟩ : ∃ S, q ++ E = S := ⟨_, rfl⟩
        have hE1 : bl E = (bl r).take d2 := by rw [← hE]; exact HXd.out
        have hEq : bl E = qB x := by rw [hE1, HHigh.out (by omega), if_neg (by omega)]
        have oneE : E.size ≤ 5 := by rw [← bl_len, hEq]; exact hgood
        have a1 := add_run' q E S hS (by omega)
        have HS : Hid (bl S = 34 :: qFlat (pre ++ [x])) := Lib.hid (HN.out S E hEq hS)
        clear hS hE1 hEq oneE
        clear kr kn
        clear hc8 hln hlow2 hgood hd hq
        go_wp2_with fail
        exact ⟨⟨_, _, _, rfl, rfl, HP2, by rw [HS2.out]; omega, HS, hb⟩, by simp only [strLen]; rw [HS2.out]; exact hsz⟩
      have fr : (((d1 : Nat) : Int) == 65533) = false := by simp; omega
      obtain ⟨E, hE⟩ : ∃ E, r.extract 0 d2 = E := ⟨_, rfl⟩
      obtain ⟨S, hS⟩ : ∃ S, q ++ E = S := ⟨_, rfl⟩
      have hE1 : bl E = (bl r).take d2 := by rw [← hE]; exact HXd.out
      have hEq : bl E = qB x := by rw [hE1, HHigh.out (by omega), if_neg (by omega)]
      have oneE : E.size ≤ 5 := by rw [← bl_len, hEq]; exact hgood
      have a1 := add_run' q E S hS (by omega)
      have HS : Hid (bl S = 34 :: qFlat (pre ++ [x])) := Lib.hid (HN.out S E hEq hS)
      clear hS hE1 hEq oneE
      clear hc8 hln hlow2 hgood hd hq
      go_wp2_with fail
      exact ⟨⟨_, _, _, rfl, rfl, HP2, by rw [HS2.out]; omega, HS, hb⟩, by simp only [strLen]; rw [HS2.out]; exact hsz⟩
end Go.Proofs.YtdmflofdchmfhaaGreatDoor
