/- The decimal text of a number, by groups of nine digits; the library's tables and calls that Text goes by. -/
import Derived.Test.YtlpfcilgndbopaaDoorNDiv32
import Derived.Lib.LaidTab
import Derived.Lib.Join
namespace Go.Proofs.YtlpfcilgndbopaaDoor
open Go.RowKit

/-- Digits with zeros in front, nine together. -/
def padL (l : List UInt8) : List UInt8 := Lib.repeatL [48] (9 - l.length) ++ l
/-- The groups of a number's digits, the lowest first; of nought: none. -/
def groupsF (v : Nat) : List (List UInt8) :=
  if v = 0 then [] else (if v / 1000000000 = 0 then Lib.decDigits (v % 1000000000) else padL (Lib.decDigits (v % 1000000000))) :: groupsF (v / 1000000000)
termination_by v
decreasing_by omega
theorem groups_zero : groupsF 0 = [] := by rw [groupsF, if_pos rfl]
theorem groups_pos {v : Nat} (h : v ≠ 0) : groupsF v = (if v / 1000000000 = 0 then Lib.decDigits (v % 1000000000) else padL (Lib.decDigits (v % 1000000000))) :: groupsF (v / 1000000000) := by rw [groupsF, if_neg h]
/-- What Text answers. -/
def textOf (v : Nat) : List UInt8 := if v = 0 then [48] else (groupsF v).reverse.flatten

theorem join_flat : ∀ xs : List (List UInt8), Lib.join xs [] = xs.flatten
  | [] => rfl
  | [x] => by rw [Lib.join_one]; simp
  | x :: y :: r => by
    have ih := join_flat (y :: r)
    rw [Lib.join, List.intercalate] at ih ⊢
    rw [List.intersperse_cons_cons, List.flatten_cons, List.flatten_cons, ih]
    simp

/-- One step of the division by a thousand millions, from the top. -/
theorem group_step {a q : List Int} {k n : Nat} {r x Q R : Int} (hn : a.length = n) (hk : k < n) (ha : Lim a) (hr : 0 ≤ r ∧ r < 1000000000) (hx : a.getD k 0 = x) (hQ : (r * 4294967296 + x) / 1000000000 = Q) (hR : (r * 4294967296 + x) % 1000000000 = R)
    (h : val (a.drop (k + 1)) = val q * 1000000000 + r.toNat) : val (a.drop k) = val (Q :: q) * 1000000000 + R.toNat ∧ 0 ≤ Q ∧ Q ≤ 4294967295 ∧ 0 ≤ R ∧ R < 1000000000 := by
  have hl := ha.at k
  rw [hx] at hl
  have hxk : a[k]'(by omega) = x := by rw [← hx, List.getD_eq_getElem?_getD, List.getElem?_eq_getElem (by omega)]; rfl
  rw [List.drop_eq_getElem_cons (by omega), hxk]
  have hq0 : 0 ≤ Q := by omega
  have hq1 : Q ≤ 4294967295 := by omega
  have hr0 : 0 ≤ R := by omega
  have hr1 : R < 1000000000 := by omega
  refine ⟨?_, hq0, hq1, hr0, hr1⟩
  have e : 1000000000 * Q + R = r * 4294967296 + x := by rw [← hQ, ← hR]; exact Int.mul_ediv_add_emod _ _
  rw [val, val, h]
  clear hQ hR h hxk hx ha hn
  generalize val q = V
  obtain ⟨Q, rfl⟩ := Int.eq_ofNat_of_zero_le hq0
  obtain ⟨R, rfl⟩ := Int.eq_ofNat_of_zero_le hr0
  obtain ⟨x, rfl⟩ := Int.eq_ofNat_of_zero_le hl.1
  obtain ⟨r, rfl⟩ := Int.eq_ofNat_of_zero_le hr.1
  rw [Int.toNat_natCast, Int.toNat_natCast, Int.toNat_natCast, Int.toNat_natCast]
  omega

def Tab (w : World) : Prop := Lib.TabIs Tryd.prog w "internal/strconv.uint64pow10" .u64 Lib.pow10Tab
theorem var_below {P : Program} {w w' : World} {name : String} {cs : Array Value} (h : w.var? P name = some cs) (hb : Below w.heap.size w w') : w'.var? P name = some cs := by
  unfold World.var? at h ⊢
  generalize P.globalNamed name = o at h ⊢
  rcases o with _ | g
  · exact h
  · rw [Option.bind_some] at h ⊢
    have hlt : g < w.heap.size := by
      rcases Nat.lt_or_ge g w.heap.size with h1 | h1
      · exact h1
      · rw [Array.getElem?_eq_none h1] at h; cases h
    rw [hb.block g hlt]
    exact h
theorem Tab.below {w w' : World} (h : Tab w) (hb : Below w.heap.size w w') : Tab w' := var_below h hb

theorem grow_below (w : World) (os : Array Obj) : Below w.heap.size w (Go.Sort.grow w os) :=
  ⟨rfl, rfl, rfl, by show _ ≤ (w.heap ++ os).size; simp, fun k hk => by show (w.heap ++ os)[k]? = _; rw [Array.getElem?_append_left hk]⟩
/-- Zeros, eight at most. -/
theorem zeros_any (c : Nat) (hc : c ≤ 8) (w : World) :
    Calls Tryd.prog 40 #[.string ⟨#[48]⟩, .int .i64 (c : Int)] w fun e w' => e = .returned (.string ⟨(Lib.repeatL [48] c).toArray⟩) ∧ Below w.heap.size w w' := by
  rcases Nat.lt_or_ge c 2 with h | h
  · rcases Nat.lt_or_ge c 1 with h1 | h1
    · obtain rfl : c = 0 := by omega
      refine (Tryd.strings_Repeat_zero _ w).mono ?_
      rintro e w' ⟨rfl, rfl⟩
      exact ⟨rfl, Below.refl _ _⟩
    · obtain rfl : c = 1 := by omega
      refine (Tryd.strings_Repeat_one _ w).mono ?_
      rintro e w' ⟨rfl, rfl⟩
      exact ⟨rfl, Below.refl _ _⟩
  · exact Tryd.strings_Repeat_main ⟨#[48]⟩ c w h (by omega) (by show 1 * c ≤ _; omega) (by decide)
theorem itoa_any (n : Nat) (hn : n < 1000000000) (w : World) (ht : Tab w) :
    Calls Tryd.prog 59 #[.int .i64 (n : Int)] w fun e w' => e = .returned (.string ⟨(Lib.decDigits n).toArray⟩) ∧ Below w.heap.size w w' := by
  refine (Tryd.strconv_Itoa n (by omega) (by omega) w ht).mono ?_
  rintro e w' ⟨rfl, k, os, rfl⟩
  rw [Lib.itoa_nonneg]
  exact ⟨rfl, ((Below.refl _ w).trans ⟨rfl, rfl, rfl, Nat.le_refl _, fun _ _ => rfl⟩ : Below _ w (w.drewN k)).trans (grow_below (w.drewN k) os)⟩
theorem digits_len {n : Nat} (hn : n < 1000000000) : (Lib.decDigits n).length ≤ 9 ∧ 1 ≤ (Lib.decDigits n).length := by
  have h : ∀ k u, u < 10 ^ (k + 1) → (Lib.decDigits u).length ≤ k + 1 := by
    intro k
    induction k with
    | zero => intro u hu; rw [Lib.decDigits, dif_pos (by omega)]; exact Nat.le_refl _
    | succ k ih =>
      intro u hu
      rw [Lib.decDigits]
      split
      · simp
      · rw [List.length_append]
        have := ih (u / 10) (by rw [Nat.pow_succ] at hu; omega)
        simp; omega
  refine ⟨h 8 n (by omega), ?_⟩
  rw [Lib.decDigits]
  split <;> simp
end Go.Proofs.YtlpfcilgndbopaaDoor
