/- NMath NTrim NCmp NRef NCopy NOf NIs NRSmall NDiv32 NTextMath NText NLawKit NRText: taken over. -/
import Derived.Test.YtdmflofdchmfhaaGreatDoorBase
import Derived.Test.YtdmflofdchmfhaaGreatDoorShelf
import Derived.Lib.Repeat
import Derived.Deep.QuietTactic
import Derived.BigQuiet
import Derived.WalkSpells
import Derived.Deep.RegionHeld3
import Derived.Lib.LaidTab
import Derived.Lib.Join
import Derived.Sort.OwnSorted
namespace Go.Proofs.YtdmflofdchmfhaaGreatDoor
open Go.RowKit

/-- Each is a limb. -/
def Lim (a : List Int) : Prop := ∀ x ∈ a, 0 ≤ x ∧ x ≤ 4294967295
/-- The value of limbs, the lowest first. -/
def val : List Int → Nat
  | [] => 0
  | x :: xs => x.toNat + 4294967296 * val xs
/-- The one list of limbs without noughts at its end that has this value. -/
def limbs (n : Nat) : List Int := if h : n = 0 then [] else ((n % 4294967296 : Nat) : Int) :: limbs (n / 4294967296)
termination_by n
decreasing_by omega

theorem limbs_zero : limbs 0 = [] := by rw [limbs]; simp
theorem limbs_pos {n : Nat} (h : n ≠ 0) : limbs n = ((n % 4294967296 : Nat) : Int) :: limbs (n / 4294967296) := by rw [limbs]; simp [h]
theorem val_limbs (n : Nat) : val (limbs n) = n := by
  induction n using Nat.strongRecOn with
  | ind n ih =>
    by_cases h : n = 0
    · subst h; rw [limbs_zero]; rfl
    · rw [limbs_pos h, val, ih _ (by omega), Int.toNat_natCast]
      omega
theorem lim_limbs (n : Nat) : Lim (limbs n) := by
  induction n using Nat.strongRecOn with
  | ind n ih =>
    by_cases h : n = 0
    · subst h; rw [limbs_zero]; intro x hx; cases hx
    · rw [limbs_pos h]
      intro x hx
      rcases List.mem_cons.1 hx with rfl | hx
      · omega
      · exact ih _ (by omega) x hx
theorem Lim.tail {x : Int} {a : List Int} (h : Lim (x :: a)) : Lim a := fun y hy => h y (List.mem_cons_of_mem _ hy)
theorem Lim.head {x : Int} {a : List Int} (h : Lim (x :: a)) : 0 ≤ x ∧ x ≤ 4294967295 := h x (List.mem_cons_self ..)
theorem Lim.app {a b : List Int} (ha : Lim a) (hb : Lim b) : Lim (a ++ b) := fun x hx => (List.mem_append.1 hx).elim (ha x) (hb x)
theorem Lim.take {a : List Int} (h : Lim a) (k : Nat) : Lim (a.take k) := fun x hx => h x (List.mem_of_mem_take hx)
theorem Lim.drop {a : List Int} (h : Lim a) (k : Nat) : Lim (a.drop k) := fun x hx => h x (List.mem_of_mem_drop hx)
theorem Lim.one {x : Int} (h0 : 0 ≤ x) (h1 : x ≤ 4294967295) : Lim [x] := fun y hy => by rw [List.mem_singleton.1 hy]; exact ⟨h0, h1⟩
theorem Lim.nil : Lim [] := fun _ h => by cases h
theorem Lim.zeros (n : Nat) : Lim (List.replicate n 0) := fun x hx => by rw [(List.mem_replicate.1 hx).2]; omega
theorem Lim.at {a : List Int} (h : Lim a) (i : Nat) : 0 ≤ a.getD i 0 ∧ a.getD i 0 ≤ 4294967295 := by
  rw [List.getD_eq_getElem?_getD]
  by_cases hi : i < a.length
  · rw [List.getElem?_eq_getElem hi]; exact h _ (List.getElem_mem hi)
  · rw [List.getElem?_eq_none (by omega)]; simp

/-- No nought stands at the end. -/
def Top (a : List Int) : Prop := a.getLast? ≠ some 0
theorem Top.tail {x y : Int} {a : List Int} (h : Top (x :: y :: a)) : Top (y :: a) := by
  unfold Top at *
  rwa [List.getLast?_cons_cons] at h
theorem limbs_val {a : List Int} (h : Lim a) (ht : Top a) : limbs (val a) = a := by
  induction a with
  | nil => exact limbs_zero
  | cons x xs ih =>
    have hx := h.head
    have hxs : limbs (val xs) = xs := by
      cases xs with
      | nil => exact limbs_zero
      | cons y ys => exact ih h.tail ht.tail
    have hv : val (x :: xs) = x.toNat + 4294967296 * val xs := rfl
    have hne : val (x :: xs) ≠ 0 := by
      rw [hv]
      intro h0
      have h1 : val xs = 0 := by omega
      have h2 : x.toNat = 0 := by omega
      rw [h1, limbs_zero] at hxs
      subst hxs
      apply ht
      rw [List.getLast?_singleton]
      congr 1
      omega
    rw [limbs_pos hne, hv, show (x.toNat + 4294967296 * val xs) % 4294967296 = x.toNat by omega, show (x.toNat + 4294967296 * val xs) / 4294967296 = val xs by omega, hxs, Int.toNat_of_nonneg hx.1]
theorem limbs_top (n : Nat) : Top (limbs n) := by
  induction n using Nat.strongRecOn with
  | ind n ih =>
    by_cases h : n = 0
    · subst h; rw [limbs_zero]; simp [Top]
    · rw [limbs_pos h]
      by_cases h2 : n / 4294967296 = 0
      · rw [h2, limbs_zero]
        unfold Top
        rw [List.getLast?_singleton]
        intro e
        injection e with e
        omega
      · have := ih (n / 4294967296) (by omega)
        rw [limbs_pos h2] at this ⊢
        unfold Top at *
        rwa [List.getLast?_cons_cons]
theorem limbs_inj {n m : Nat} (h : limbs n = limbs m) : n = m := by rw [← val_limbs n, h, val_limbs]

theorem val_append (a b : List Int) : val (a ++ b) = val a + 4294967296 ^ a.length * val b := by
  induction a with
  | nil => simp [val]
  | cons x xs ih =>
    rw [List.cons_append, val, ih, val, List.length_cons, Nat.pow_succ, Nat.mul_add, Nat.mul_comm (4294967296 ^ xs.length) 4294967296, Nat.mul_assoc]
    omega
theorem val_zeros (n : Nat) : val (List.replicate n 0) = 0 := by
  induction n with
  | zero => rfl
  | succ n ih => rw [List.replicate_succ, val, ih]; rfl
theorem val_lt {a : List Int} (h : Lim a) : val a < 4294967296 ^ a.length := by
  induction a with
  | nil => simp [val]
  | cons x xs ih =>
    have h1 := ih h.tail
    have h2 := h.head
    rw [val, List.length_cons, Nat.pow_succ]
    omega
theorem val_one (x : Int) : val [x] = x.toNat := by simp [val]
/-- One limb more. -/
theorem val_take (a : List Int) (k : Nat) (h : k < a.length) : val (a.take (k + 1)) = val (a.take k) + 4294967296 ^ k * (a.getD k 0).toNat := by
  rw [List.take_succ_eq_append_getElem h, val_append, val_one, List.length_take, Nat.min_eq_left (by omega), List.getD_eq_getElem?_getD, List.getElem?_eq_getElem h, Option.getD_some]
/-- The value of the lowest limbs, those that aren't there being noughts. -/
def low (a : List Int) (k : Nat) : Nat := val (a.take k)
theorem low_zero (a : List Int) : low a 0 = 0 := by simp [low, val]
theorem low_succ (a : List Int) (k : Nat) : low a (k + 1) = low a k + 4294967296 ^ k * (a.getD k 0).toNat := by
  unfold low
  by_cases h : k < a.length
  · exact val_take a k h
  · rw [List.take_of_length_le (by omega), List.take_of_length_le (by omega), List.getD_eq_getElem?_getD, List.getElem?_eq_none (by omega)]
    simp
theorem low_all {a : List Int} {k : Nat} (h : a.length ≤ k) : low a k = val a := by unfold low; rw [List.take_of_length_le h]
theorem low_lt {a : List Int} (h : Lim a) (k : Nat) : low a k < 4294967296 ^ k := by
  unfold low
  refine Nat.lt_of_lt_of_le (val_lt (h.take k)) (Nat.pow_le_pow_right (by omega) ?_)
  rw [List.length_take]; omega
theorem getD_nat {a : List Int} (h : Lim a) (i : Nat) : ((a.getD i 0).toNat : Int) = a.getD i 0 ∧ (a.getD i 0).toNat ≤ 4294967295 := by
  have := h.at i
  omega
/-- The highest limb in which two differ tells which is less. -/
theorem low_less {a b : List Int} (ha : Lim a) (_hb : Lim b) (i : Nat) (h : a.getD i 0 < b.getD i 0) : ∀ n, i < n → (∀ j, i < j → a.getD j 0 = b.getD j 0) → low a n < low b n := by
  intro n hn he
  induction n with
  | zero => omega
  | succ n ih =>
    rw [low_succ, low_succ]
    by_cases hin : i = n
    · subst hin
      have h1 := low_lt ha i
      have h2 := getD_nat ha i
      have h4 : (a.getD i 0).toNat + 1 ≤ (b.getD i 0).toNat := by omega
      have h5 := Nat.mul_le_mul_left (4294967296 ^ i) h4
      rw [Nat.mul_add] at h5
      omega
    · have := ih (by omega)
      rw [he n (by omega)]
      omega
theorem low_same {a b : List Int} : ∀ n, (∀ j, j < n → a.getD j 0 = b.getD j 0) → low a n = low b n := by
  intro n he
  induction n with
  | zero => rw [low_zero, low_zero]
  | succ n ih => rw [low_succ, low_succ, ih fun j hj => he j (by omega), he n (by omega)]
theorem limbs_len {n k : Nat} (h : n < 4294967296 ^ k) : (limbs n).length ≤ k := by
  induction k generalizing n with
  | zero => rw [show n = 0 by simpa using h, limbs_zero]; simp
  | succ k ih =>
    by_cases h0 : n = 0
    · subst h0; rw [limbs_zero]; simp
    · rw [limbs_pos h0, List.length_cons]
      have := ih (n := n / 4294967296) (by rw [Nat.pow_succ] at h; exact Nat.div_lt_of_lt_mul (by rw [Nat.mul_comm]; exact h))
      omega
/-- What a list says of its length where no nought stands at the end. -/
theorem limbs_long {n k : Nat} (h : k < (limbs n).length) : 4294967296 ^ k ≤ n := by
  rcases Nat.lt_or_ge n (4294967296 ^ k) with h1 | h1
  · have := limbs_len h1; omega
  · exact h1

theorem ret_int {k : IntKind} {a b : Int} (h : a = b) : Ending.returned (.int k a) = .returned (.int k b) := by rw [h]
theorem u32_info : (Tryz.prog.info? 98).map (fun i => (i.zero, i.size, i.bytes)) = some (some (.int .u32 0), 1, 4) := by kernel_rfl

theorem Row.takeI {w : World} {B n k : Nat} {A : Option Addr} {k0 : IntKind} {zs : List Int} (h : Row w B A n (ints k0 zs)) (hk : k ≤ n) : Row w B A k (ints k0 (zs.take k)) := by
  have h1 := h.1
  rw [ints_len] at h1
  refine ⟨by rw [ints_len, List.length_take]; omega, fun h0 => ?_⟩
  obtain ⟨b, off, e, hb, hc⟩ := h.2 (by omega)
  exact ⟨b, off, e, hb, fun j hj => by rw [hc j (by omega), ints_get _ _ _ (by omega), ints_get _ _ _ (by rw [List.length_take]; omega)]; simp [List.getD_eq_getElem?_getD, List.getElem?_take, hj]⟩

/-- One cell of a row of numbers. -/
theorem Row.int {w : World} {B n : Nat} {b off : Nat} {k : IntKind} {zs : List Int} (h : Row w B (some ⟨b, off, none⟩) n (ints k zs)) {j : Nat} (hj : j < n) : w.cell? ⟨b, off + j, none⟩ = some (.int k (zs.getD j 0)) := by
  have h1 := h.1
  rw [ints_len] at h1
  exact (h.cell hj).trans (ints_get _ _ _ (by omega))

/-- What Check answers. -/
def chk (a : List Int) : Int := if 64 < a.length then 5 else if a.getLast? = some 0 then 2 else 0
theorem chk_ok {a : List Int} : chk a = 0 ↔ a.length ≤ 64 ∧ Top a := by
  unfold chk Top
  by_cases h : 64 < a.length
  · rw [if_pos h]; constructor
    · intro e; omega
    · intro e; omega
  · rw [if_neg h]
    by_cases h2 : a.getLast? = some 0
    · rw [if_pos h2]; constructor
      · intro e; omega
      · intro e; exact absurd h2 e.2
    · rw [if_neg h2]; exact ⟨fun _ => ⟨by omega, h2⟩, fun _ => rfl⟩
theorem getLast_at {a : List Int} {n : Nat} (h : a.length = n) (h0 : 0 < n) : a.getLast? = some (a.getD (n - 1) 0) := by
  subst h
  rw [List.getLast?_eq_getElem?, List.getD_eq_getElem?_getD, List.getElem?_eq_getElem (by omega), Option.getD_some]

/-- What checkBoth answers. -/
def chk2 (a b : List Int) : Int := if chk a ≠ 0 then chk a else chk b
theorem val_drop_zero {a : List Int} {k : Nat} (h : k < a.length) (h0 : a.getD k 0 = 0) : val (a.take (k + 1)) = val (a.take k) := by
  rw [val_take a k h, h0]; simp

def cmpI (x y : Nat) : Int := if x < y then -1 else if y < x then 1 else 0

/-- What the document's cmp answers of any lists: of unlike lengths by these alone. -/
def cmpR (a b : List Int) : Int := if a.length < b.length then -1 else if b.length < a.length then 1 else cmpI (val a) (val b)
theorem cmpR_limbs (x y : Nat) : cmpR (limbs x) (limbs y) = cmpI x y := by
  unfold cmpR
  by_cases h : (limbs x).length < (limbs y).length
  · have h1 := limbs_long h
    have h2 : x < 4294967296 ^ (limbs x).length := by have := val_lt (lim_limbs x); rwa [val_limbs] at this
    rw [if_pos h, cmpI, if_pos (by omega)]
  · rw [if_neg h]
    by_cases h' : (limbs y).length < (limbs x).length
    · have h1 := limbs_long h'
      have h2 : y < 4294967296 ^ (limbs y).length := by have := val_lt (lim_limbs y); rwa [val_limbs] at this
      rw [if_pos h', cmpI, if_neg (by omega), if_pos (by omega)]
    · rw [if_neg h', val_limbs, val_limbs]

theorem drew3 (w : World) (a b c : Nat) : ((w.drewN a).drewN b).drewN c = w.drewN (a + b + c) := by rw [World.drewN_drewN, World.drewN_drewN, Nat.add_assoc]

theorem u32_parts : ∃ i0, Tryz.prog.info? 98 = some i0 ∧ i0.zero = some (.int .u32 0) ∧ i0.size = 1 ∧ i0.bytes = 4 := by
  have h := u32_info
  cases hi : Tryz.prog.info? 98 with
  | none => rw [hi] at h; cases h
  | some i => rw [hi] at h; simp only [Option.map_some, Option.some.injEq, Prod.mk.injEq] at h; exact ⟨i, rfl, h.1, h.2.1, h.2.2⟩

/-- A new row of limbs, the call's own. -/
def New (w : World) (l : List Int) (e : Ending) (w' : World) : Prop :=
  ∃ A c, e = .returned (.slice A l.length c) ∧ w'.ownsRow w.heap.size 98 1 (.slice A l.length c) l.length (ints .u32 l) ∧ Below w.heap.size w w'

theorem own_slice32 {w : World} {base n : Nat} {v : Value} {xs : List Value} (h : w.ownsRow base 98 1 v n xs) : ∃ A c, v = .slice A n c := by
  obtain ⟨_, h⟩ := h
  rcases h with ⟨hv, hn⟩ | ⟨g, cap, cur, hv, _⟩
  · exact ⟨none, 0, by rw [hv, hn]⟩
  · exact ⟨_, cap, hv⟩

theorem own_cap32 {w : World} {base n c : Nat} {A : Option Addr} {xs : List Value} (h : w.ownsRow base 98 1 (.slice A n c) n xs) : n ≤ c ∧ c ≤ 9223372036854775807 := by
  rcases h.2 with ⟨e0, h0⟩ | ⟨g', cap', cur, e0, _, _, hn, hm, _⟩
  · injection e0 with _ _ e3
    omega
  · injection e0 with _ _ e3
    subst e3
    unfold maxLen at hm
    omega

theorem val_take_zero {a : List Int} {n k : Nat} (hn : a.length = n) (hk : 0 < k) (hkn : k ≤ n) (h0 : a.getD (k - 1) 0 = 0) (h : val (a.take k) = val a) : val (a.take (k - 1)) = val a := by
  have := val_drop_zero (a := a) (k := k - 1) (by omega) h0
  rw [show k - 1 + 1 = k by omega] at this
  rw [← this]; exact h
theorem limbs_take {a : List Int} {n k : Nat} (hlim : Lim a) (hn : a.length = n) (hk : 0 < k) (hkn : k ≤ n) (h0 : a.getD (k - 1) 0 ≠ 0) (h : val (a.take k) = val a) : limbs (val a) = a.take k := by
  rw [← h]
  refine limbs_val (hlim.take k) ?_
  unfold Top
  rw [getLast_at (n := k) (by rw [List.length_take]; omega) hk]
  intro e
  injection e with e
  rw [List.getD_eq_getElem?_getD, List.getElem?_take, if_pos (show k - 1 < k by omega)] at e
  exact h0 (by rw [List.getD_eq_getElem?_getD]; exact e)

/-- The document's trim: the one list of the value, in new memory. -/
theorem rtrim_any (A : Option Addr) (n c B : Nat) (a : List Int) (w : World) (hr : Row w B A n (ints .u32 a)) (hlim : Lim a) (hn : n ≤ 50000000000000) (hc : n ≤ c) (hc2 : c ≤ 9223372036854775807) :
    Calls Tryz.prog 93 #[.slice A n c] w (New w (limbs (val a))) := by
  obtain ⟨i0, hi, hz0, hz1, hz2⟩ := u32_parts
  have hl := hr.1
  rw [ints_len] at hl
  have HM := Lib.hid hlim
  have HL := Lib.hid hl
  clear hl hlim
  go_enter Tryz.func93, Tryz.ntmps93
  go_wp2
  go_loopw [3] (fun i wr => ∃ k : Nat, k ≤ n ∧ i = .int .i64 k ∧ Hid (val (a.take k) = val a) ∧ w = wr) (fun i _ => (intOf i).toNat)
  case atStart => exact ⟨n, Nat.le_refl _, rfl, Lib.hid (by rw [List.take_of_length_le (by have := HL.out; omega)]), rfl⟩
  case round =>
    obtain ⟨k, hk, rfl, HV, rfl⟩ := hrel
    have tail : (h0 : Bool) → (k = 0 ∨ (0 < k ∧ a.getD (k - 1) 0 ≠ 0)) → limbs (val a) = a.take k := by
      intro _ h
      rcases h with rfl | ⟨h1, h2⟩
      · rw [← HV.out]; simp [val, limbs_zero]
      · exact limbs_take HM.out HL.out h1 hk h2 HV.out
    by_cases h0 : 0 < k
    · obtain ⟨b, off, rfl, _, _⟩ := hr.2 (by omega)
      have hcell : w.cell? ⟨b, off + (k - 1), none⟩ = some (.int .u32 (a.getD (k - 1) 0)) := hr.int (by omega)
      have h1 : (1 : Int) ≤ k := by omega
      have h2 : (k : Int) ≤ n := by omega
      by_cases hx : a.getD (k - 1) 0 = 0
      · rw [hx] at hcell
        have HV2 : Hid (val (a.take (k - 1)) = val a) := Lib.hid (val_take_zero HL.out h0 hk hx HV.out)
        clear hx HV tail
        go_wp2
        go_roundw
        case rel => exact ⟨k - 1, by omega, by go_num, HV2, by first | rfl | trivial⟩
        case measure => simp [intOf]; omega
      · have HT : Hid (limbs (val a) = a.take k) := Lib.hid (tail true (.inr ⟨h0, hx⟩))
        obtain ⟨x, hxx⟩ : ∃ x, a.getD (k - 1) 0 = x := ⟨_, rfl⟩
        rw [hxx] at hcell hx
        have hd : (x == 0) = false := by simpa using hx
        have hrt := hr.takeI hk
        clear hx hxx HV tail hr
        have hkc : (k : Int) ≤ c := by omega
        go_wp2_with (at_builtin; refine wpList_app _ rfl (.const (.slice none 0 0)) (.tmp 20) 80 rfl w.heap.size 98 i0 (.int .u32 0) 4 Tryz.underlying80 hi hz0 hz1 hz2 rfl _ 0 [] rfl (World.ownsRow_nil _ _ _ _) _ _ _ _ _ rfl hrt (ints_one _ _) (by unfold maxLen; omega) (by omega) (Nat.le_refl _) ?_)
        intro v' w1 hown _ hb
        obtain ⟨A1, c1, rfl⟩ := own_slice32 hown
        have HK : Hid ((limbs (val a)).length = k) := Lib.hid (by rw [HT.out, List.length_take]; have := HL.out; omega)
        go_wp2
        go_ret
        rw [← HT.out] at hown
        exact ⟨A1, c1, by rw [HK.out]; rfl, by rw [HK.out]; exact hown, hb⟩
    · obtain rfl : k = 0 := by omega
      have HT : Hid (limbs (val a) = []) := Lib.hid (by rw [tail true (.inl rfl)]; simp)
      have hrt := hr.takeI (Nat.zero_le n)
      clear HV tail hr
      have hkc : (0 : Int) ≤ c := by omega
      go_wp2_with (at_builtin; refine wpList_app _ rfl (.const (.slice none 0 0)) (.tmp 20) 80 rfl w.heap.size 98 i0 (.int .u32 0) 4 Tryz.underlying80 hi hz0 hz1 hz2 rfl _ 0 [] rfl (World.ownsRow_nil _ _ _ _) _ _ _ _ _ rfl hrt (ints_one _ _) (by unfold maxLen; omega) (by omega) (Nat.le_refl _) ?_)
      intro v' w1 hown _ hb
      obtain ⟨A1, c1, rfl⟩ := own_slice32 hown
      go_wp2
      go_ret
      rw [New, HT.out]
      exact ⟨A1, c1, rfl, hown, hb⟩

/-- What is owned, cut to its first elements, is owned. -/
theorem own_cutN {w : World} {base g n cap k : Nat} {e : TypeId} {xs : List Value} (h : w.ownsRow base e 1 (.slice (some ⟨g, 0, none⟩) n cap) n xs) (hk : k ≤ n) : w.ownsRow base e 1 (.slice (some ⟨g, 0, none⟩) k cap) k (xs.take k) := by
  rcases h.2 with ⟨e0, _⟩ | ⟨g', cap', cur, e0, hb, hg, hn, hm, hs, ht⟩
  · cases e0
  · injection e0 with e1 _ e3
    injection e1 with e1
    injection e1 with e1
    subst e1; subst e3
    have hl := h.1
    refine ⟨by rw [List.length_take]; omega, .inr ⟨g, cap, cur, rfl, hb, hg, by omega, hm, hs, ?_⟩⟩
    rw [← ht, List.take_take, Nat.mul_one, Nat.mul_one, Nat.min_eq_left hk]

theorem val_two (x y : Int) : val [x, y] = x.toNat + 4294967296 * y.toNat := by simp [val]
theorem own_low {w : World} {base base' size n : Nat} {e : TypeId} {v : Value} {xs : List Value} (h : w.ownsRow base e size v n xs) (hb : base' ≤ base) : w.ownsRow base' e size v n xs := by
  refine ⟨h.1, ?_⟩
  rcases h.2 with h0 | ⟨g, cap, cur, h1, h2, h3⟩
  · exact .inl h0
  · exact .inr ⟨g, cap, cur, h1, Nat.le_trans hb h2, h3⟩
theorem New.from {w w1 w' : World} {l : List Int} {e : Ending} (hb : Below w.heap.size w w1) (h : New w1 l e w') : New w l e w' := by
  obtain ⟨A, c, he, hown, hb'⟩ := h
  exact ⟨A, c, he, own_low hown hb.size, next hb hb'⟩
theorem two_val {n : Int} (h0 : 0 ≤ n) : val [n % 4294967296, n / 4294967296] = n.toNat := by rw [val_two]; omega
theorem two_lim {n : Int} (h0 : 0 ≤ n) (h1 : n ≤ 18446744073709551615) : Lim [n % 4294967296, n / 4294967296] := by
  intro x hx
  simp only [List.mem_cons, List.not_mem_nil, or_false] at hx
  rcases hx with rfl | rfl <;> omega
theorem rOf_any (n : Int) (w : World) (h0 : 0 ≤ n) (h1 : n ≤ 18446744073709551615) :
    Calls Tryz.prog 67 #[.int .u64 n] w (New w (limbs n.toNat)) := by
  have HV := Lib.hid (two_val h0)
  have HL := Lib.hid (two_lim h0 h1)
  go_enter Tryz.func67, Tryz.ntmps67
  go_wp2_with fail
  refine (rtrim_any _ 2 2 _ [n % 4294967296, n / 4294967296] _ (Row.lit w .u32 [n % 4294967296, n / 4294967296] _) HL.out (by decide) (by decide) (by decide)).mono ?_
  rw [HV.out]
  rintro e w' hN
  obtain ⟨A, c, rfl, hown, hb⟩ := New.from ((Below.refl _ _).alloc (Nat.le_refl _) _) hN
  go_wp2
  go_ret
  exact ⟨A, c, rfl, hown, hb⟩



theorem val_drop (a : List Int) (k : Nat) (h : k < a.length) : val (a.drop k) = (a.getD k 0).toNat + 4294967296 * val (a.drop (k + 1)) := by
  rw [List.drop_eq_getElem_cons h, val, List.getD_eq_getElem?_getD, List.getElem?_eq_getElem h, Option.getD_some]

theorem or_top (x y : Int) (hx : 0 ≤ x ∧ x ≤ 4294967295) (hy : 0 ≤ y ∧ y ≤ 4294967295) : bits .or .u64 (y * 4294967296) x = y * 4294967296 + x := by
  obtain ⟨a, rfl⟩ := Int.eq_ofNat_of_zero_le hx.1
  obtain ⟨b, rfl⟩ := Int.eq_ofNat_of_zero_le hy.1
  rw [show (b : Int) * 4294967296 = ((b * 4294967296 : Nat) : Int) by simp, bits_or_u64_nat _ _ (by omega) (by omega)]
  have := Nat.shiftLeft_add_eq_or_of_lt (show a < 2 ^ 32 by omega) b
  rw [Nat.shiftLeft_eq] at this
  rw [show b * 4294967296 = b * 2 ^ 32 by rfl, ← this]
  omega

/-- Digits with zeros in front, nine together. -/
def padL (l : List UInt8) : List UInt8 := Lib.repeatL [48] (9 - l.length) ++ l
/-- The groups of a number's digits, the lowest first; of nought: none. -/
def groupsF (v : Nat) : List (List UInt8) :=
  if v = 0 then [] else (if v / 1000000000 = 0 then Lib.decDigits (v % 1000000000) else padL (Lib.decDigits (v % 1000000000))) :: groupsF (v / 1000000000)
termination_by v
decreasing_by omega
theorem groups_zero : groupsF 0 = [] := by rw [groupsF, if_pos rfl]
theorem groups_pos {v : Nat} (h : v ≠ 0) : groupsF v = (if v / 1000000000 = 0 then Lib.decDigits (v % 1000000000) else padL (Lib.decDigits (v % 1000000000))) :: groupsF (v / 1000000000) := by rw [groupsF, if_neg h]
/-- What Text answers. -/
def textOf (v : Nat) : List UInt8 := if v = 0 then [48] else (groupsF v).reverse.flatten

theorem join_flat : ∀ xs : List (List UInt8), Lib.join xs [] = xs.flatten
  | [] => rfl
  | [x] => by rw [Lib.join_one]; simp
  | x :: y :: r => by
    have ih := join_flat (y :: r)
    rw [Lib.join, List.intercalate] at ih ⊢
    rw [List.intersperse_cons_cons, List.flatten_cons, List.flatten_cons, ih]
    simp

/-- One step of the division by a thousand millions, from the top. -/
theorem group_step {a q : List Int} {k n : Nat} {r x Q R : Int} (hn : a.length = n) (hk : k < n) (ha : Lim a) (hr : 0 ≤ r ∧ r < 1000000000) (hx : a.getD k 0 = x) (hQ : (r * 4294967296 + x) / 1000000000 = Q) (hR : (r * 4294967296 + x) % 1000000000 = R)
    (h : val (a.drop (k + 1)) = val q * 1000000000 + r.toNat) : val (a.drop k) = val (Q :: q) * 1000000000 + R.toNat ∧ 0 ≤ Q ∧ Q ≤ 4294967295 ∧ 0 ≤ R ∧ R < 1000000000 := by
  have hl := ha.at k
  rw [hx] at hl
  have hxk : a[k]'(by omega) = x := by rw [← hx, List.getD_eq_getElem?_getD, List.getElem?_eq_getElem (by omega)]; rfl
  rw [List.drop_eq_getElem_cons (by omega), hxk]
  have hq0 : 0 ≤ Q := by omega
  have hq1 : Q ≤ 4294967295 := by omega
  have hr0 : 0 ≤ R := by omega
  have hr1 : R < 1000000000 := by omega
  refine ⟨?_, hq0, hq1, hr0, hr1⟩
  have e : 1000000000 * Q + R = r * 4294967296 + x := by rw [← hQ, ← hR]; exact Int.mul_ediv_add_emod _ _
  rw [val, val, h]
  clear hQ hR h hxk hx ha hn
  generalize val q = V
  obtain ⟨Q, rfl⟩ := Int.eq_ofNat_of_zero_le hq0
  obtain ⟨R, rfl⟩ := Int.eq_ofNat_of_zero_le hr0
  obtain ⟨x, rfl⟩ := Int.eq_ofNat_of_zero_le hl.1
  obtain ⟨r, rfl⟩ := Int.eq_ofNat_of_zero_le hr.1
  rw [Int.toNat_natCast, Int.toNat_natCast, Int.toNat_natCast, Int.toNat_natCast]
  omega

def Tab (w : World) : Prop := Lib.TabIs Tryz.prog w "internal/strconv.uint64pow10" .u64 Lib.pow10Tab
theorem var_below {P : Program} {w w' : World} {name : String} {cs : Array Value} (h : w.var? P name = some cs) (hb : Below w.heap.size w w') : w'.var? P name = some cs := by
  unfold World.var? at h ⊢
  generalize P.globalNamed name = o at h ⊢
  rcases o with _ | g
  · exact h
  · rw [Option.bind_some] at h ⊢
    have hlt : g < w.heap.size := by
      rcases Nat.lt_or_ge g w.heap.size with h1 | h1
      · exact h1
      · rw [Array.getElem?_eq_none h1] at h; cases h
    rw [hb.block g hlt]
    exact h
theorem Tab.below {w w' : World} (h : Tab w) (hb : Below w.heap.size w w') : Tab w' := var_below h hb

theorem grow_below (w : World) (os : Array Obj) : Below w.heap.size w (Go.Sort.grow w os) :=
  ⟨rfl, rfl, rfl, by show _ ≤ (w.heap ++ os).size; simp, fun k hk => by show (w.heap ++ os)[k]? = _; rw [Array.getElem?_append_left hk]⟩
theorem itoa_any (n : Nat) (hn : n < 1000000000) (w : World) (ht : Tab w) :
    Calls Tryz.prog 47 #[.int .i64 (n : Int)] w fun e w' => e = .returned (.string ⟨(Lib.decDigits n).toArray⟩) ∧ Below w.heap.size w w' := by
  refine (Tryz.strconv_Itoa n (by omega) (by omega) w ht).mono ?_
  rintro e w' ⟨rfl, k, os, rfl⟩
  rw [Lib.itoa_nonneg]
  exact ⟨rfl, ((Below.refl _ w).trans ⟨rfl, rfl, rfl, Nat.le_refl _, fun _ _ => rfl⟩ : Below _ w (w.drewN k)).trans (grow_below (w.drewN k) os)⟩
theorem digits_len {n : Nat} (hn : n < 1000000000) : (Lib.decDigits n).length ≤ 9 ∧ 1 ≤ (Lib.decDigits n).length := by
  have h : ∀ k u, u < 10 ^ (k + 1) → (Lib.decDigits u).length ≤ k + 1 := by
    intro k
    induction k with
    | zero => intro u hu; rw [Lib.decDigits, dif_pos (by omega)]; exact Nat.le_refl _
    | succ k ih =>
      intro u hu
      rw [Lib.decDigits]
      split
      · simp
      · rw [List.length_append]
        have := ih (u / 10) (by rw [Nat.pow_succ] at hu; omega)
        simp; omega
  refine ⟨h 8 n (by omega), ?_⟩
  rw [Lib.decDigits]
  split <;> simp

def strsN (gs : List (List UInt8)) : List Value := gs.map fun l => .string ⟨l.toArray⟩
/-- What stays the call's own where a block that is not its own is written. -/
theorem own_apart {w w' : World} {base n : Nat} {e : TypeId} {v : Value} {xs : List Value} {r : Option Nat} (h : w.ownsRow base e 1 v n xs) (hg : w.grownBy w' r) (hne : ∀ k, v.ownBlock = some k → r ≠ some k) : w'.ownsRow base e 1 v n xs := by
  refine h.kept hg ?_
  rcases hv : v.ownBlock with _ | k
  · exact .inl rfl
  · right
    exact fun e => hne k hv e.symm
theorem own_over2 {w w' : World} {base n : Nat} {e : TypeId} {v : Value} {xs : List Value} (h : w.ownsRow base e 1 v n xs) (hb : Below w.heap.size w w') : w'.ownsRow base e 1 v n xs :=
  own_apart (r := none) h ⟨hb.os, hb.tape, hb.output, hb.size, fun j hj _ => hb.block j hj⟩ (by intro k _ e; cases e)
theorem str_infoN : (Tryz.prog.info? 9).map (fun i => (i.zero, i.size, i.bytes)) = some (some (.string ⟨#[]⟩), 1, 16) := by kernel_rfl
theorem str_parts : ∃ i0, Tryz.prog.info? 9 = some i0 ∧ i0.zero = some (.string ⟨#[]⟩) ∧ i0.size = 1 ∧ i0.bytes = 16 := by
  have h := str_infoN
  cases hi : Tryz.prog.info? 9 with
  | none => rw [hi] at h; cases h
  | some i => rw [hi] at h; simp only [Option.map_some, Option.some.injEq, Prod.mk.injEq] at h; exact ⟨i, rfl, h.1, h.2.1, h.2.2⟩
theorem groups_len : ∀ (k v : Nat), v < 2 ^ k → (groupsF v).length ≤ k
  | 0, v, h => by
    obtain rfl : v = 0 := by simpa using h
    rw [groups_zero]; simp
  | k + 1, v, h => by
    by_cases hv : v = 0
    · subst hv; rw [groups_zero]; simp
    · rw [groups_pos hv, List.length_cons]
      have := groups_len k (v / 1000000000) (by rw [Nat.pow_succ] at h; omega)
      omega
theorem own_sliceE {w : World} {base n : Nat} {e : TypeId} {v : Value} {xs : List Value} (h : w.ownsRow base e 1 v n xs) : ∃ A c, v = .slice A n c := by
  obtain ⟨_, h⟩ := h
  rcases h with ⟨hv, hn⟩ | ⟨g, cap, cur, hv, _⟩
  · exact ⟨none, 0, by rw [hv, hn]⟩
  · exact ⟨_, _, hv⟩
/-- Behind the append of one more group: both rows are the call's own, as before. -/
theorem round_own {w w2 W w8 : World} {g n m cap : Nat} {G : Option Addr} {cg : Nat} {o : Obj} {xs ys : List Value} (hO : W.ownsRow w.heap.size 98 1 (.slice (some ⟨g, 0, none⟩) n cap) n xs) (hG : W.ownsRow w2.heap.size 9 1 (.slice G m cg) m ys)
    (hB2 : Below w.heap.size w w2) (hB : Below w.heap.size w W) (hS : w2.heap.size ≤ W.heap.size) (hg : g < w2.heap.size) (hgr : (W.alloc o).grownBy w8 (Value.slice G m cg).ownBlock) (hb : Below w2.heap.size (W.alloc o) w8) :
    w8.ownsRow w.heap.size 98 1 (.slice (some ⟨g, 0, none⟩) n cap) n xs ∧ Below w.heap.size w w8 ∧ w2.heap.size ≤ w8.heap.size := by
  have hA : Below W.heap.size W (W.alloc o) := (Below.refl _ W).alloc (Nat.le_refl _) o
  refine ⟨own_apart (own_over2 hO hA) hgr ?_, (hB.alloc hB.size o).trans (hb.mono hB2.size), Nat.le_trans hS (Nat.le_trans hA.size hb.size)⟩
  intro k hk e
  have h1 := (hG.lt k e).1
  simp [Value.ownBlock] at hk
  omega
theorem bytes_app (x y : List UInt8) : (⟨x.toArray⟩ : ByteArray) ++ ⟨y.toArray⟩ = ⟨(x ++ y).toArray⟩ := by
  apply ByteArray.ext
  rw [ByteArray.data_append]
  simp
theorem repeat_len : ∀ (l : List UInt8) (k : Nat), (Lib.repeatL l k).length = k * l.length := Lib.repeatL_length
theorem pad_len {n : Nat} (hn : n < 1000000000) : (padL (Lib.decDigits n)).length = 9 := by
  have := digits_len hn
  rw [padL, List.length_append, repeat_len]
  simp; omega
theorem groups_each (v : Nat) : ∀ l ∈ groupsF v, l.length ≤ 9 := by
  induction v using Nat.strongRecOn with
  | _ v ih =>
    by_cases hv : v = 0
    · subst hv; rw [groups_zero]; intro l hl; cases hl
    · rw [groups_pos hv]
      intro l hl
      have hm : v % 1000000000 < 1000000000 := Nat.mod_lt _ (by omega)
      rcases List.mem_cons.1 hl with h | h
      · subst h
        split
        · exact (digits_len hm).1
        · rw [pad_len hm]; exact Nat.le_refl _
      · exact ih (v / 1000000000) (by omega) l h
theorem flat_len : ∀ (gs : List (List UInt8)), (∀ l ∈ gs, l.length ≤ 9) → gs.flatten.length ≤ 9 * gs.length
  | [], _ => by simp
  | g :: gs, h => by
    rw [List.flatten_cons, List.length_append, List.length_cons]
    have := flat_len gs (fun l hl => h l (List.mem_cons_of_mem _ hl))
    have := h g List.mem_cons_self
    omega
theorem set_take {n k : Nat} {a q : List Int} (p : Int) (ha : a.length = n) (hk : k < n) : (ints .u32 (a.take (k + 1) ++ q)).set k (.int .u32 p) = ints .u32 (a.take k ++ p :: q) := by
  have h : (a.take (k + 1) ++ q).set k p = a.take k ++ p :: q := by
    rw [List.take_succ_eq_append_getElem (by omega), List.append_assoc, List.set_append_right _ _ (by rw [List.length_take]; omega), List.length_take, Nat.min_eq_left (by omega), Nat.sub_self]
    rfl
  unfold ints
  rw [← List.map_set, h]
theorem take_at {n k : Nat} {a q : List Int} (ha : a.length = n) (hk : k < n) : (ints .u32 (a.take (k + 1) ++ q))[k]? = some (.int .u32 (a.getD k 0)) := by
  rw [ints_get _ _ _ (by rw [List.length_append, List.length_take]; omega), List.getD_eq_getElem?_getD, List.getElem?_append_left (by rw [List.length_take]; omega), List.getElem?_take_of_lt (by omega), List.getD_eq_getElem?_getD]

def textL (a : List Int) : List UInt8 := if chk a = 0 then textOf (val a) else []

theorem chk_limbs {X : Nat} (h : (limbs X).length ≤ 64) : chk (limbs X) = 0 := chk_ok.2 ⟨h, limbs_top X⟩
theorem chk2_limbs {X Y : Nat} (h : (limbs X).length ≤ 64) (h' : (limbs Y).length ≤ 64) : chk2 (limbs X) (limbs Y) = 0 := by
  rw [chk2, chk_limbs h, chk_limbs h']; rfl
theorem row_len {w : World} {B n : Nat} {A : Option Addr} {l : List Int} (h : Row w B A n (ints .u32 l)) : l.length = n := by
  have := h.1
  rwa [ints_len] at this

section
variable {A A' : Option Addr} {n c n' c' X Y : Nat} {w : World}

/-- A slice that reads as the limbs of X, in new memory or old. -/
def Got (w : World) (X : Nat) (n : Nat) (A : Option Addr) : Prop := (limbs X).length = n ∧ Row w w.heap.size A n (ints .u32 (limbs X))
theorem Got.on {w' : World} (h : Got w X n A) (b : Below w.heap.size w w') : Got w' X n A := ⟨h.1, h.2.on b⟩

theorem of_small {X : Nat} (h : X < 18446744073709551616) : (limbs X).length ≤ 2 := limbs_len (by omega)

theorem cmpI_eq (X Y : Nat) : (cmpI X Y == 0) = decide (X = Y) := by
  unfold cmpI
  by_cases h : X < Y
  · rw [if_pos h]; simp; omega
  · rw [if_neg h]
    by_cases h2 : Y < X
    · rw [if_pos h2]; simp; omega
    · rw [if_neg h2]; simp; omega
end
theorem wf_u64 {a : Int} (h : (Lit.int .u64 a).wf = true) : ∃ n : Nat, a = n ∧ n < 18446744073709551616 := by
  have h2 : 0 ≤ a ∧ a ≤ 18446744073709551615 := by simpa [Lit.wf, IntKind.min, IntKind.max, IntKind.signed, IntKind.bits] using h
  exact ⟨a.toNat, by omega, by omega⟩

theorem tenth_step {a q : List Int} {k n : Nat} {r x Q R : Int} (hn : a.length = n) (hk : k < n) (ha : Lim a) (hr : 0 ≤ r ∧ r < 10) (hx : a.getD k 0 = x) (hQ : (r * 4294967296 + x) / 10 = Q) (hR : (r * 4294967296 + x) % 10 = R)
    (h : val (a.drop (k + 1)) = val q * 10 + r.toNat) : val (a.drop k) = val (Q :: q) * 10 + R.toNat ∧ 0 ≤ Q ∧ Q ≤ 4294967295 ∧ 0 ≤ R ∧ R < 10 := by
  have hl := ha.at k
  rw [hx] at hl
  have hxk : a[k]'(by omega) = x := by rw [← hx, List.getD_eq_getElem?_getD, List.getElem?_eq_getElem (by omega)]; rfl
  rw [List.drop_eq_getElem_cons (by omega), hxk]
  have hq0 : 0 ≤ Q := by omega
  have hq1 : Q ≤ 4294967295 := by omega
  have hr0 : 0 ≤ R := by omega
  have hr1 : R < 10 := by omega
  refine ⟨?_, hq0, hq1, hr0, hr1⟩
  have e : 10 * Q + R = r * 4294967296 + x := by rw [← hQ, ← hR]; exact Int.mul_ediv_add_emod _ _
  rw [val, val, h]
  clear hQ hR h hxk hx ha hn
  generalize val q = V
  obtain ⟨Q, rfl⟩ := Int.eq_ofNat_of_zero_le hq0
  obtain ⟨R, rfl⟩ := Int.eq_ofNat_of_zero_le hr0
  obtain ⟨x, rfl⟩ := Int.eq_ofNat_of_zero_le hl.1
  obtain ⟨r, rfl⟩ := Int.eq_ofNat_of_zero_le hr.1
  rw [Int.toNat_natCast, Int.toNat_natCast, Int.toNat_natCast, Int.toNat_natCast]
  omega

theorem pow32 (n : Nat) : (4294967296 : Nat) ^ n = 2 ^ (32 * n) := by rw [Nat.pow_mul]
theorem chk_len {a : List Int} (h : chk a = 0) : a.length ≤ 64 := (chk_ok.1 h).1

theorem newK {f : Nat} {args : Array Value} {w : World} {l : List Int} (m : Nat) (h : Calls Tryz.prog f args w (New w l)) (hm : l.length = m) :
    Calls Tryz.prog f args w fun e w' => ∃ A c, e = .returned (.slice A m c) ∧ Row w' w'.heap.size A m (ints .u32 l) ∧ Below w.heap.size w w' := by
  subst hm
  refine h.mono ?_
  rintro e w' ⟨A, c, rfl, o, b⟩
  exact ⟨A, c, rfl, Row.own o, b⟩
theorem limbs_of {a : List Int} (h : chk a = 0) (hl : Lim a) : limbs (val a) = a := limbs_val hl (chk_ok.1 h).2
theorem rCheck_any (A : Option Addr) (n c B : Nat) (a : List Int) (w : World) (hr : Row w B A n (ints .u32 a)) :
    Calls Tryz.prog 91 #[.slice A n c] w fun e w' => e = .returned (.int .i64 (chk a)) ∧ w = w' := by
  have hl := hr.1
  rw [ints_len] at hl
  have HL := Lib.hid hl
  by_cases h64 : 64 < n
  · have HC : Hid (chk a = 5) := by unfold Hid chk; rw [if_pos (by omega)]
    clear hl hr
    go_enter Tryz.func91, Tryz.ntmps91
    go_wp2
    go_ret
    exact ⟨ret_int HC.out.symm, rfl⟩
  · by_cases h0 : 0 < n
    · obtain ⟨b, off, rfl, hb, hc⟩ := hr.2 h0
      have hcell : w.cell? ⟨b, off + (n - 1), none⟩ = some (.int .u32 (a.getD (n - 1) 0)) := hr.int (by omega)
      have HC : Hid (chk a = if a.getD (n - 1) 0 = 0 then 2 else 0) := by
        unfold Hid chk
        rw [if_neg (by omega), getLast_at hl h0]
        simp
      have h1 : (1 : Int) ≤ n := by omega
      have h2 : (n : Int) ≤ 64 := by omega
      clear hl hr hc h64
      generalize a.getD (n - 1) 0 = x at *
      by_cases hx : x = 0
      · subst hx
        go_enter Tryz.func91, Tryz.ntmps91
        go_wp2
        go_ret
        exact ⟨ret_int (by rw [HC.out]; rfl), rfl⟩
      · have hd : (x == 0) = false := by simpa using hx
        have HX := Lib.hid hx
        clear hx
        go_enter Tryz.func91, Tryz.ntmps91
        go_wp2
        go_ret
        exact ⟨ret_int (by rw [HC.out, if_neg HX.out]), rfl⟩
    · obtain rfl : n = 0 := by omega
      obtain rfl : a = [] := List.eq_nil_of_length_eq_zero hl
      clear hr HL h64 h0
      go_enter Tryz.func91, Tryz.ntmps91
      go_wp2
      go_ret
      exact ⟨rfl, rfl⟩
theorem made32 (N : Nat) : (madeCells #[.int .u32 0] N).toList = ints .u32 ([] ++ List.replicate N 0) := by
  rw [toList_madeCells_one]; simp [ints]
set_option maxRecDepth 100000 in
set_option maxHeartbeats 1000000 in
theorem small_ten (A : Option Addr) (n c V : Nat) (w : World) (hg : Got w V n A) (hn : n ≤ 1000) (hp : 0 < n) :
    Calls Tryz.prog 92 #[.slice A n c, .int .u64 10] w fun e w' => ∃ B m d, e = .returned (.tuple #[.slice B m d, .int .u64 ((V % 10 : Nat) : Int)]) ∧ Got w' (V / 10) m B ∧ Below w.heap.size w w' := by
  obtain ⟨i0, hi, hz0, hz1, hz2⟩ := u32_parts
  have HL := Lib.hid hg.1
  have HR := Lib.hid hg.2
  have HA := Lib.hid (lim_limbs V)
  clear hg
  obtain ⟨a, ha⟩ : ∃ a, limbs V = a := ⟨_, rfl⟩
  rw [ha] at HL HR HA
  have HV : Hid (val a = V) := Lib.hid (by rw [← ha, val_limbs])
  clear ha
  obtain ⟨b0, off, rfl, hblt, hcells⟩ := HR.out.2 hp
  have HCl := Lib.hid hcells
  clear hcells
  go_enter Tryz.func92, Tryz.ntmps92
  go_wp2_with (refine wpList_make_full _ rfl (.tmp 10) (.tmp 10) 80 rfl w.heap.size 98 i0 (.int .u32 0) 1 Tryz.underlying80 hi hz0 hz1 .i64 .i64 _ _ n rfl rfl (by omega) (by omega) (by rw [hz2]; omega) (by unfold maxLen; omega) (Nat.le_refl _) ?_)
  intro w6 hown hg6
  rw [made32, List.nil_append] at hown
  have hb6 : Below w.heap.size w w6 := (Below.refl _ _).grown hg6 (Nat.le_refl _) (by simp)
  obtain ⟨g, hg⟩ : ∃ g, g = w.heap.size := ⟨_, rfl⟩
  have HG := Lib.hid hg
  rw [← hg] at hown hb6 ⊢
  clear hg hg6
  go_wp2_with fail
  go_loopw [7, 8] (fun s5 s6 wr => ∃ (k : Nat) (z r : Int) (q : List Int), k ≤ n ∧ z = (k : Int) - 1 ∧ s6 = .int .i64 z ∧ s5 = .int .u64 r ∧ 0 ≤ r ∧ r < 10 ∧ Hid (q.length = n - k ∧ Lim q ∧ val (a.drop k) = val q * 10 + r.toNat) ∧
    wr.ownsRow g 98 1 (.slice (some ⟨g, 0, none⟩) n n) n (ints .u32 ((List.replicate n (0 : Int)).take k ++ q)) ∧ Below g w wr) (fun _ i _ => ((intOf i) + 1).toNat)
  case atStart =>
    refine ⟨n, (n : Int) - 1, 0, [], Nat.le_refl _, rfl, rfl, rfl, Int.le_refl _, by decide, Lib.hid ⟨by simp, Lim.nil, ?_⟩, ?_, hb6⟩
    · rw [List.drop_eq_nil_of_le (by have := HL.out; omega)]; rfl
    · rw [List.take_of_length_le (by simp), List.append_nil]; exact hown
  case round =>
    obtain ⟨k, z, r, q, hk, hz, rfl, rfl, hr0, hr1, HQ, ol, hb⟩ := hrel
    rename World => wr
    rcases k with _ | j
    · have hz1' : z < 0 := by omega
      obtain ⟨rn, rfl⟩ := Int.eq_ofNat_of_zero_le hr0
      have hq := HQ.out
      rw [List.drop_zero, HV.out, Int.toNat_natCast] at hq
      rw [List.take_zero, List.nil_append] at ol
      have hdiv : val q = V / 10 ∧ rn = V % 10 := by omega
      have hT := newK _ (rtrim_any (some ⟨g, 0, none⟩) n n _ q wr (Row.own ol) hq.2.1 (by omega) (Nat.le_refl _) (by omega)) rfl
      rw [hdiv.1] at hT
      have HTr := Lib.hid hT
      have HB := Lib.hid hb
      have HRn := Lib.hid hdiv.2
      clear hq hdiv hT ol hb HQ
      go_wp2_with fail
      with_reducible refine HTr.out.mono ?_
      rintro e w5 ⟨B, d, rfl, rB, b5⟩
      have hB2 : Below w.heap.size w w5 := next (HG.out ▸ HB.out) b5
      go_wp2
      go_ret2
      rw [← HRn.out]
      exact ⟨B, _, d, rfl, ⟨rfl, rB⟩, hB2⟩
    · obtain rfl : z = (j : Int) := by omega
      have hj : j < n := hk
      have hfz := ol.frozenAt j
      obtain ⟨x, hx⟩ : ∃ x, a.getD j 0 = x := ⟨_, rfl⟩
      have hcella : wr.cell? ⟨b0, off + j, none⟩ = some (.int .u32 x) := (hb.cell (p := ⟨b0, off + j, none⟩) (by rw [HG.out]; exact hblt)).trans ((HCl.out j hj).trans (by rw [ints_get _ _ _ (by have := HL.out; omega), hx]))
      have hcello := (ol.cellAt j (by omega)).trans (take_at (a := List.replicate n 0) List.length_replicate hj)
      have hxl := HA.out.at j
      rw [hx] at hxl
      obtain ⟨Q, hQ⟩ : ∃ Q, (r * 4294967296 + x) / 10 = Q := ⟨_, rfl⟩
      obtain ⟨R, hR⟩ : ∃ R, (r * 4294967296 + x) % 10 = R := ⟨_, rfl⟩
      have HS := Lib.hid (tenth_step HL.out hj HA.out ⟨hr0, hr1⟩ hx hQ hR HQ.out.2.2)
      have hX0 : 0 ≤ r * 4294967296 + x := by omega
      have hX1 : r * 4294967296 + x ≤ 18446744073709551615 := by omega
      have hQ2 : (r * 4294967296 + x).tdiv 10 = Q := by rw [Int.tdiv_eq_ediv_of_nonneg hX0, hQ]
      have hR2 : (r * 4294967296 + x).tmod 10 = R := by rw [Int.tmod_eq_emod_of_nonneg hX0, hR]
      have hq0 := HS.out.2.1
      have hq1 := HS.out.2.2.1
      have hR0 := HS.out.2.2.2.1
      have hR1 := HS.out.2.2.2.2
      have hj0 : (0 : Int) ≤ (j : Int) := by omega
      have hj1 : (j : Int) < (n : Int) := by omega
      obtain ⟨hx0, hx1⟩ := hxl
      have HO := Lib.hid ol
      have HB := Lib.hid hb
      have hst := Lib.hid (ol.stored j (.int .u32 Q))
      clear ol hb hz hk hx
      go_wp2_with fail
      have hs := hst.out
      rw [set_take Q List.length_replicate hj] at hs
      refine ⟨⟨j, (j : Int) - 1, R, Q :: q, by omega, rfl, rfl, rfl, hR0, hR1, Lib.hid ⟨by have := HQ.out.1; simp; omega, (Lim.one hq0 hq1).app HQ.out.2.1, HS.out.1⟩, hs.1, ?_⟩, ?_⟩
      · exact HB.out.grown hs.2 (by rw [HG.out]; exact HG.out ▸ HB.out.size) (fun k hk => by injection hk with hk; omega)
      · simp [intOf]


/-- The digits of a number; of nought: none. -/
def pre (v : Nat) : List UInt8 := if v = 0 then [] else Lib.decDigits v
theorem pre_step {v : Nat} (h : v ≠ 0) : pre v = pre (v / 10) ++ [UInt8.ofNat (48 + v % 10)] := by
  rw [pre, if_neg h, Lib.decDigits]
  by_cases h1 : v < 10
  · rw [dif_pos h1, pre, if_pos (by omega), Nat.mod_eq_of_lt h1]; rfl
  · rw [dif_neg h1, pre, if_neg (by omega)]
theorem dec_lenN : ∀ (k v : Nat), v < 2 ^ k → (Lib.decDigits v).length ≤ k + 1
  | 0, v, h => by
    obtain rfl : v = 0 := by simpa using h
    rw [Lib.decDigits, dif_pos (by decide)]; simp
  | k + 1, v, h => by
    rw [Lib.decDigits]
    split
    · simp
    · rw [List.length_append]
      have := dec_lenN k (v / 10) (by rw [Nat.pow_succ] at h; omega)
      simp; omega
def rTextL (a : List Int) : List UInt8 := if chk a = 0 then Lib.decDigits (val a) else []

theorem le_trans_limbs {w : World} {v n : Nat} {A : Option Addr} (h : Got w v n A) (hn : n ≤ 64) : (limbs (v / 10)).length ≤ 64 := by
  refine limbs_len ?_
  have h1 := val_lt (lim_limbs v)
  rw [val_limbs, h.1] at h1
  exact Nat.lt_of_le_of_lt (Nat.div_le_self _ _) (Nat.lt_of_lt_of_le h1 (Nat.pow_le_pow_right (by decide) hn))
set_option maxRecDepth 100000 in
set_option maxHeartbeats 1000000 in
theorem rText_some (A : Option Addr) (n c : Nat) (V : Nat) (w : World) (hg : Got w V n A) (hn : n ≤ 64) (hp : 0 < n) :
    Calls Tryz.prog 66 #[.slice A n c] w fun e w' => e = .returned (.tuple #[.string ⟨(Lib.decDigits V).toArray⟩, .int .i64 0]) ∧ Below w.heap.size w w' := by
  have hV : V ≠ 0 := by rintro rfl; have := hg.1; rw [limbs_zero] at this; simp at this; omega
  have HP : Hid (pre V = Lib.decDigits V) := Lib.hid (by rw [pre, if_neg hV])
  have hC := rCheck_any A n c _ _ w hg.2
  rw [chk_limbs (by rw [hg.1]; exact hn)] at hC
  have HC := Lib.hid hC
  have HGot := Lib.hid hg
  have hpz : ((n : Int) == 0) = false := by simp; omega
  clear hC hg hV
  go_enter Tryz.func66, Tryz.ntmps66
  go_wp2_with fail
  with_reducible refine HC.out.mono ?_
  rintro e w' ⟨rfl, rfl⟩
  go_wp2_with fail
  have HK : Hid ((Lib.decDigits V).length ≤ 3000) := Lib.hid (by
    have h1 := val_lt (lim_limbs V)
    rw [val_limbs, HGot.out.1, pow32] at h1
    have := dec_lenN _ _ h1
    omega)
  go_loopg [0, 5] V (fun v s0 s5 wx => ∃ (n : Nat) (A : Option Addr) (c : Nat) (l : List UInt8) (ob : ByteArray), s0 = .slice A n c ∧ s5 = .string ob ∧ n ≤ 64 ∧ Hid ((⟨l.toArray⟩ : ByteArray) = ob) ∧ Hid (pre v ++ l = Lib.decDigits V) ∧ Got wx v n A ∧ Below w.heap.size w wx)
  case atStart => exact ⟨n, A, c, [], _, rfl, rfl, hn, Lib.hid rfl, Lib.hid (by rw [List.append_nil]; exact HP.out), HGot.out, Below.refl _ _⟩
  case round =>
    obtain ⟨m, B, d, l, ob, rfl, rfl, hm, HO, HL, hgot, hb⟩ := hrel
    rename World => ws
    by_cases h0 : 0 < m
    · have h0' : (0 : Int) < (m : Int) := by omega
      have hgk : gk ≠ 0 := by rintro rfl; have := hgot.1; rw [limbs_zero] at this; simp at this; omega
      have HS := Lib.hid (small_ten B m d gk ws hgot (by omega) h0)
      obtain ⟨dn, hdn⟩ : ∃ x, gk % 10 = x := ⟨_, rfl⟩
      have hd10 : dn < 10 := by omega
      obtain ⟨b, hbb⟩ : ∃ b, UInt8.ofNat (48 + dn) = b := ⟨_, rfl⟩
      have hbn : ((b.toNat : Nat) : Int) = 48 + (dn : Int) := by rw [← hbb]; simp; omega
      obtain ⟨bb, hb1⟩ : ∃ bb : ByteArray, (⟨[b].toArray⟩ : ByteArray) = bb := ⟨_, rfl⟩
      obtain ⟨nb, hnb⟩ : ∃ nb : ByteArray, (⟨(b :: l).toArray⟩ : ByteArray) = nb := ⟨_, rfl⟩
      have hcv : ∀ W : World, (convert 45 9 (.slice (some ⟨W.heap.size, 0, none⟩) 1 1)).run Tryz.prog (W.alloc (.cells #[.int .u8 (48 + (dn : Int))] 5)) = .ok (.string bb) (W.alloc (.cells #[.int .u8 (48 + (dn : Int))] 5)) := fun W => by
        have := run_convert_bytes_back (P := Tryz.prog) (W.alloc (.cells #[.int .u8 (48 + (dn : Int))] 5)) 45 9 5 ⟨W.heap.size, 0, none⟩ 1 [b] Tryz.underlying45 Tryz.underlying5 Tryz.underlying9 (fun j hj => by
          obtain rfl : j = 0 := by simpa using hj
          show (W.alloc (.cells #[.int .u8 (48 + (dn : Int))] 5)).cell? ⟨W.heap.size, 0 + 0, none⟩ = some (.int .u8 ((b.toNat : Nat) : Int))
          rw [hbn, World.cell?_alloc_at _ _ _ _ (by simp)]
          rfl)
        rw [hb1] at this
        exact this
      have hlb : l.length ≤ 3000 := by
        have h1 := congrArg List.length HL.out
        rw [List.length_append] at h1
        have := HK.out
        omega
      have hadd : ∀ W : World, (Op.stringOp .add bb ob).run Tryz.prog W = .ok (.string nb) W := fun W => by
        rw [run_string_add_sum W bb ob (by
          have h1 : bb.size = 1 := by rw [← hb1]; rfl
          have h2 : ob.size = l.length := by rw [← HO.out]; rfl
          omega), ← hb1, ← HO.out, bytes_app, ← hnb]
        rfl
      have HN := Lib.hid hnb
      have HL2 : Hid (pre (gk / 10) ++ b :: l = Lib.decDigits V) := Lib.hid (by rw [← HL.out, pre_step hgk, hdn, hbb, List.append_assoc]; rfl)
      have hmeas : gk / 10 < gk := by omega
      have hml := le_trans_limbs hgot hm
      rw [hdn] at HS
      have HB := Lib.hid hb
      clear hgot hb hbn hb1 hnb hdn hbb HO HL
      go_wp2_with fail
      with_reducible refine HS.out.mono ?_
      rintro e w5 ⟨B2, m2, d2, rfl, g2, b2⟩
      go_wp2_with fail
      go_roundg (gk / 10)
      case rel => exact ⟨m2, B2, d2, b :: l, nb, rfl, rfl, g2.1 ▸ hml, HN, HL2, g2.on ((Below.refl _ w5).alloc (Nat.le_refl _) _), (next HB.out b2).alloc (next HB.out b2).size _⟩
      case measure => exact hmeas
    · have hgk : gk = 0 := by
        have h1 := val_lt (lim_limbs gk)
        rw [val_limbs, hgot.1, show m = 0 by omega] at h1
        simpa using h1
      subst hgk
      have hl : l = Lib.decDigits V := by have := HL.out; rwa [pre, if_pos rfl, List.nil_append] at this
      subst hl
      have HB := Lib.hid hb
      clear hgot hb
      go_wp2_with fail
      go_ret2
      rw [HO.out]
      exact ⟨rfl, HB.out⟩

theorem rText_any (A : Option Addr) (n c : Nat) (a : List Int) (w : World) (hr : Row w w.heap.size A n (ints .u32 a)) (ha : Lim a) :
    Calls Tryz.prog 66 #[.slice A n c] w fun e w' => e = .returned (.tuple #[.string ⟨(rTextL a).toArray⟩, .int .i64 (chk a)]) ∧ Below w.heap.size w w' := by
  have hl := row_len hr
  by_cases hx : chk a = 0
  · by_cases hp : 0 < n
    · rw [rTextL, if_pos hx, hx]
      have hE := limbs_of hx ha
      have hlen := chk_len hx
      exact rText_some A n c (val a) w ⟨by rw [hE]; exact hl, by rw [hE]; exact hr⟩ (by omega) hp
    · have hT : rTextL a = [48] := by
        rw [rTextL, if_pos hx, List.eq_nil_of_length_eq_zero (show a.length = 0 by omega)]
        rw [Lib.decDigits, dif_pos (by decide)]
        rfl
      have HC := rCheck_any A n c _ a w hr
      rw [hx] at HC
      replace HC := Lib.hid HC
      rw [hT, hx]
      have hn0 : ((n : Int) == 0) = true := by simp; omega
      clear hr ha hT
      go_enter Tryz.func66, Tryz.ntmps66
      go_wp2_with fail
      with_reducible refine HC.out.mono ?_
      rintro e w' ⟨rfl, rfl⟩
      go_wp2
      go_ret2
      exact ⟨rfl, Below.refl _ _⟩
  · have hT : rTextL a = [] := by rw [rTextL, if_neg hx]
    have HC := Lib.hid (rCheck_any A n c _ a w hr)
    rw [hT]
    have hxx : ¬ chk a = 0 := hx
    obtain ⟨x, hxe⟩ : ∃ x, chk a = x := ⟨_, rfl⟩
    rw [hxe] at HC hxx ⊢
    have hb : (x != 0) = true := by simp [bne, hxx]
    clear hr ha hT hxe hx
    go_enter Tryz.func66, Tryz.ntmps66
    go_wp2_with fail
    with_reducible refine HC.out.mono ?_
    rintro e w' ⟨rfl, rfl⟩
    go_wp2
    go_ret2
    exact ⟨rfl, Below.refl _ _⟩

/-- The last k digits. -/
def zp : Nat → Nat → List UInt8
  | 0, _ => []
  | k + 1, b => zp k (b / 10) ++ [UInt8.ofNat (48 + b % 10)]
theorem dec_zp : ∀ (k a b : Nat), a ≠ 0 → b < 10 ^ k → Lib.decDigits (a * 10 ^ k + b) = Lib.decDigits a ++ zp k b
  | 0, a, b, _, hb => by
    obtain rfl : b = 0 := by simpa using hb
    simp [zp]
  | k + 1, a, b, ha, hb => by
    have hp : 0 < 10 ^ k := Nat.pow_pos (by decide)
    have h1 : 10 ^ k ≤ a * 10 ^ k := Nat.le_mul_of_pos_left _ (Nat.pos_of_ne_zero ha)
    have e : a * 10 ^ (k + 1) = 10 * (a * 10 ^ k) := by rw [Nat.pow_succ, ← Nat.mul_assoc, Nat.mul_comm]
    rw [Nat.pow_succ] at hb
    have ih := dec_zp k a (b / 10) ha (by omega)
    rw [Lib.decDigits, dif_neg (by rw [e]; omega), e, show (10 * (a * 10 ^ k) + b) / 10 = a * 10 ^ k + b / 10 by omega, show (10 * (a * 10 ^ k) + b) % 10 = b % 10 by omega, ih, zp, List.append_assoc]
theorem zp_zero : ∀ k, zp k 0 = List.replicate k 48
  | 0 => rfl
  | k + 1 => by rw [zp, Nat.zero_div, zp_zero k, List.replicate_succ']; rfl
theorem zp_pad : ∀ (k b : Nat), b < 10 ^ (k + 1) → zp (k + 1) b = List.replicate (k + 1 - (Lib.decDigits b).length) 48 ++ Lib.decDigits b
  | 0, b, h => by
    rw [Lib.decDigits, dif_pos (by simpa using h), zp, zp, Nat.mod_eq_of_lt (by simpa using h)]
    rfl
  | k + 1, b, h => by
    rw [zp]
    by_cases h1 : b < 10
    · rw [Nat.div_eq_of_lt h1, zp_zero, Nat.mod_eq_of_lt h1, Lib.decDigits, dif_pos h1]
      rfl
    · have ih := zp_pad k (b / 10) (by rw [Nat.pow_succ] at h; omega)
      have e : Lib.decDigits b = Lib.decDigits (b / 10) ++ [UInt8.ofNat (48 + b % 10)] := by rw [Lib.decDigits, dif_neg h1]
      rw [ih, e, List.length_append, List.append_assoc]
      congr 2
      simp
theorem rep_zero : ∀ n, Lib.repeatL [48] n = List.replicate n 48
  | 0 => rfl
  | n + 1 => by rw [Lib.repeatL, rep_zero n]; rfl
/-- The groups of nine digits, from the top, are the digits. -/
theorem dec_group (v : Nat) (hv : v / 1000000000 ≠ 0) : Lib.decDigits v = Lib.decDigits (v / 1000000000) ++ padL (Lib.decDigits (v % 1000000000)) := by
  have h1 := dec_zp 9 (v / 1000000000) (v % 1000000000) hv (Nat.mod_lt _ (by decide))
  rw [show v / 1000000000 * 10 ^ 9 + v % 1000000000 = v by omega, zp_pad 8 _ (Nat.mod_lt _ (by decide))] at h1
  rw [h1, padL, rep_zero]
theorem textOf_dec (v : Nat) : textOf v = Lib.decDigits v := by
  induction v using Nat.strongRecOn with
  | _ v ih =>
    by_cases h : v = 0
    · subst h; rw [textOf, if_pos rfl, Lib.decDigits, dif_pos (by decide)]; rfl
    · rw [textOf, if_neg h, groups_pos h]
      by_cases h1 : v / 1000000000 = 0
      · rw [if_pos h1, h1, groups_zero, Nat.mod_eq_of_lt (by omega)]; simp
      · have := ih (v / 1000000000) (by omega)
        rw [textOf, if_neg h1] at this
        rw [if_neg h1, List.reverse_cons, List.flatten_append, this, dec_group v h1]
        simp
end Go.Proofs.YtdmflofdchmfhaaGreatDoor
