/- nat: Check, checkBoth, limb, trim; the document's trim. -/
import Derived.Test.YtlpfcilgndbopaaDoorNMath
import Derived.Deep.QuietTactic
import Derived.BigQuiet
import Derived.WalkSpells
namespace Go.Proofs.YtlpfcilgndbopaaDoor
open Go.RowKit

theorem ret_int {k : IntKind} {a b : Int} (h : a = b) : Ending.returned (.int k a) = .returned (.int k b) := by rw [h]
theorem u32_info : (Tryd.prog.info? 34).map (fun i => (i.zero, i.size, i.bytes)) = some (some (.int .u32 0), 1, 4) := by kernel_rfl

theorem Row.takeI {w : World} {B n k : Nat} {A : Option Addr} {k0 : IntKind} {zs : List Int} (h : Row w B A n (ints k0 zs)) (hk : k ≤ n) : Row w B A k (ints k0 (zs.take k)) := by
  have h1 := h.1
  rw [ints_len] at h1
  refine ⟨by rw [ints_len, List.length_take]; omega, fun h0 => ?_⟩
  obtain ⟨b, off, e, hb, hc⟩ := h.2 (by omega)
  exact ⟨b, off, e, hb, fun j hj => by rw [hc j (by omega), ints_get _ _ _ (by omega), ints_get _ _ _ (by rw [List.length_take]; omega)]; simp [List.getD_eq_getElem?_getD, List.getElem?_take, hj]⟩

/-- One cell of a row of numbers. -/
theorem Row.int {w : World} {B n : Nat} {b off : Nat} {k : IntKind} {zs : List Int} (h : Row w B (some ⟨b, off, none⟩) n (ints k zs)) {j : Nat} (hj : j < n) : w.cell? ⟨b, off + j, none⟩ = some (.int k (zs.getD j 0)) := by
  have h1 := h.1
  rw [ints_len] at h1
  exact (h.cell hj).trans (ints_get _ _ _ (by omega))

/-- What Check answers. -/
def chk (a : List Int) : Int := if 64 < a.length then 5 else if a.getLast? = some 0 then 2 else 0
theorem chk_ok {a : List Int} : chk a = 0 ↔ a.length ≤ 64 ∧ Top a := by
  unfold chk Top
  by_cases h : 64 < a.length
  · rw [if_pos h]; constructor
    · intro e; omega
    · intro e; omega
  · rw [if_neg h]
    by_cases h2 : a.getLast? = some 0
    · rw [if_pos h2]; constructor
      · intro e; omega
      · intro e; exact absurd h2 e.2
    · rw [if_neg h2]; exact ⟨fun _ => ⟨by omega, h2⟩, fun _ => rfl⟩
theorem getLast_at {a : List Int} {n : Nat} (h : a.length = n) (h0 : 0 < n) : a.getLast? = some (a.getD (n - 1) 0) := by
  subst h
  rw [List.getLast?_eq_getElem?, List.getD_eq_getElem?_getD, List.getElem?_eq_getElem (by omega), Option.getD_some]

theorem Check_any (A : Option Addr) (n c B : Nat) (a : List Int) (w : World) (hr : Row w B A n (ints .u32 a)) :
    Calls Tryd.prog 24 #[.slice A n c] w fun e w' => e = .returned (.int .i64 (chk a)) ∧ w = w' := by
  have hl := hr.1
  rw [ints_len] at hl
  have HL := Lib.hid hl
  by_cases h64 : 64 < n
  · have HC : Hid (chk a = 5) := by unfold Hid chk; rw [if_pos (by omega)]
    clear hl hr
    go_enter Tryd.func24, Tryd.ntmps24
    go_wp2
    go_ret
    exact ⟨ret_int HC.out.symm, rfl⟩
  · by_cases h0 : 0 < n
    · obtain ⟨b, off, rfl, hb, hc⟩ := hr.2 h0
      have hcell : w.cell? ⟨b, off + (n - 1), none⟩ = some (.int .u32 (a.getD (n - 1) 0)) := hr.int (by omega)
      have HC : Hid (chk a = if a.getD (n - 1) 0 = 0 then 2 else 0) := by
        unfold Hid chk
        rw [if_neg (by omega), getLast_at hl h0]
        simp
      have h1 : (1 : Int) ≤ n := by omega
      have h2 : (n : Int) ≤ 64 := by omega
      clear hl hr hc h64
      generalize a.getD (n - 1) 0 = x at *
      by_cases hx : x = 0
      · subst hx
        go_enter Tryd.func24, Tryd.ntmps24
        go_wp2
        go_ret
        exact ⟨ret_int (by rw [HC.out]; rfl), rfl⟩
      · have hd : (x == 0) = false := by simpa using hx
        have HX := Lib.hid hx
        clear hx
        go_enter Tryd.func24, Tryd.ntmps24
        go_wp2
        go_ret
        exact ⟨ret_int (by rw [HC.out, if_neg HX.out]), rfl⟩
    · obtain rfl : n = 0 := by omega
      obtain rfl : a = [] := List.eq_nil_of_length_eq_zero hl
      clear hr HL h64 h0
      go_enter Tryd.func24, Tryd.ntmps24
      go_wp2
      go_ret
      exact ⟨rfl, rfl⟩
/-- What checkBoth answers. -/
def chk2 (a b : List Int) : Int := if chk a ≠ 0 then chk a else chk b
theorem checkBoth_any (A A' : Option Addr) (n c n' c' B : Nat) (a b : List Int) (w : World) (hr : Row w B A n (ints .u32 a)) (hr' : Row w B A' n' (ints .u32 b)) :
    Calls Tryd.prog 42 #[.slice A n c, .slice A' n' c'] w fun e w' => e = .returned (.int .i64 (chk2 a b)) ∧ w = w' := by
  have HC := Lib.hid (show chk2 a b = if chk a ≠ 0 then chk a else chk b from rfl)
  have H1 := Lib.hid (Check_any A n c B a w hr)
  have H2 := Lib.hid (Check_any A' n' c' B b w hr')
  clear hr hr'
  generalize chk a = x at *
  generalize chk b = y at *
  by_cases hx : x = 0
  · subst hx
    go_enter Tryd.func42, Tryd.ntmps42
    go_wp2_with fail
    refine H1.out.mono ?_
    rintro e w' ⟨rfl, rfl⟩
    go_wp2_with fail
    refine H2.out.mono ?_
    rintro e w' ⟨rfl, rfl⟩
    go_wp2
    go_ret
    exact ⟨ret_int (by rw [HC.out]; rfl), rfl⟩
  · have hd : (x == 0) = false := by simpa using hx
    have HX := Lib.hid hx
    clear hx
    go_enter Tryd.func42, Tryd.ntmps42
    go_wp2_with fail
    refine H1.out.mono ?_
    rintro e w' ⟨rfl, rfl⟩
    go_wp2
    go_ret
    exact ⟨ret_int (by rw [HC.out, if_pos HX.out]), rfl⟩

theorem limb_any (A : Option Addr) (n c B : Nat) (a : List Int) (i : Nat) (w : World) (hr : Row w B A n (ints .u32 a)) (_hi : i ≤ 9223372036854775807) :
    Calls Tryd.prog 44 #[.slice A n c, .int .i64 i] w fun e w' => e = .returned (.int .u32 (a.getD i 0)) ∧ w = w' := by
  have hl := hr.1
  rw [ints_len] at hl
  by_cases hin : i < n
  · obtain ⟨b, off, rfl, hb, hc⟩ := hr.2 (by omega)
    have hcell := hr.int hin
    have h0 : (0 : Int) ≤ (i : Int) := by omega
    have h1 : (i : Int) < (n : Int) := by omega
    clear hl hr hc
    generalize a.getD i 0 = x at *
    go_enter Tryd.func44, Tryd.ntmps44
    go_wp2
    go_ret
    exact ⟨rfl, rfl⟩
  · have HX : Hid (a.getD i 0 = 0) := by unfold Hid; rw [List.getD_eq_getElem?_getD, List.getElem?_eq_none (by omega)]; rfl
    have h1 : ((n : Int)) ≤ (i : Int) := by omega
    clear hl hr
    go_enter Tryd.func44, Tryd.ntmps44
    go_wp2
    go_ret
    exact ⟨ret_int HX.out.symm, rfl⟩

theorem limb_at (A : Option Addr) (n c B : Nat) (a : List Int) (i : Nat) (x : Int) (w : World) (hr : Row w B A n (ints .u32 a)) (hi : i ≤ 9223372036854775807) (hx : Hid (a.getD i 0 = x)) :
    Calls Tryd.prog 44 #[.slice A n c, .int .i64 i] w fun e w' => e = .returned (.int .u32 x) ∧ w = w' := by
  have := limb_any A n c B a i w hr hi
  rwa [hx.out] at this

theorem val_drop_zero {a : List Int} {k : Nat} (h : k < a.length) (h0 : a.getD k 0 = 0) : val (a.take (k + 1)) = val (a.take k) := by
  rw [val_take a k h, h0]; simp
/-- trim leaves the one list of the value; it lies where the list lay. -/
theorem trim_any (b off n c B : Nat) (a : List Int) (w : World) (hr : Row w B (some ⟨b, off, none⟩) n (ints .u32 a)) (hlim : Lim a) (hn : n ≤ 9223372036854775807) (hc : n ≤ c) (hc2 : c ≤ 9223372036854775807) :
    Calls Tryd.prog 45 #[.slice (some ⟨b, off, none⟩) n c] w fun e w' => e = .returned (.slice (some ⟨b, off, none⟩) (limbs (val a)).length c) ∧ (limbs (val a)) = a.take (limbs (val a)).length ∧ w = w' := by
  have hl := hr.1
  rw [ints_len] at hl
  go_enter Tryd.func45, Tryd.ntmps45
  go_wp2
  go_loopw [0] (fun s wr => ∃ k : Nat, k ≤ n ∧ s = .slice (some ⟨b, off, none⟩) k c ∧ Hid (val (a.take k) = val a) ∧ w = wr) (fun s _ => match s with | .slice _ k _ => k | _ => 0)
  case atStart => exact ⟨n, Nat.le_refl _, rfl, Lib.hid (by rw [List.take_of_length_le (by omega)]), rfl⟩
  case round =>
    obtain ⟨k, hk, rfl, HV, rfl⟩ := hrel
    by_cases h0 : 0 < k
    · have hcell : w.cell? ⟨b, off + (k - 1), none⟩ = some (.int .u32 (a.getD (k - 1) 0)) := hr.int (by omega)
      have h1 : (1 : Int) ≤ k := by omega
      by_cases hx : a.getD (k - 1) 0 = 0
      · rw [hx] at hcell
        have HV2 : Hid (val (a.take (k - 1)) = val a) := Lib.hid (by
          have := val_drop_zero (a := a) (k := k - 1) (by omega) hx
          rw [show k - 1 + 1 = k by omega] at this
          rw [← this]; exact HV.out)
        clear hx HV
        go_wp2
        go_roundw
        case rel => exact ⟨k - 1, by omega, by go_num, HV2, by first | rfl | trivial⟩
        case measure => simp; omega
      · have HL : Hid (limbs (val a) = a.take k) := Lib.hid (by
          rw [← HV.out]
          refine limbs_val (hlim.take k) ?_
          unfold Top
          rw [getLast_at (n := k) (by rw [List.length_take]; omega) h0]
          intro e
          injection e with e
          apply hx
          rw [List.getD_eq_getElem?_getD, List.getElem?_take, if_pos (show k - 1 < k by omega)] at e
          rw [List.getD_eq_getElem?_getD]; exact e)
        have hd : (a.getD (k - 1) 0 == 0) = false := by simpa using hx
        have HK : Hid ((a.take k).length = k) := Lib.hid (by rw [List.length_take]; omega)
        generalize a.getD (k - 1) 0 = x at *
        clear hx HV hr
        go_wp2
        go_ret
        rw [HL.out, HK.out]
        exact ⟨rfl, rfl, rfl⟩
    · obtain rfl : k = 0 := by omega
      have HL : Hid (limbs (val a) = []) := Lib.hid (by rw [← HV.out]; simp [val, limbs_zero])
      clear HV hr
      go_wp2
      go_ret
      rw [HL.out]
      exact ⟨rfl, rfl, rfl⟩
end Go.Proofs.YtlpfcilgndbopaaDoor
