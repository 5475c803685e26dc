/- The document's Copy and trim; the law's near: new memory. -/
import Derived.Test.YtlpfcilgndbopaaDoorNRef
namespace Go.Proofs.YtlpfcilgndbopaaDoor
open Go.RowKit

theorem u32_parts : ∃ i0, Tryd.prog.info? 34 = some i0 ∧ i0.zero = some (.int .u32 0) ∧ i0.size = 1 ∧ i0.bytes = 4 := by
  have h := u32_info
  cases hi : Tryd.prog.info? 34 with
  | none => rw [hi] at h; cases h
  | some i => rw [hi] at h; simp only [Option.map_some, Option.some.injEq, Prod.mk.injEq] at h; exact ⟨i, rfl, h.1, h.2.1, h.2.2⟩

/-- A new row of limbs, the call's own. -/
def New (w : World) (l : List Int) (e : Ending) (w' : World) : Prop :=
  ∃ A c, e = .returned (.slice A l.length c) ∧ w'.ownsRow w.heap.size 34 1 (.slice A l.length c) l.length (ints .u32 l) ∧ Below w.heap.size w w'

theorem own_slice32 {w : World} {base n : Nat} {v : Value} {xs : List Value} (h : w.ownsRow base 34 1 v n xs) : ∃ A c, v = .slice A n c := by
  obtain ⟨_, h⟩ := h
  rcases h with ⟨hv, hn⟩ | ⟨g, cap, cur, hv, _⟩
  · exact ⟨none, 0, by rw [hv, hn]⟩
  · exact ⟨_, cap, hv⟩

theorem own_cap32 {w : World} {base n c : Nat} {A : Option Addr} {xs : List Value} (h : w.ownsRow base 34 1 (.slice A n c) n xs) : n ≤ c ∧ c ≤ 9223372036854775807 := by
  rcases h.2 with ⟨e0, h0⟩ | ⟨g', cap', cur, e0, _, _, hn, hm, _⟩
  · injection e0 with _ _ e3
    omega
  · injection e0 with _ _ e3
    subst e3
    unfold maxLen at hm
    omega

theorem Copy_any (A : Option Addr) (n c B : Nat) (a : List Int) (w : World) (hr : Row w B A n (ints .u32 a)) (hn : n ≤ 50000000000000) :
    Calls Tryd.prog 12 #[.slice A n c] w (New w a) := by
  obtain ⟨i0, hi, hz0, hz1, hz2⟩ := u32_parts
  have hl := hr.1
  rw [ints_len] at hl
  go_enter Tryd.func12, Tryd.ntmps12
  go_wp2_with (at_builtin; refine wpList_app _ rfl (.const (.slice none 0 0)) (.tmp 3) 22 rfl w.heap.size 34 i0 (.int .u32 0) 4 Tryd.underlying22 hi hz0 hz1 hz2 rfl _ 0 [] rfl (World.ownsRow_nil _ _ _ _) _ _ _ _ _ rfl hr (ints_one _ _) (by unfold maxLen; omega) (by omega) (Nat.le_refl _) ?_)
  intro v' w1 hown _ hb
  obtain ⟨A1, c1, rfl⟩ := own_slice32 hown
  subst hl
  go_wp2
  go_ret
  exact ⟨A1, c1, rfl, hown, hb⟩

theorem val_take_zero {a : List Int} {n k : Nat} (hn : a.length = n) (hk : 0 < k) (hkn : k ≤ n) (h0 : a.getD (k - 1) 0 = 0) (h : val (a.take k) = val a) : val (a.take (k - 1)) = val a := by
  have := val_drop_zero (a := a) (k := k - 1) (by omega) h0
  rw [show k - 1 + 1 = k by omega] at this
  rw [← this]; exact h
theorem limbs_take {a : List Int} {n k : Nat} (hlim : Lim a) (hn : a.length = n) (hk : 0 < k) (hkn : k ≤ n) (h0 : a.getD (k - 1) 0 ≠ 0) (h : val (a.take k) = val a) : limbs (val a) = a.take k := by
  rw [← h]
  refine limbs_val (hlim.take k) ?_
  unfold Top
  rw [getLast_at (n := k) (by rw [List.length_take]; omega) hk]
  intro e
  injection e with e
  rw [List.getD_eq_getElem?_getD, List.getElem?_take, if_pos (show k - 1 < k by omega)] at e
  exact h0 (by rw [List.getD_eq_getElem?_getD]; exact e)

/-- The document's trim: the one list of the value, in new memory. -/
theorem rtrim_any (A : Option Addr) (n c B : Nat) (a : List Int) (w : World) (hr : Row w B A n (ints .u32 a)) (hlim : Lim a) (hn : n ≤ 50000000000000) (hc : n ≤ c) (hc2 : c ≤ 9223372036854775807) :
    Calls Tryd.prog 54 #[.slice A n c] w (New w (limbs (val a))) := by
  obtain ⟨i0, hi, hz0, hz1, hz2⟩ := u32_parts
  have hl := hr.1
  rw [ints_len] at hl
  have HM := Lib.hid hlim
  have HL := Lib.hid hl
  clear hl hlim
  go_enter Tryd.func54, Tryd.ntmps54
  go_wp2
  go_loopw [3] (fun i wr => ∃ k : Nat, k ≤ n ∧ i = .int .i64 k ∧ Hid (val (a.take k) = val a) ∧ w = wr) (fun i _ => (intOf i).toNat)
  case atStart => exact ⟨n, Nat.le_refl _, rfl, Lib.hid (by rw [List.take_of_length_le (by have := HL.out; omega)]), rfl⟩
  case round =>
    obtain ⟨k, hk, rfl, HV, rfl⟩ := hrel
    have tail : (h0 : Bool) → (k = 0 ∨ (0 < k ∧ a.getD (k - 1) 0 ≠ 0)) → limbs (val a) = a.take k := by
      intro _ h
      rcases h with rfl | ⟨h1, h2⟩
      · rw [← HV.out]; simp [val, limbs_zero]
      · exact limbs_take HM.out HL.out h1 hk h2 HV.out
    by_cases h0 : 0 < k
    · obtain ⟨b, off, rfl, _, _⟩ := hr.2 (by omega)
      have hcell : w.cell? ⟨b, off + (k - 1), none⟩ = some (.int .u32 (a.getD (k - 1) 0)) := hr.int (by omega)
      have h1 : (1 : Int) ≤ k := by omega
      have h2 : (k : Int) ≤ n := by omega
      by_cases hx : a.getD (k - 1) 0 = 0
      · rw [hx] at hcell
        have HV2 : Hid (val (a.take (k - 1)) = val a) := Lib.hid (val_take_zero HL.out h0 hk hx HV.out)
        clear hx HV tail
        go_wp2
        go_roundw
        case rel => exact ⟨k - 1, by omega, by go_num, HV2, by first | rfl | trivial⟩
        case measure => simp [intOf]; omega
      · have HT : Hid (limbs (val a) = a.take k) := Lib.hid (tail true (.inr ⟨h0, hx⟩))
        obtain ⟨x, hxx⟩ : ∃ x, a.getD (k - 1) 0 = x := ⟨_, rfl⟩
        rw [hxx] at hcell hx
        have hd : (x == 0) = false := by simpa using hx
        have hrt := hr.takeI hk
        clear hx hxx HV tail hr
        have hkc : (k : Int) ≤ c := by omega
        go_wp2_with (at_builtin; refine wpList_app _ rfl (.const (.slice none 0 0)) (.tmp 20) 22 rfl w.heap.size 34 i0 (.int .u32 0) 4 Tryd.underlying22 hi hz0 hz1 hz2 rfl _ 0 [] rfl (World.ownsRow_nil _ _ _ _) _ _ _ _ _ rfl hrt (ints_one _ _) (by unfold maxLen; omega) (by omega) (Nat.le_refl _) ?_)
        intro v' w1 hown _ hb
        obtain ⟨A1, c1, rfl⟩ := own_slice32 hown
        have HK : Hid ((limbs (val a)).length = k) := Lib.hid (by rw [HT.out, List.length_take]; have := HL.out; omega)
        go_wp2
        go_ret
        rw [← HT.out] at hown
        exact ⟨A1, c1, by rw [HK.out]; rfl, by rw [HK.out]; exact hown, hb⟩
    · obtain rfl : k = 0 := by omega
      have HT : Hid (limbs (val a) = []) := Lib.hid (by rw [tail true (.inl rfl)]; simp)
      have hrt := hr.takeI (Nat.zero_le n)
      clear HV tail hr
      have hkc : (0 : Int) ≤ c := by omega
      go_wp2_with (at_builtin; refine wpList_app _ rfl (.const (.slice none 0 0)) (.tmp 20) 22 rfl w.heap.size 34 i0 (.int .u32 0) 4 Tryd.underlying22 hi hz0 hz1 hz2 rfl _ 0 [] rfl (World.ownsRow_nil _ _ _ _) _ _ _ _ _ rfl hrt (ints_one _ _) (by unfold maxLen; omega) (by omega) (Nat.le_refl _) ?_)
      intro v' w1 hown _ hb
      obtain ⟨A1, c1, rfl⟩ := own_slice32 hown
      go_wp2
      go_ret
      rw [New, HT.out]
      exact ⟨A1, c1, rfl, hown, hb⟩
end Go.Proofs.YtlpfcilgndbopaaDoor
