/- slices.IndexFunc over bytes with the reader's own function: where the first byte without bit 7 stands. -/
import Derived.Test.YtieknhlpgoedgaaReader
namespace Go.Proofs.Ytieknhlpgoedgaa
open Go.RowKit

def endInt (l : List Int) : Int := match endAt l with | some i => (i : Int) | none => -1

theorem Index_any (A : Option Addr) (c B : Nat) (l : List Int) (w : World) (hr : Row w B A l.length (ints .u8 l)) (hl : l.length ≤ 150000000000000) :
    Calls Try.prog 37 #[.slice A l.length c, .func (.func 38) #[] #[]] w fun e w' => e = .returned (.int .i64 (endInt l)) ∧ w = w' := by
  go_enter Try.func37, Try.ntmps37
  go_wp2
  go_loop [8] (fun i => ∃ k : Nat, k ≤ l.length ∧ i = .int .i64 k ∧ Hid (∀ x ∈ l.take k, 128 ≤ x)) (fun i => l.length - (intOf i).toNat)
  case atStart => exact ⟨0, Nat.zero_le _, rfl, Lib.hid (by simp)⟩
  case round =>
    obtain ⟨k, hk, rfl, HA⟩ := hrel
    by_cases hlt : k < l.length
    · obtain ⟨b, off, rfl, _, hc⟩ := hr.2 (by omega)
      obtain ⟨z, hz, hzl, ht, _⟩ := ints_at .u8 l k hlt
      have hcell := (hc k hlt).trans hz
      have HT := Lib.hid ht
      have HZ := Lib.hid hzl
      clear hc hz ht hzl
      go_wp2_with fail
      refine (U1_any _ _).mono ?_
      rintro e w' ⟨rfl, rfl⟩
      by_cases h128 : z < 128
      · have hd : decide (z < 128) = true := by simpa using h128
        have hfin := Lib.hid (endAt_hit HA.out HZ.out h128)
        go_wp2
        go_ret
        refine ⟨?_, rfl⟩
        simp [endInt, hfin.out]
      · have hd : decide (z < 128) = false := by simpa using h128
        go_wp2
        go_round
        case rel =>
          refine ⟨k + 1, by omega, by go_num, Lib.hid ?_⟩
          intro x hx
          rw [HT.out, List.mem_append] at hx
          rcases hx with hx | hx
          · exact HA.out x hx
          · simp at hx; subst hx; omega
        case measure => simp [intOf]; omega
    · have hall : Hid (endAt l = none) := endAt_none (fun x hx => HA.out x (by rw [List.take_of_length_le (by omega)]; exact hx))
      go_wp2
      go_ret
      refine ⟨?_, rfl⟩
      simp [endInt, hall.out]
end Go.Proofs.Ytieknhlpgoedgaa
