/- The document's bits: how many bits a number has. -/
import Derived.Test.YtlpfcilgndbopaaDoorNDiv
namespace Go.Proofs.YtlpfcilgndbopaaDoor
open Go.RowKit

theorem blen_eq {x t : Nat} (h1 : 2 ^ t ≤ x) (h2 : x < 2 ^ (t + 1)) : blen x = t + 1 := by
  have h0 : x ≠ 0 := by have := Nat.two_pow_pos t; omega
  have h3 := blen_bound h2
  have h4 := blen_lt x
  have h5 : 2 ^ t < 2 ^ blen x := Nat.lt_of_le_of_lt h1 h4
  have h6 := (Nat.pow_lt_pow_iff_right (a := 2) (by omega)).1 h5
  omega

set_option maxRecDepth 100000 in
set_option maxHeartbeats 1000000 in
theorem rbits_any (A : Option Addr) (n c B : Nat) (a : List Int) (w : World) (hr : Row w B A n (ints .u32 a)) (ha : Lim a) (ht : Top a) (hn : n ≤ 1000) :
    Calls Tryd.prog 79 #[.slice A n c] w fun e w' => e = .returned (.int .i64 (blen (val a))) ∧ w = w' := by
  have hl := hr.1
  rw [ints_len] at hl
  by_cases h0 : n = 0
  · subst h0
    obtain rfl : a = [] := List.eq_nil_of_length_eq_zero hl
    rw [show blen (val []) = 0 from blen_zero]
    go_enter Tryd.func79, Tryd.ntmps79
    go_wp2
    go_ret
    exact ⟨rfl, rfl⟩
  · obtain ⟨p, rfl⟩ : ∃ p, n = p + 1 := ⟨n - 1, by omega⟩
    obtain ⟨b, off, rfl, hbB, hc⟩ := hr.2 (by omega)
    have hcell0 := (hc p (by omega)).trans (ints_get .u32 a p (by omega))
    have HV := Lib.hid (bits_val ha hl ht)
    have hxl := ha.at p
    have hx0 : a.getD p 0 ≠ 0 := by
      intro e
      apply ht
      rw [getLast_at (n := p + 1) hl (by omega), Nat.add_sub_cancel, e]
    obtain ⟨x, hx⟩ : ∃ x, a.getD p 0 = x := ⟨_, rfl⟩
    rw [hx] at hcell0 HV hxl hx0
    obtain ⟨v, rfl⟩ := Int.eq_ofNat_of_zero_le hxl.1
    rw [Int.toNat_natCast] at HV
    have hv1 : v < 4294967296 := by omega
    have hv0 : v ≠ 0 := by omega
    have HB := Lib.hid (blen_lib v (by omega))
    have hv0' : (0 : Int) ≤ (v : Int) := by omega
    clear hc hr ha ht hx hl hx0 hxl
    go_enter Tryd.func79, Tryd.ntmps79
    have hp0 : (0 : Int) ≤ (p : Int) := by omega
    go_wp2_with fail
    go_loopw [3] (fun i wr => ∃ t : Nat, t ≤ 31 ∧ i = .int .i64 (32 * (p : Int) + (t : Int) + 1) ∧ Hid (v < 2 ^ (t + 1)) ∧ w = wr) (fun i _ => (intOf i).toNat)
    case atStart => exact ⟨31, by omega, by congr 1, Lib.hid hv1, rfl⟩
    case round =>
      obtain ⟨t, ht, rfl, HVt, rfl⟩ := hrel
      have ht0 : (0 : Int) ≤ (t : Int) := by omega
      have hsum : 32 * (p : Int) + (t : Int) - 32 * (p : Int) = (t : Int) := by omega
      have hdiv : (v : Int) / 2 ^ t = ((v / 2 ^ t : Nat) : Int) := by rw [Int.natCast_ediv, Int.natCast_pow]; rfl
      by_cases hz : v / 2 ^ t = 0
      · have hd : ((v : Int) / 2 ^ t == 0) = true := by rw [hdiv, hz]; rfl
        have hlt : v < 2 ^ t := by
          rcases (Nat.div_eq_zero_iff).1 hz with h | h
          · have := Nat.two_pow_pos t; omega
          · exact h
        have htp : t ≠ 0 := by rintro rfl; simp at hlt; omega
        obtain ⟨u, rfl⟩ : ∃ u, t = u + 1 := ⟨t - 1, by omega⟩
        have HLT := Lib.hid hlt
        clear hdiv hz hlt
        go_wp2_with fail
        exact ⟨⟨u, by omega, by congr 1, HLT, trivial⟩, by simp [intOf]; omega⟩
      · have hd : ((v : Int) / 2 ^ t == 0) = false := by
          rw [hdiv]
          simp only [beq_eq_false_iff_ne, ne_eq]
          omega
        have hge : 2 ^ t ≤ v := by
          rcases Nat.lt_or_ge v (2 ^ t) with h | h
          · exact absurd (Nat.div_eq_of_lt h) hz
          · exact h
        have HF : Hid (blen (val a) = 32 * p + (t + 1)) := Lib.hid (by rw [← HV.out, HB.out, blen_eq hge HVt.out])
        clear hdiv hz hge
        go_wp2_with fail
        go_ret
        refine ⟨?_, rfl⟩
        rw [HF.out]
        show Ending.returned (Value.int .i64 (32 * (p : Int) + (t : Int) + 1)) = _
        congr 2
end Go.Proofs.YtlpfcilgndbopaaDoor
