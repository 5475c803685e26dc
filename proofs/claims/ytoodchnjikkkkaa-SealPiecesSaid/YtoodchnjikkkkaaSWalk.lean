/- seal.shifted, seal.On; the document's On. -/
import Derived.Test.YtoodchnjikkkkaaSBits
import Derived.Deep.QuietTactic
import Derived.BigQuiet
import Derived.WalkSpells
namespace Go.Proofs.Ytoodchnjikkkkaa
open Go.RowKit

theorem sts_last (k x : Nat) : sts (k + 1) x = st (sts k x) := by rw [sts_add]; rfl

set_option maxHeartbeats 1000000 in
theorem shifted_any (m : Nat) (w : World) (hm : m < 256) :
    Calls Try.prog 24 #[.int .u8 m] w fun e w' => e = .returned (.int .u32 ((sts 8 m : Nat) : Int)) ∧ w = w' := by
  have HM := Lib.hid hm
  go_enter Try.func24, Try.ntmps24
  go_wp2
  go_loopw [3, 7] (fun r i wr => ∃ k : Nat, k ≤ 8 ∧ i = .int .i64 k ∧ r = .int .u32 ((sts k m : Nat) : Int) ∧ w = wr) (fun _ i _ => 8 - (intOf i).toNat)
  case atStart => exact ⟨0, by omega, rfl, rfl, rfl⟩
  case round =>
    obtain ⟨k, hk, rfl, rfl, rfl⟩ := hrel
    by_cases h8 : k < 8
    · have hr : sts k m < 4294967296 := sts_lt k (by have := HM.out; omega)
      have HS := Lib.hid (st_prog (sts k m) hr)
      have HN := Lib.hid (sts_last k m)
      generalize sts k m = r at *
      have hr0 : (0 : Int) ≤ (r : Int) := by omega
      go_wp2
      rw [HS.out]
      exact ⟨⟨k + 1, by omega, by go_num, by rw [HN.out], trivial⟩, by simp [intOf]; omega⟩
    · obtain rfl : k = 8 := by omega
      go_wp2
      go_ret
      exact ⟨rfl, rfl⟩

theorem shifted_at (z : Int) (m : Nat) (w : World) (hz : Hid (z = (m : Int))) (hm : m < 256) :
    Calls Try.prog 24 #[.int .u8 z] w fun e w' => e = .returned (.int .u32 ((sts 8 m : Nat) : Int)) ∧ w = w' := by
  rw [hz.out]
  exact shifted_any m w hm

/-- What the program makes of a byte. -/
theorem byte_arg (r x : Nat) (hx : x < 256) : bits .xor .u8 ((r : Int) % 256) (x : Int) = ((((r % 256) ^^^ x : Nat)) : Int) := by
  rw [show (r : Int) % 256 = ((r % 256 : Nat) : Int) by omega, xor8 _ _ (by omega) hx]
theorem byte_step (r x : Nat) (hr : r < 4294967296) (hx : x < 256) : bits .xor .u32 ((r : Int) / 256) ((sts 8 ((r % 256) ^^^ x) : Nat) : Int) = ((stepB r x : Nat) : Int) := by
  rw [show (r : Int) / 256 = ((r / 256 : Nat) : Int) by omega, xor32 _ _ (by omega) (sts_lt 8 (Nat.lt_of_lt_of_le (Nat.xor_lt_two_pow (n := 8) (by omega) (by omega)) (by omega))), stepB_split r x hx]
theorem reg_take {r0 : Nat} {l : List Int} {k x : Nat} (h : l.take (k + 1) = l.take k ++ [(x : Int)]) : regOf r0 (l.take (k + 1)) = stepB (regOf r0 (l.take k)) x := by
  rw [h, regOf_next, Int.toNat_natCast]
theorem byte_at {l : List Int} (hu : U8 l) (k : Nat) (h : k < l.length) : ∃ x : Nat, x < 256 ∧ (ints .u8 l)[k]? = some (.int .u8 x) ∧ l.take (k + 1) = l.take k ++ [(x : Int)] := by
  obtain ⟨z, h1, _, h3, h4⟩ := ints_at .u8 l k h
  have := hu z h4
  obtain ⟨x, rfl⟩ := Int.eq_ofNat_of_zero_le this.1
  exact ⟨x, by omega, h1, h3⟩

set_option maxHeartbeats 1000000 in
theorem On_eq (s : Nat) (A : Option Addr) (c B : Nat) (l : List Int) (w : World) (hr : Row w B A l.length (ints .u8 l)) (hu : U8 l) (hs : s < 4294967296) (hl : l.length ≤ 9223372036854775807) :
    Calls Try.prog 13 #[.int .u32 s, .slice A l.length c] w fun e w' => e = .returned (.int .u32 ((sumOf s l : Nat) : Int)) ∧ w = w' := by
  have HI := Lib.hid (show bits .xor .u32 IntKind.u32.max (s : Int) = ((4294967295 ^^^ s : Nat) : Int) from xor32 4294967295 s (by omega) hs)
  have HU := Lib.hid hu
  have HS := Lib.hid (sumOf_reg s l)
  have hi := inv_lt hs
  go_enter Try.func13, Try.ntmps13
  go_wp2
  rw [HI.out]
  generalize 4294967295 ^^^ s = r0 at *
  go_loopw [5, 12] (fun r i wr => ∃ k : Nat, k ≤ l.length ∧ i = .int .i64 k ∧ r = .int .u32 ((regOf r0 (l.take k) : Nat) : Int) ∧ w = wr) (fun _ i _ => l.length - (intOf i).toNat)
  case atStart => exact ⟨0, by omega, rfl, rfl, rfl⟩
  case round =>
    obtain ⟨k, hk, rfl, rfl, rfl⟩ := hrel
    have hrl := regOf_lt (HU.out.take k) hi
    by_cases hlt : k < l.length
    · obtain ⟨b, off, rfl, hbB, hc⟩ := hr.2 (by omega)
      obtain ⟨x, hx, hget, htk⟩ := byte_at HU.out k hlt
      have hcell := (hc k hlt).trans hget
      have HN := Lib.hid (reg_take (r0 := r0) htk)
      generalize regOf r0 (l.take k) = r at *
      have HA := Lib.hid (byte_arg r x hx)
      have HB := Lib.hid (byte_step r x hrl hx)
      have hr0 : (0 : Int) ≤ (r : Int) := by omega
      have hlt' : (k : Int) < (l.length : Int) := by omega
      have hx8 : (r % 256) ^^^ x < 256 := Nat.xor_lt_two_pow (n := 8) (by omega) (by omega)
      clear hc hget htk hr hu
      go_wp2_with fail
      refine (shifted_at _ ((r % 256) ^^^ x) _ HA hx8).mono ?_
      rintro e w' ⟨rfl, rfl⟩
      go_wp2
      rw [HB.out]
      exact ⟨⟨k + 1, by omega, by go_num, by rw [HN.out], trivial⟩, by simp [intOf]; omega⟩
    · obtain rfl : k = l.length := by omega
      rw [List.take_length] at hrl ⊢
      have HF := Lib.hid (show bits .xor .u32 IntKind.u32.max ((regOf r0 l : Nat) : Int) = ((4294967295 ^^^ regOf r0 l : Nat) : Int) from xor32 4294967295 _ (by omega) hrl)
      generalize regOf r0 l = r at *
      clear hr hu
      go_wp2
      rw [HF.out]
      go_ret
      exact ⟨by rw [HS.out]; rfl, rfl⟩
theorem xor32' (a b : Nat) (ha : a < 4294967296) (hb : b < 4294967296) : bits .xor .u32 (a : Int) (b : Int) = ((b ^^^ a : Nat) : Int) := by rw [xor32 a b ha hb, Nat.xor_comm]
set_option maxHeartbeats 1000000 in
theorem rOn_eq (s : Nat) (A : Option Addr) (c B : Nat) (l : List Int) (w : World) (hr : Row w B A l.length (ints .u8 l)) (hu : U8 l) (hs : s < 4294967296) (hl : l.length ≤ 9223372036854775807) :
    Calls Try.prog 14 #[.int .u32 s, .slice A l.length c] w fun e w' => e = .returned (.int .u32 ((sumOf s l : Nat) : Int)) ∧ w = w' := by
  have HI := Lib.hid (show bits .xor .u32 (s : Int) 4294967295 = ((4294967295 ^^^ s : Nat) : Int) from xor32' s 4294967295 hs (by omega))
  have HU := Lib.hid hu
  have HS := Lib.hid (sumOf_reg s l)
  have hi := inv_lt hs
  go_enter Try.func14, Try.ntmps14
  go_wp2
  rw [HI.out]
  generalize 4294967295 ^^^ s = r0 at *
  go_loopw [5, 6] (fun r i wr => ∃ k : Nat, k ≤ l.length ∧ i = .int .i64 k ∧ r = .int .u32 ((regOf r0 (l.take k) : Nat) : Int) ∧ w = wr) (fun _ i _ => l.length - (intOf i).toNat)
  case atStart => exact ⟨0, by omega, rfl, rfl, rfl⟩
  case round =>
    obtain ⟨k, hk, rfl, rfl, rfl⟩ := hrel
    have hrl := regOf_lt (HU.out.take k) hi
    by_cases hlt : k < l.length
    · obtain ⟨b, off, rfl, hbB, hc⟩ := hr.2 (by omega)
      obtain ⟨x, hx, hget, htk⟩ := byte_at HU.out k hlt
      have hcell := (hc k hlt).trans hget
      have HN := Lib.hid (reg_take (r0 := r0) htk)
      generalize regOf r0 (l.take k) = r at *
      have HX := Lib.hid (xor32 r x hrl (by omega))
      have hxr : r ^^^ x < 4294967296 := Nat.xor_lt_two_pow (n := 32) hrl (by omega)
      have hlt' : (k : Int) < (l.length : Int) := by omega
      have hst : stepB r x = sts 8 (r ^^^ x) := rfl
      rw [hst] at HN
      clear hst hc hget htk hr hu
      go_wp2
      rw [HX.out]
      generalize r ^^^ x = y at *
      go_loopw [5, 7] (fun r i wr => ∃ j : Nat, j ≤ 8 ∧ i = .int .i64 j ∧ r = .int .u32 ((sts j y : Nat) : Int) ∧ w = wr) (fun _ i _ => 8 - (intOf i).toNat)
      case atStart => exact ⟨0, by omega, rfl, rfl, rfl⟩
      case round =>
        obtain ⟨j, hj, rfl, rfl, rfl⟩ := hrel
        have hy := sts_lt j hxr
        by_cases h8 : j < 8
        · have HM := Lib.hid (sts_last j y)
          have hlo := low_one (sts j y)
          generalize sts j y = z at *
          have hj' : (j : Int) < 8 := by omega
          have HZ := Lib.hid (show bits .and .u32 (z : Int) 1 = ((z % 2 : Nat) : Int) by rw [show (1 : Int) = ((1 : Nat) : Int) from rfl, and32 _ _ hy (by omega), low_one])
          have hz0 : (0 : Int) ≤ (z : Int) := by omega
          rcases (show z % 2 = 0 ∨ z % 2 = 1 by omega) with h2 | h2
          · have HE := Lib.hid (st_evn z h2)
            rw [h2] at HZ
            have h2' : bits .and .u32 (z : Int) 1 = 0 := HZ.out
            clear hlo h2 HZ
            go_wp2
            exact ⟨⟨j + 1, by omega, by go_num, by rw [HM.out, ← HE.out]; go_num, trivial⟩, by simp [intOf]; omega⟩
          · have HE := Lib.hid (st_odd z hy h2)
            rw [h2] at HZ
            have h2' : bits .and .u32 (z : Int) 1 = 1 := HZ.out
            clear hlo h2 HZ
            go_wp2
            refine ⟨⟨j + 1, by omega, by go_num, ?_, trivial⟩, by simp [intOf]; omega⟩
            rw [HM.out, ← HE.out]
            go_num
        · obtain rfl : j = 8 := by omega
          go_wp2
          exact ⟨⟨k + 1, by omega, by go_num, by rw [HN.out], trivial⟩, by simp [intOf]; omega⟩
    · obtain rfl : k = l.length := by omega
      rw [List.take_length] at hrl ⊢
      have HF := Lib.hid (show bits .xor .u32 ((regOf r0 l : Nat) : Int) 4294967295 = ((4294967295 ^^^ regOf r0 l : Nat) : Int) from xor32' _ 4294967295 hrl (by omega))
      generalize regOf r0 l = r at *
      clear hr hu
      go_wp2
      rw [HF.out]
      go_ret
      exact ⟨by rw [HS.out]; rfl, rfl⟩
theorem On_any (s : Nat) (A : Option Addr) (c B : Nat) (l : List Int) (w : World) (hr : Row w B A l.length (ints .u8 l)) (hu : U8 l) (hs : s < 4294967296) (hl : l.length ≤ 9223372036854775807) :
    Calls Try.prog 13 #[.int .u32 s, .slice A l.length c] w fun e w' => e = .returned (.int .u32 ((sumOf s l : Nat) : Int)) ∧ Below w.heap.size w w' := by
  refine (On_eq s A c B l w hr hu hs hl).mono ?_
  rintro e w' ⟨rfl, rfl⟩
  exact ⟨rfl, Below.refl _ _⟩
theorem rOn_any (s : Nat) (A : Option Addr) (c B : Nat) (l : List Int) (w : World) (hr : Row w B A l.length (ints .u8 l)) (hu : U8 l) (hs : s < 4294967296) (hl : l.length ≤ 9223372036854775807) :
    Calls Try.prog 14 #[.int .u32 s, .slice A l.length c] w fun e w' => e = .returned (.int .u32 ((sumOf s l : Nat) : Int)) ∧ Below w.heap.size w w' := by
  refine (rOn_eq s A c B l w hr hu hs hl).mono ?_
  rintro e w' ⟨rfl, rfl⟩
  exact ⟨rfl, Below.refl _ _⟩
end Go.Proofs.Ytoodchnjikkkkaa
