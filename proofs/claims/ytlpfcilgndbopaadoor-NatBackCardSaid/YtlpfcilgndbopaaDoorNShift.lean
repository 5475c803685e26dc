/- nat.shift, in place. -/
import Derived.Test.YtlpfcilgndbopaaDoorNNear
namespace Go.Proofs.YtlpfcilgndbopaaDoor
open Go.RowKit

theorem or_bit (m b : Nat) (hm : m < 2147483648) (hb : b ≤ 1) : bits .or .u32 ((2 * m : Nat) : Int) (b : Int) = ((2 * m + b : Nat) : Int) := by
  rw [or32 _ _ (by omega) (by omega)]
  have := Nat.shiftLeft_add_eq_or_of_lt (show b < 2 ^ 1 by omega) m
  rw [Nat.shiftLeft_eq] at this
  congr 1
  rw [show 2 * m = m * 2 ^ 1 by omega, this]
theorem shl_or {x z : Int} (hx : 0 ≤ x ∧ x ≤ 4294967295) (hz : 0 ≤ z ∧ z ≤ 1) : bits .or .u32 (IntKind.u32.wrap (x * 2)) z = (2 * x + z) % 4294967296 := by
  rw [show IntKind.u32.wrap (x * 2) = x * 2 % 4294967296 by simp [IntKind.wrap, IntKind.bits, IntKind.signed]]
  obtain ⟨a, rfl⟩ := Int.eq_ofNat_of_zero_le hx.1
  obtain ⟨b, rfl⟩ := Int.eq_ofNat_of_zero_le hz.1
  rw [show (a : Int) * 2 % 4294967296 = ((2 * (a % 2147483648) : Nat) : Int) by omega, or_bit _ _ (by omega) (by omega)]
  omega
theorem shift_step {a s : List Int} {k : Nat} {z : Int} {r : Nat} (ha : Lim a) (hz : 0 ≤ z ∧ z ≤ 1) (hs : s.length = k) (h : val s + 4294967296 ^ k * z.toNat = 2 * low a k + r) :
    val (s ++ [(2 * a.getD k 0 + z) % 4294967296]) + 4294967296 ^ (k + 1) * (a.getD k 0 / 2147483648).toNat = 2 * low a (k + 1) + r := by
  have h1 := ha.at k
  rw [val_append, val_one, hs, low_succ, Nat.pow_succ, Nat.mul_assoc]
  generalize (a.getD k 0) = x at *
  have e : ((2 * x + z) % 4294967296).toNat + 4294967296 * (x / 2147483648).toNat = 2 * x.toNat + z.toNat := by omega
  have e2 := congrArg (4294967296 ^ k * ·) e
  simp only [Nat.mul_add] at e2
  rw [Nat.mul_left_comm (4294967296 ^ k) 2] at e2
  omega

set_option maxRecDepth 100000 in
set_option maxHeartbeats 1000000 in
theorem shift_any (g n c base : Nat) (a : List Int) (z0 : Int) (w : World) (hown : w.ownsRow base 34 1 (.slice (some ⟨g, 0, none⟩) n c) n (ints .u32 a)) (ha : Lim a) (hz : 0 ≤ z0 ∧ z0 ≤ 1) (hn : n ≤ 1000000000) (hfit : 2 * val a + z0.toNat < 4294967296 ^ n) :
    Calls Tryd.prog 78 #[.slice (some ⟨g, 0, none⟩) n c, .int .u32 z0] w fun e w' => e = .returned (.tuple #[]) ∧ ∃ s, s.length = n ∧ Lim s ∧ val s = 2 * val a + z0.toNat ∧ w'.ownsRow base 34 1 (.slice (some ⟨g, 0, none⟩) n c) n (ints .u32 s) ∧ w.grownBy w' (some g) := by
  have hl := hown.1
  rw [ints_len, Nat.mul_one] at hl
  have HA := Lib.hid ha
  have HL := Lib.hid hl
  have HF := Lib.hid hfit
  have HZ0 := Lib.hid hz
  clear ha hl hfit hz
  go_enter Tryd.func78, Tryd.ntmps78
  go_wp2
  go_loopw [1, 7] (fun cy i wr => ∃ (k : Nat) (z : Int) (s : List Int), k ≤ n ∧ i = .int .i64 k ∧ cy = .int .u32 z ∧ Hid (0 ≤ z ∧ z ≤ 1) ∧ Hid (s.length = k ∧ Lim s ∧ val s + 4294967296 ^ k * z.toNat = 2 * low a k + z0.toNat) ∧
    wr.ownsRow base 34 1 (.slice (some ⟨g, 0, none⟩) n c) n (ints .u32 (s ++ a.drop k)) ∧ w.grownBy wr (some g)) (fun _ i _ => n - (intOf i).toNat)
  case atStart => exact ⟨0, z0, [], Nat.zero_le _, rfl, rfl, HZ0, Lib.hid ⟨rfl, Lim.nil, by rw [low_zero]; simp [val]⟩, hown, World.grownBy.refl w _⟩
  case round =>
    obtain ⟨k, z, s, hk, rfl, rfl, HZ, HS, hown, hgr⟩ := hrel
    rename World => ws
    by_cases hkn : k < n
    · have hkz : (k : Int) < (n : Int) := by omega
      have hk0 : (0 : Int) ≤ (k : Int) := by omega
      have hcell0 := (hown.cellAt k (by omega)).trans (drop_at HS.out.1 HL.out hkn)
      have hfz := hown.frozenAt k
      have HQ := Lib.hid (shift_step HA.out HZ.out HS.out.1 HS.out.2.2)
      have hxl := HA.out.at k
      obtain ⟨x, hx⟩ : ∃ x, a.getD k 0 = x := ⟨_, rfl⟩
      rw [hx] at hxl hcell0 HQ
      have hcell : ws.cell? ⟨g, k, none⟩ = some (.int .u32 x) := hcell0
      have HOr := Lib.hid (shl_or hxl HZ.out)
      obtain ⟨hx0, hx1⟩ := hxl
      have HOwn := Lib.hid hown
      clear hx hown hcell0
      go_wp2_with fail
      go_region_with fail
      all_goals
        rw [HOr.out]
        have hp0 : 0 ≤ (2 * x + z) % 4294967296 := by omega
        have hp1 : (2 * x + z) % 4294967296 ≤ 4294967295 := by omega
        have HQ1 : Hid (0 ≤ x / 2147483648 ∧ x / 2147483648 ≤ 1) := Lib.hid (by omega)
        go_wp2
        go_roundw
        case rel =>
          refine ⟨k + 1, x / 2147483648, s ++ [(2 * x + z) % 4294967296], by omega, by go_num, rfl, HQ1, Lib.hid ⟨by rw [List.length_append, HS.out.1]; rfl, HS.out.2.1.app (Lim.one hp0 hp1), HQ.out⟩, ?_, ?_⟩
          · have := (HOwn.out.stored k (.int .u32 ((2 * x + z) % 4294967296))).1
            rw [set_drop _ HS.out.1 HL.out hkn] at this
            exact this
          · have h := (HOwn.out.stored k (.int .u32 ((2 * x + z) % 4294967296))).2
            exact hgr.trans ⟨h.os, h.tape, h.output, h.size, h.block⟩
        case measure => simp [intOf]; omega
    · obtain rfl : k = n := by omega
      have hv : val s = 2 * val a + z0.toNat := by
        have h := HS.out.2.2
        rw [low_all (by have := HL.out; omega)] at h
        have h2 := HF.out
        rcases (show z = 0 ∨ z = 1 by have := HZ.out; omega) with rfl | rfl
        · simpa using h
        · simp at h; omega
      rw [List.drop_eq_nil_of_le (by have := HL.out; omega), List.append_nil] at hown
      clear hkn
      go_wp2
      go_end0
      exact ⟨rfl, s, HS.out.1, HS.out.2.1, hv, hown, hgr⟩
end Go.Proofs.YtlpfcilgndbopaaDoor
