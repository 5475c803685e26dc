/- The document's times: a number, times a power of two. -/
import Derived.Test.YtlpfcilgndbopaaDoorNTimesMath
namespace Go.Proofs.YtlpfcilgndbopaaDoor
open Go.RowKit

theorem times_vals {x cc : Int} {r X : Nat} (hx : 0 ≤ x ∧ x ≤ 4294967295) (hc0 : 0 ≤ cc) (hc : cc.toNat < 2 ^ r) (hr : r < 32) (hX : X = x.toNat * 2 ^ r) :
    IntKind.u64.wrap (x * 2 ^ r) = (X : Int) ∧ bits .or .u32 cc ((X : Int) % 4294967296) = cc + ((X % 4294967296 : Nat) : Int) ∧ (X : Int) / 4294967296 % 4294967296 = ((X / 4294967296 : Nat) : Int) := by
  obtain ⟨u, rfl⟩ := Int.eq_ofNat_of_zero_le hx.1
  obtain ⟨d, rfl⟩ := Int.eq_ofNat_of_zero_le hc0
  rw [Int.toNat_natCast] at hX hc
  have hp : (2 : Nat) ^ r < 2 ^ 32 := Nat.pow_lt_pow_right (by omega) hr
  have ht := times_limb hc hr (show u < 4294967296 by omega)
  rw [← hX] at ht
  have hXl : X < 18446744073709551616 := by
    have h1 : X < 4294967296 * 2 ^ r := by rw [hX]; exact Nat.mul_lt_mul_of_pos_right (by omega) (Nat.two_pow_pos r)
    have h2 : 4294967296 * 2 ^ r ≤ 4294967296 * 4294967296 := Nat.mul_le_mul_left _ (by omega)
    omega
  have e1 : (u : Int) * 2 ^ r = (X : Int) := by rw [hX, Int.natCast_mul, Int.natCast_pow]; rfl
  refine ⟨?_, ?_, ?_⟩
  · rw [e1, IntKind.wrap_u64]; omega
  · rw [show (X : Int) % 4294967296 = ((X % 4294967296 : Nat) : Int) by omega, or32 _ _ (by omega) (by omega), ht.2.1]
    omega
  · omega
set_option maxRecDepth 100000 in
set_option maxHeartbeats 2000000 in
theorem times_at (A : Option Addr) (n c B f q r : Nat) (a : List Int) (w : World) (hr : Row w B A n (ints .u32 a)) (hB : B ≤ w.heap.size) (ha : Lim a) (hn : n ≤ 1000) (hq : q ≤ 10000) (hr32 : r < 32) (hfd : (f : Int) / 32 = (q : Int)) (hfm : (f : Int) % 32 = (r : Int)) :
    Calls Tryd.prog 80 #[.slice A n c, .int .i64 f] w (New w (limbs (val a * 2 ^ (32 * q + r)))) := by
  obtain ⟨i0, hi, hz0, hz1, hz2⟩ := u32_parts
  have hl := hr.1
  rw [ints_len] at hl
  have hf0 : (0 : Int) ≤ (f : Int) := by omega
  have hr0 : (0 : Int) ≤ (r : Int) := by omega
  have hr1 : (r : Int) < 32 := by omega
  have HA := Lib.hid ha
  have HL := Lib.hid hl
  have HR := Lib.hid hr
  obtain ⟨V, hV⟩ : ∃ V, val a * 2 ^ (32 * q + r) = V := ⟨_, rfl⟩
  rw [hV]
  have HV := Lib.hid hV
  clear hV
  clear ha hl hr
  go_enter Tryd.func80, Tryd.ntmps80
  go_wp2_with (refine wpList_make_full _ rfl (.tmp 13) (.tmp 13) 22 rfl w.heap.size 34 i0 (.int .u32 0) 1 Tryd.underlying22 hi hz0 hz1 .i64 .i64 _ _ (n + q + 1) rfl rfl (by omega) (by omega) (by rw [hz2]; omega) (by unfold maxLen; omega) (Nat.le_refl _) ?_)
  intro w1 hown hg1
  rw [made32] at hown
  have hb1 : Below w.heap.size w w1 := (Below.refl _ _).grown hg1 (Nat.le_refl _) (by simp)
  obtain ⟨g, hg⟩ : ∃ g, g = w.heap.size := ⟨_, rfl⟩
  have HG := Lib.hid hg
  rw [← hg] at hown ⊢
  clear hg hg1
  have HP0 : Hid (([] ++ List.replicate (n + q + 1) (0 : Int)).length = n + q + 1 ∧ Lim ([] ++ List.replicate (n + q + 1) (0 : Int)) ∧ val ([] ++ List.replicate (n + q + 1) (0 : Int)) = low a 0 * 2 ^ (32 * q + r) ∧ ∀ j, ([] ++ List.replicate (n + q + 1) (0 : Int)).getD j 0 = 0) := Lib.hid ⟨by simp, by rw [List.nil_append]; exact Lim.zeros _, by rw [List.nil_append, val_zeros, low_zero, Nat.zero_mul], fun j => by
    rw [List.nil_append, List.getD_eq_getElem?_getD, List.getElem?_replicate]
    split <;> rfl⟩
  generalize [] ++ List.replicate (n + q + 1) (0 : Int) = P0 at *
  go_wp2
  go_loopw [6] (fun i wr => ∃ (k : Nat) (P : List Int) (cc : Int), k ≤ n ∧ i = .int .i64 k ∧ Hid (P.length = n + q + 1 ∧ Lim P ∧ val P = low a k * 2 ^ (32 * q + r) ∧ ∀ j, k + q < j → P.getD j 0 = 0) ∧ Hid (P.getD (k + q) 0 = cc ∧ cc.toNat < 2 ^ r) ∧
    wr.ownsRow g 34 1 (.slice (some ⟨g, 0, none⟩) (n + q + 1) (n + q + 1)) (n + q + 1) (ints .u32 P) ∧ Below w.heap.size w wr) (fun i _ => n - (intOf i).toNat)
  case atStart => exact ⟨0, P0, 0, Nat.zero_le _, rfl, Lib.hid ⟨HP0.out.1, HP0.out.2.1, HP0.out.2.2.1, fun j _ => HP0.out.2.2.2 j⟩, Lib.hid ⟨HP0.out.2.2.2 _, by simpa using Nat.two_pow_pos r⟩, hown, hb1⟩
  case round =>
    obtain ⟨k, P, cc, hk, rfl, HP, HC, hown, hb⟩ := hrel
    rename World => ws
    by_cases hlt : k < n
    · obtain ⟨ba, oa, rfl, hbaB, hca⟩ := (HR.out.below (hb.mono hB)).2 (by omega)
      obtain ⟨x, hx⟩ : ∃ x, a.getD k 0 = x := ⟨_, rfl⟩
      have hcell := (hca k hlt).trans (ints_get .u32 a k (by have := HL.out; omega))
      rw [hx] at hcell
      have hxl := HA.out.at k
      rw [hx] at hxl
      have hc0 := (hown.cellAt (k + q) (by omega)).trans (ints_get .u32 P (k + q) (by have := HP.out.1; omega))
      rw [HC.out.1] at hc0
      have hc1 := (hown.cellAt (k + q + 1) (by omega)).trans (ints_get .u32 P (k + q + 1) (by have := HP.out.1; omega))
      rw [HP.out.2.2.2 (k + q + 1) (by omega)] at hc1
      have hf0 := hown.frozenAt (k + q)
      have hf1 := hown.frozenAt (k + q + 1)
      have hk0 : (0 : Int) ≤ (k : Int) := by omega
      have hk1 : (k : Int) < (n : Int) := by omega
      have hq0 : (0 : Int) ≤ (k : Int) + (q : Int) := by omega
      have hq1 : (k : Int) + (q : Int) < (n : Int) + (q : Int) + 1 := by omega
      have hq2 : (k : Int) + (q : Int) + 1 < (n : Int) + (q : Int) + 1 := by omega
      obtain ⟨hx0, hx1⟩ := hxl
      have HO := Lib.hid hown
      have HB := Lib.hid hb
      have HX := Lib.hid hx
      have hbag : ba ≠ g := by have := HG.out; omega
      clear hca hown hb hx
      have hcl := HP.out.2.1.at (k + q)
      rw [HC.out.1] at hcl
      obtain ⟨X, hXe⟩ : ∃ X, X = x.toNat * 2 ^ r := ⟨_, rfl⟩
      have HV2 := Lib.hid (times_vals ⟨hx0, hx1⟩ hcl.1 HC.out.2 hr32 hXe)
      have HS := Lib.hid (times_step (a := a) HP.out.2.1 HP.out.1 (by omega) HC.out.1 HC.out.2 HP.out.2.2.2 hr32 HX.out ⟨hx0, hx1⟩ hXe HP.out.2.2.1)
      clear hXe hcl
      go_wp2_with fail
      rw [HV2.out.1, HV2.out.2.1, HV2.out.2.2]
      have st1 := HO.out.stored (k + q) (.int .u32 (cc + ((X % 4294967296 : Nat) : Int)))
      have st2 := st1.1.stored (k + q + 1) (.int .u32 ((X / 4294967296 : Nat) : Int))
      have hs := HS.out
      refine ⟨⟨k + 1, _, _, by omega, by go_num, Lib.hid ⟨hs.1, hs.2.1, hs.2.2.1, hs.2.2.2.2.2⟩, Lib.hid ⟨hs.2.2.2.1, by rw [Int.toNat_natCast]; exact hs.2.2.2.2.1⟩, ?_, ?_⟩, by simp [intOf]; omega⟩
      · have h1 := st2.1
        rw [ints_set32, ints_set32] at h1
        exact h1
      · have hgw := HG.out
        exact (HB.out.grown (row := some g) st1.2 HB.out.size (by simp; omega)).grown (row := some g) st2.2 (by have := HB.out.size; have := st1.2.size; omega) (by simp; omega)
    · obtain rfl : k = n := by omega
      have hall : low a k = val a := low_all (by have := HL.out; omega)
      have HPV : Hid (val P = V) := Lib.hid (by rw [HP.out.2.2.1, hall, HV.out])
      have cT := rtrim_any (some ⟨g, 0, none⟩) (k + q + 1) (k + q + 1) ws.heap.size P ws (Row.own hown) HP.out.2.1 (by omega) (Nat.le_refl _) (by omega)
      rw [HPV.out] at cT
      have CT := Lib.hid cT
      clear cT hall
      go_wp2_with fail
      with_reducible refine CT.out.mono ?_
      rintro e w9 hN
      obtain ⟨A9, c9, rfl, o9, b9⟩ := New.from hb hN
      go_wp2
      go_ret
      exact ⟨A9, c9, rfl, o9, b9⟩
theorem times_any (A : Option Addr) (n c B f : Nat) (a : List Int) (w : World) (hr : Row w B A n (ints .u32 a)) (hB : B ≤ w.heap.size) (ha : Lim a) (hn : n ≤ 1000) (hf : f ≤ 100000) :
    Calls Tryd.prog 80 #[.slice A n c, .int .i64 f] w (New w (limbs (val a * 2 ^ f))) := by
  have := times_at A n c B f (f / 32) (f % 32) a w hr hB ha hn (by omega) (by omega) (by omega) (by omega)
  rwa [show 32 * (f / 32) + f % 32 = f by omega] at this
end Go.Proofs.YtlpfcilgndbopaaDoor
