/- nat.tenfold, walked. -/
import Derived.Test.YtlpfcilgndbopaaDoorNTen
namespace Go.Proofs.YtlpfcilgndbopaaDoor
open Go.RowKit

set_option maxRecDepth 100000 in
set_option maxHeartbeats 1000000 in
theorem tenfold_any (A : Option Addr) (n c base v : Nat) (d : Int) (w : World) (hown : w.ownsRow base 34 1 (.slice A n c) n (ints .u32 (limbs v))) (hbase : base ≤ w.heap.size) (hd : 0 ≤ d ∧ d ≤ 9) (hn : n ≤ 1000000) :
    Calls Tryd.prog 64 #[.slice A n c, .int .u32 d] w fun e w' => ∃ A' c', e = .returned (.slice A' (limbs (10 * v + d.toNat)).length c') ∧ w'.ownsRow base 34 1 (.slice A' (limbs (10 * v + d.toNat)).length c') (limbs (10 * v + d.toNat)).length (ints .u32 (limbs (10 * v + d.toNat))) ∧ Below base w w' := by
  obtain ⟨i0, hi, hz0, hz1, hz2⟩ := u32_parts
  have hl := hown.1
  rw [ints_len, Nat.mul_one] at hl
  have HL := Lib.hid hl
  have HD := Lib.hid hd
  have HBase := Lib.hid hbase
  clear hl hd hbase
  go_enter Tryd.func64, Tryd.ntmps64
  go_wp2
  go_loopw [5, 11] (fun cy i wr => ∃ (k : Nat) (z : Int) (s : List Int), k ≤ n ∧ i = .int .i64 k ∧ cy = .int .u32 z ∧ Hid (0 ≤ z ∧ z ≤ 9) ∧ Hid (s.length = k ∧ Lim s ∧ val s + 4294967296 ^ k * z.toNat = 10 * low (limbs v) k + d.toNat) ∧
    wr.ownsRow base 34 1 (.slice A n c) n (ints .u32 (s ++ (limbs v).drop k)) ∧ Below base w wr) (fun _ i _ => n - (intOf i).toNat)
  case atStart => exact ⟨0, d, [], Nat.zero_le _, rfl, rfl, HD, Lib.hid ⟨rfl, Lim.nil, by rw [low_zero]; simp [val]⟩, hown, Below.refl _ _⟩
  case round =>
    obtain ⟨k, z, s, hk, rfl, rfl, HZ, HS, hown, hb⟩ := hrel
    rename World => ws
    by_cases hkn : k < n
    · rcases own_forms hown with ⟨rfl, h0, rfl⟩ | ⟨g, rfl, hbg, hgl⟩
      · omega
      have hkz : (k : Int) < (n : Int) := by omega
      have hk0 : (0 : Int) ≤ (k : Int) := by omega
      have hcell0 := (hown.cellAt k (by omega)).trans (drop_at HS.out.1 HL.out hkn)
      have hfz := hown.frozenAt k
      have HQ := Lib.hid (ten_step (lim_limbs v) HZ.out.1 HS.out.1 HS.out.2.2)
      have hxl := (lim_limbs v).at k
      obtain ⟨x, hx⟩ : ∃ x, (limbs v).getD k 0 = x := ⟨_, rfl⟩
      rw [hx] at hxl hcell0 HQ
      have hcell : ws.cell? ⟨g, k, none⟩ = some (.int .u32 x) := hcell0
      obtain ⟨hx0, hx1⟩ := hxl
      obtain ⟨hz0', hz1'⟩ := HZ.out
      have HOwn := Lib.hid hown
      have HB := Lib.hid hb
      clear hx hown hcell0 hb
      have hp0 : 0 ≤ (x * 10 + z) % 4294967296 := by omega
      have hp1 : (x * 10 + z) % 4294967296 ≤ 4294967295 := by omega
      have HZ2 : Hid (0 ≤ (x * 10 + z) / 4294967296 ∧ (x * 10 + z) / 4294967296 ≤ 9) := Lib.hid (by omega)
      go_wp2
      go_roundw
      case rel =>
        refine ⟨k + 1, (x * 10 + z) / 4294967296, s ++ [(x * 10 + z) % 4294967296], by omega, by go_num, rfl, HZ2, Lib.hid ⟨by rw [List.length_append, HS.out.1]; rfl, HS.out.2.1.app (Lim.one hp0 hp1), HQ.out⟩, ?_, ?_⟩
        · have := (HOwn.out.stored k (.int .u32 ((x * 10 + z) % 4294967296))).1
          rw [set_drop _ HS.out.1 HL.out hkn] at this
          exact this
        · exact HB.out.grown (HOwn.out.stored k _).2 (Nat.le_trans HBase.out HB.out.size) (fun j hj => by injection hj with hj; omega)
      case measure => simp [intOf]; omega
    · obtain rfl : k = n := by omega
      rw [List.drop_eq_nil_of_le (by have := HL.out; omega), List.append_nil] at hown
      have hE := HS.out.2.2
      rw [low_all (by have := HL.out; omega), val_limbs] at hE
      have HEnd := Lib.hid (ten_end HS.out.1 HS.out.2.1 HL.out HZ.out hE)
      clear hE hkn
      by_cases hz : 0 < z
      · have HR : Hid (limbs (10 * v + d.toNat) = s ++ [z]) := Lib.hid (HEnd.out.2 hz)
        have HLen : Hid ((limbs (10 * v + d.toNat)).length = k + 1) := Lib.hid (by rw [HR.out, List.length_append, HS.out.1]; rfl)
        go_wp2_with (at_builtin; refine wpList_app _ rfl (.tmp 34) (.tmp 36) 22 rfl base 34 i0 (.int .u32 0) 4 Tryd.underlying22 hi hz0 hz1 hz2 rfl _ _ _ rfl (hown.alloc _) _ _ 1 1 _ rfl (Row.one _ _ _) (by simp [Value.oneCell']) (by unfold maxLen; omega) (by omega) (by simp; have := HBase.out; have := hb.size; omega) ?_)
        intro v' w' hown' _ hb'
        obtain ⟨A2, c2, rfl⟩ := own_slice32 hown'
        have hfin : ∃ A' c', Ending.returned (.slice A2 (k + 1) c2) = .returned (.slice A' (limbs (10 * v + d.toNat)).length c') ∧ w'.ownsRow base 34 1 (.slice A' (limbs (10 * v + d.toNat)).length c') (limbs (10 * v + d.toNat)).length (ints .u32 (limbs (10 * v + d.toNat))) ∧ Below base w w' := by
          rw [HLen.out, HR.out]
          exact ⟨A2, c2, rfl, by simpa [ints_append, ints] using hown', (hb.alloc (by have := HBase.out; have := hb.size; omega) _).trans hb'⟩
        replace hfin := Lib.hid hfin
        go_wp2
        go_ret
        exact hfin.out
      · obtain rfl : z = 0 := by have := HZ.out; omega
        have HR : Hid (limbs (10 * v + d.toNat) = s) := Lib.hid (HEnd.out.1 rfl)
        have HLen : Hid ((limbs (10 * v + d.toNat)).length = k) := Lib.hid (by rw [HR.out, HS.out.1])
        have hfin : ∃ A' c', Ending.returned (.slice A k c) = .returned (.slice A' (limbs (10 * v + d.toNat)).length c') ∧ ws.ownsRow base 34 1 (.slice A' (limbs (10 * v + d.toNat)).length c') (limbs (10 * v + d.toNat)).length (ints .u32 (limbs (10 * v + d.toNat))) ∧ Below base w ws := by
          rw [HLen.out, HR.out]
          exact ⟨A, c, rfl, hown, hb⟩
        replace hfin := Lib.hid hfin
        go_wp2
        go_ret
        exact hfin.out
end Go.Proofs.YtlpfcilgndbopaaDoor
