/- The document's Small. -/
import Derived.Test.YtlpfcilgndbopaaDoorNIs
namespace Go.Proofs.YtlpfcilgndbopaaDoor
open Go.RowKit

theorem val_drop (a : List Int) (k : Nat) (h : k < a.length) : val (a.drop k) = (a.getD k 0).toNat + 4294967296 * val (a.drop (k + 1)) := by
  rw [List.drop_eq_getElem_cons h, val, List.getD_eq_getElem?_getD, List.getElem?_eq_getElem h, Option.getD_some]

set_option maxRecDepth 100000 in
theorem rSmall_any (A : Option Addr) (n c B : Nat) (a : List Int) (w : World) (hr : Row w B A n (ints .u32 a)) (ha : Lim a) :
    Calls Tryd.prog 14 #[.slice A n c] w fun e w' => e = .returned (.tuple #[.int .u64 (if smallOk a = true then val a else 0 : Nat), .bool (smallOk a)]) ∧ w = w' := by
  have hl := hr.1
  rw [ints_len] at hl
  have HC := Lib.hid (rCheck_any A n c B a w hr)
  by_cases hx : chk a = 0
  · rw [hx] at HC
    by_cases h2 : n ≤ 2
    · have hS : smallOk a = true := by unfold smallOk; simp [hx]; omega
      have h2z : (n : Int) ≤ 2 := by omega
      have HA := Lib.hid ha
      have HL := Lib.hid hl
      rw [hS, if_pos rfl]
      clear ha hl hx hS
      go_enter Tryd.func14, Tryd.ntmps14
      go_wp2_with fail
      refine HC.out.mono ?_
      rintro e w' ⟨rfl, rfl⟩
      go_wp2
      go_loopw [4, 5] (fun v i wr => ∃ (k : Nat) (t : Nat), k ≤ n ∧ i = .int .i64 ((k : Int) - 1) ∧ v = .int .u64 (t : Int) ∧ Hid (t = val (a.drop k)) ∧ w = wr) (fun _ i _ => (intOf i + 1).toNat)
      case atStart => exact ⟨n, 0, Nat.le_refl _, rfl, rfl, Lib.hid (by rw [List.drop_eq_nil_of_le (by have := HL.out; omega)]; rfl), rfl⟩
      case round =>
        obtain ⟨k, t, hk, rfl, rfl, HT, rfl⟩ := hrel
        by_cases h0 : 0 < k
        · obtain ⟨i, rfl⟩ : ∃ i, k = i + 1 := ⟨k - 1, by omega⟩
          have hi0 : (0 : Int) ≤ (i : Int) := by omega
          have hin : (i : Int) < (n : Int) := by omega
          rw [show ((i + 1 : Nat) : Int) - 1 = (i : Int) by omega] at *
          obtain ⟨b, off, rfl, -, -⟩ := hr.2 (by omega)
          have hcell : w.cell? ⟨b, off + i, none⟩ = some (.int .u32 (a.getD i 0)) := hr.int (by omega)
          have hV := val_drop a i (by have := HL.out; omega)
          have hxl := HA.out.at i
          have htb : t ≤ 4294967295 := by
            have h1 := val_lt (HA.out.drop (i + 1))
            rw [List.length_drop, HL.out] at h1
            rw [HT.out]
            have : 4294967296 ^ (n - (i + 1)) ≤ 4294967296 ^ 1 := Nat.pow_le_pow_right (by decide) (by omega)
            omega
          obtain ⟨x, hxx⟩ : ∃ x, a.getD i 0 = x := ⟨_, rfl⟩
          rw [hxx] at hcell hxl hV
          have HV := Lib.hid hV
          have HRR := Lib.hid hr
          obtain ⟨hx0, hx1⟩ := hxl
          have ht0 : (0 : Int) ≤ (t : Int) := by omega
          have ht1 : (t : Int) ≤ 4294967295 := by omega
          clear hV hxx hr
          go_wp2
          go_roundw
          case rel => exact ⟨i, x.toNat + 4294967296 * t, by omega, rfl, congrArg (Value.int .u64) (by omega), Lib.hid (by rw [HV.out, ← HT.out]), by first | rfl | trivial⟩
          case measure => simp [intOf]
        · obtain rfl : k = 0 := by omega
          have HT2 : Hid (t = val a) := HT
          clear HT hr
          go_wp2
          go_ret2
          rw [HT2.out]
          exact ⟨rfl, rfl⟩
    · have hS : smallOk a = false := by unfold smallOk; simp [hx]; omega
      have h2z : (2 : Int) < n := by omega
      rw [hS, if_neg (by decide)]
      clear hr ha hl hx h2 hS
      go_enter Tryd.func14, Tryd.ntmps14
      go_wp2_with fail
      refine HC.out.mono ?_
      rintro e w' ⟨rfl, rfl⟩
      go_wp2
      go_ret2
      exact ⟨rfl, rfl⟩
  · have hS : smallOk a = false := by unfold smallOk; simp [hx]
    have hd : (chk a == 0) = false := by simpa using hx
    rw [hS, if_neg (by decide)]
    clear hr ha hl hS
    generalize chk a = x at *
    go_enter Tryd.func14, Tryd.ntmps14
    go_wp2_with fail
    refine HC.out.mono ?_
    rintro e w' ⟨rfl, rfl⟩
    go_wp2
    go_ret2
    exact ⟨rfl, rfl⟩
end Go.Proofs.YtlpfcilgndbopaaDoor
