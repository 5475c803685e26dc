/- vary.U: the bytes of a number. -/
import Derived.Test.YtieknhlpgoedgaaBase
import Derived.Test.YtieknhlpgoedgaaMath
import Derived.WalkSpells
namespace Go.Proofs.Ytieknhlpgoedgaa
open Go.RowKit

theorem u8_info : (Try.prog.info? 5).map (fun i => (i.zero, i.size, i.bytes)) = some (some (.int .u8 0), 1, 1) := by kernel_rfl

theorem or128_all : ∀ r : Fin 256, bits .or .u8 ((r.val : Nat) : Int) 128 = ((r.val % 128 + 128 : Nat) : Int) := by decide +kernel
theorem or128 (m : Nat) : bits .or .u8 ((m : Int) % 256) 128 = ((m % 128 + 128 : Nat) : Int) := by
  have h := or128_all ⟨m % 256, Nat.mod_lt _ (by omega)⟩
  simp only [] at h
  rw [show ((m % 256 : Nat) : Int) = (m : Int) % 256 from by omega] at h
  rw [h]
  omega

theorem U_no (n : Int) (w : World) (h : n < 0 ∨ 18014398509481982 < n) :
    Calls Try.prog 9 #[.int .i64 n] w fun e w' => e = .returned (.tuple #[.slice none 0 0, .int .i64 9]) ∧ w = w' := by
  rcases h with h | h
  all_goals
    go_enter Try.func9, Try.ntmps9
    go_wp2
    go_ret2
    exact ⟨rfl, rfl⟩

set_option maxRecDepth 100000 in
theorem U_ok (n : Nat) (w : World) (h : n ≤ 18014398509481982) :
    Calls Try.prog 9 #[.int .i64 n] w fun e w' => ∃ v, e = .returned (.tuple #[v, .int .i64 0]) ∧ w'.ownsRow w.heap.size 5 1 v (leb n).length (ints .u8 (leb n)) ∧ Below w.heap.size w w' := by
  obtain ⟨i0, hi, hz0, hz1, hz2⟩ := info_parts u8_info
  have d1 : decide ((n : Int) < 0) = false := by simp
  have d2 : decide (18014398509481982 < (n : Int)) = false := by simp; omega
  go_enter Try.func9, Try.ntmps9
  go_wp2
  clear d1 d2
  have HN := Lib.hid h
  clear h
  go_loopw [0, 4] (fun x b wr => ∃ (m : Nat) (out : List Int), x = .int .i64 m ∧ Hid (m ≤ 18014398509481982) ∧ Hid (leb n = out ++ leb m) ∧ wr.ownsRow w.heap.size 5 1 b out.length (ints .u8 out) ∧ Below w.heap.size w wr) (fun x _ _ => (intOf x).toNat)
  case atStart => exact ⟨n, [], rfl, HN, Lib.hid rfl, World.ownsRow_nil _ _ _ _, Below.refl _ _⟩
  case round =>
    obtain ⟨m, out, rfl, HM, HE, hown, hb⟩ := hrel
    have hlen : out.length ≤ 7 := leb_out_len HE.out HN.out
    by_cases h128 : 128 ≤ m
    · go_wp2_with (at_builtin; refine wpList_app _ rfl (.tmp 15) (.tmp 19) 23 rfl w.heap.size 5 i0 (.int .u8 0) 1 Try.underlying23 hi hz0 hz1 hz2 rfl _ _ _ rfl (hown.alloc _) _ _ 1 1 _ rfl (Row.one _ _ _) (by simp [Value.oneCell']) (by unfold maxLen; omega) (by omega) (by simp; have := hb.size; omega) ?_)
      intro v' w' hown' _ hb'
      rw [or128] at hown'
      have hstep := Lib.hid (leb_step HE.out (by omega))
      have hb2 : Below w.heap.size w w' := (hb.alloc hb.size _).trans hb'
      go_wp2
      go_roundw
      case rel => exact ⟨m / 128, out ++ [((m % 128 + 128 : Nat) : Int)], by go_num, Lib.hid (by have := HM.out; omega), hstep, by simpa [ints_append, ints] using hown', hb2⟩
      case measure => simp [intOf]; omega
    · have hs := Lib.hid (leb_small (n := m) (by omega))
      go_wp2_with (at_builtin; refine wpList_app _ rfl (.tmp 21) (.tmp 24) 23 rfl w.heap.size 5 i0 (.int .u8 0) 1 Try.underlying23 hi hz0 hz1 hz2 rfl _ _ _ rfl (hown.alloc _) _ _ 1 1 _ rfl (Row.one _ _ _) (by simp [Value.oneCell']) (by unfold maxLen; omega) (by omega) (by simp; have := hb.size; omega) ?_)
      intro v' w' hown' _ hb'
      have hb2 : Below w.heap.size w w' := (hb.alloc hb.size _).trans hb'
      go_wp2
      go_ret2
      exact ⟨_, rfl, by rw [HE.out, hs.out]; simpa [ints_append, ints] using hown', hb2⟩
end Go.Proofs.Ytieknhlpgoedgaa
