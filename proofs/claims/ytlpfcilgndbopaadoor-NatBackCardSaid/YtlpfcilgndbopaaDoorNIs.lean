/- The law's is. -/
import Derived.Test.YtlpfcilgndbopaaDoorNSame
namespace Go.Proofs.YtlpfcilgndbopaaDoor
open Go.RowKit

theorem is_ok (A A' : Option Addr) (n c n' c' B B' : Nat) (a b : List Int) (w : World) (hr : Row w B A n (ints .u32 a)) (hr' : Row w B' A' n' (ints .u32 b)) (hn : n ≤ 9223372036854775807) :
    Calls Tryd.prog 55 #[.slice A n c, .int .i64 0, .slice A' n' c'] w fun e w' => e = .returned (.bool (decide (a = b))) ∧ Below w.heap.size w w' := by
  have HS := Lib.hid (same_any A A' n n' c c' B B' a b w hr hr' hn)
  clear hr hr'
  obtain ⟨q, hq⟩ : ∃ q, decide (a = b) = q := ⟨_, rfl⟩
  rw [hq] at HS ⊢
  clear hq
  go_enter Tryd.func55, Tryd.ntmps55
  go_wp2_with fail
  refine HS.out.mono ?_
  rintro e w' ⟨rfl, hb⟩
  go_wp2
  go_ret
  exact ⟨rfl, hb⟩
end Go.Proofs.YtlpfcilgndbopaaDoor
