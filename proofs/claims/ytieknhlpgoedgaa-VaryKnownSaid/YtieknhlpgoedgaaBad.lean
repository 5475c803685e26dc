/- Readers that New has not made: nil, and a zero one. -/
import Derived.Test.YtieknhlpgoedgaaReader
import Derived.Test.YtieknhlpgoedgaaReadV
namespace Go.Proofs.Ytieknhlpgoedgaa
open Go.RowKit

/-- No reader that New has made: nil, or a zero one. -/
def Bad (w : World) (p : Option Addr) : Prop := p = none ∨ ∃ g, p = some ⟨g, 0, none⟩ ∧ Blk w g 51 [.bool false, .slice none 0 0, .int .i64 0]
theorem Bad.made (w : World) : Bad (w.alloc (.cells #[.bool false, .slice none 0 0, .int .i64 0] 51)) (some ⟨w.heap.size, 0, none⟩) :=
  .inr ⟨_, rfl, Blk.made w _ [_, _, _]⟩

theorem Err_bad (p : Option Addr) (w : World) (h : Bad w p) : Calls Try.prog 31 #[.pointer p] w fun e w' => e = .returned (.int .i64 1) ∧ w = w' := by
  rcases h with rfl | ⟨g, rfl, h⟩
  · exact Err_nil w
  · exact Err_zero g _ _ w h
theorem U_bad (p : Option Addr) (w : World) (h : Bad w p) : Calls Try.prog 25 #[.pointer p] w fun e w' => e = .returned (.int .i64 0) ∧ w = w' := by
  go_enter Try.func25, Try.ntmps25
  go_wp2_with fail
  refine (Err_bad p w h).mono ?_
  rintro e w' ⟨rfl, rfl⟩
  go_wp2
  go_ret
  exact ⟨rfl, rfl⟩
theorem S_bad (p : Option Addr) (w : World) (h : Bad w p) : Calls Try.prog 27 #[.pointer p] w fun e w' => e = .returned (.int .i64 0) ∧ w = w' := by
  go_enter Try.func27, Try.ntmps27
  go_wp2_with fail
  refine (U_bad p w h).mono ?_
  rintro e w' ⟨rfl, rfl⟩
  go_wp2
  go_ret
  exact ⟨rfl, rfl⟩
theorem Text_bad (p : Option Addr) (n : Int) (w : World) (h : Bad w p) : Calls Try.prog 29 #[.pointer p, .int .i64 n] w fun e w' => e = .returned (.string ByteArray.empty) ∧ w = w' := by
  go_enter Try.func29, Try.ntmps29
  go_wp2_with fail
  refine (U_bad p w h).mono ?_
  rintro e w' ⟨rfl, rfl⟩
  go_wp2_with fail
  refine (Err_bad p w h).mono ?_
  rintro e w' ⟨rfl, rfl⟩
  go_wp2
  go_ret
  exact ⟨rfl, rfl⟩
theorem Left_bad (p : Option Addr) (w : World) (h : Bad w p) : Calls Try.prog 32 #[.pointer p] w fun e w' => e = .returned (.int .i64 0) ∧ w = w' := by
  go_enter Try.func32, Try.ntmps32
  go_wp2_with fail
  refine (Err_bad p w h).mono ?_
  rintro e w' ⟨rfl, rfl⟩
  go_wp2
  go_ret
  exact ⟨rfl, rfl⟩
end Go.Proofs.Ytieknhlpgoedgaa
