/- slices.Clone and slices.SortFunc at labels. -/
import Derived.Test.YtdmflofdchmfhaaGreatDoorLDel
import Derived.Test.YtdmflofdchmfhaaGreatDoorLSetQ
import Derived.Test.YtdmflofdchmfhaaGreatDoorShelf
namespace Go.Proofs.YtdmflofdchmfhaaGreatDoor
open Go.RowKit Go.Shelf

set_option maxRecDepth 100000 in
set_option maxHeartbeats 1000000 in
theorem Clone_any (A : Option Addr) (n c : Nat) (l : List Lb) (w : World) (hr : RowL w w.heap.size A n l) (hn : n ≤ 100000000) :
    Calls Tryz.prog 25 #[.slice A n c] w (LOut w l) := by
  obtain ⟨i0, hi0, hz0, hz1, hz2⟩ := info_partsL lb_info
  have HL := Lib.hid hr.1
  have q22 : ∀ (w : World) (a : Option Addr) (n c n' c' : Nat), (binOp .eql 22 (.slice a n c) (.slice none n' c')).run Tryz.prog w = .ok (.bool a.isNone) w := fun w a n c n' c' => Lib.run_eql_slice_nil w _ _ a n c n' c' Tryz.underlying22
  rcases A with _ | A
  · have hn0 : n = 0 := by
      rcases Nat.eq_zero_or_pos n with h0 | h0
      · exact h0
      · obtain ⟨_, _, e, _⟩ := hr.2 h0
        cases e
    have hl : l = [] := List.length_eq_zero_iff.1 (by rw [hr.1]; exact hn0)
    subst hl
    clear hr
    go_enter Tryz.func25, Tryz.ntmps25
    go_wp2_with fail
    go_ret
    exact ⟨none, 0, rfl, World.ownsRow_nil _ _ _ _, Below.refl _ _⟩
  · have hb1 := (Below.refl w.heap.size w).alloc (Nat.le_refl _) (.cells #[] 29)
    have hr1 := hr.on hb1
    go_enter Tryz.func25, Tryz.ntmps25
    go_wp2_with (at_builtin; refine wpList_appL _ rfl _ (.tmp 6) 22 rfl w.heap.size 29 i0 Tryz.underlying22 hi0 hz0 hz1 hz2 _ _ _ rfl (World.ownsRow_made w #[] 0 (Nat.le_refl _) (Nat.zero_le _) (by simp)) _ _ _ _ l rfl hr1 (by omega) hb1.size ?_)
    intro v' w' o _ hb
    obtain ⟨A2, c2, rfl⟩ := ownL_slice o
    have HB := Lib.hid (((Below.refl w.heap.size w).alloc (Nat.le_refl _) _).trans hb)
    clear hr hb hr1 hb1
    go_wp2_with fail
    go_ret
    refine ⟨A2, c2, ?_, ?_, HB.out⟩
    · rw [HL.out]; simp
    · rw [HL.out]; simpa using o
end Go.Proofs.YtdmflofdchmfhaaGreatDoor
