/- Of, whole. -/
import Derived.Test.YtjnnaafkdgoflaaRSort2
import Derived.Shelf.SlSortCmp.NoneTotal
namespace Go.Proofs.Ytjnnaafkdgoflaa
open Go.RowKit Go.Shelf

theorem sort_any : SortSays := by
  intro A m c base l W hown hm
  rcases Nat.eq_zero_or_pos m with h0 | h0
  · subst h0
    have hl : l = [] := List.eq_nil_of_length_eq_zero (by have := hown.1; rw [cR_len] at this; omega)
    subst hl
    have hcon := AnyF.slices_SortFunc_none { Try.sortRg with } A c (.func (.func 29) #[] #[]) W
    change Calls Try.prog 28 _ _ _ at hcon
    refine hcon.mono ?_
    rintro e w' ⟨rfl, rfl⟩
    exact ⟨rfl, [], fun _ => Iff.rfl, rfl, List.Pairwise.nil, hown, Go.RowKit.Below.refl _ _⟩
  · obtain ⟨g, cap, hv, _, _⟩ := hown.form h0
    injection hv with hA
    subst hA
    exact sort_some g m c base l W hown hm h0
theorem Of_any (A : Option Addr) (n c : Nat) (l : List Rg) (w : World) (hr : RowR w w.heap.size A n l) (hn : n ≤ 100000000) :
    Calls Try.prog 12 #[.slice A n c] w (OutR 47 w (has l)) := Of_sort sort_any A n c l w hr hn
end Go.Proofs.Ytjnnaafkdgoflaa
