/- SealPieces, walked: the cases together. -/
import Derived.Test.YtoodchnjikkkkaaSPcs1
import Derived.Test.YtoodchnjikkkkaaSPcs2
import Derived.Test.YtoodchnjikkkkaaSPcs3
namespace Go.Proofs.Ytoodchnjikkkkaa
open Go.RowKit

theorem Pieces_walk (A : Option Addr) (l : List Int) (c : Nat) (at' : Int) (w : World) (hr : Row w w.heap.size A l.length (ints .u8 l)) (hc : l.length ≤ c) (hs : c * 1 ≤ 140737488351232) (hu0 : ∀ x ∈ l, (Lit.int .u8 x).wf = true) (hat : (Lit.int .i64 at').wf = true) :
    Calls Try.prog 6 #[.slice A l.length c, .int .i64 at'] w fun e w' => e = .returned (.bool true) ∧ Below w.heap.size w w' := by
  have hu := u8_of_wf hu0
  rcases Nat.eq_zero_or_pos l.length with h0 | h0
  · obtain rfl : l = [] := List.eq_nil_of_length_eq_zero h0
    have hz : at' % 1 = 0 := by omega
    by_cases h : c = 0
    · subst h
      exact Pieces_two A [] 0 (sumOf 0 []) at' w hr (by omega) U8.nil hat (Lib.hid hz) (Lib.hid rfl)
    · exact Pieces_three A c (sumOf 0 []) at' w hr (by omega) h hat (Lib.hid hz) (Lib.hid rfl)
  · obtain ⟨b, off, rfl, _, _⟩ := hr.2 h0
    have h1 := Int.emod_nonneg at' (show (l.length : Int) + 1 ≠ 0 by omega)
    have h2 := Int.emod_lt_of_pos at' (show (0 : Int) < (l.length : Int) + 1 by omega)
    obtain ⟨k, hk⟩ : ∃ k : Nat, at' % ((l.length : Int) + 1) = (k : Int) := ⟨(at' % ((l.length : Int) + 1)).toNat, by omega⟩
    by_cases h : k < c
    · exact Pieces_one b off l c l.length k _ _ at' w hr hc (by omega) hu hat (by omega) h (Lib.hid hk) (Lib.hid rfl) (Lib.hid rfl)
    · have e : c = l.length := by omega
      subst e
      exact Pieces_two _ l l.length _ at' w hr (by omega) hu hat (Lib.hid (by rw [hk]; omega)) (Lib.hid rfl)
end Go.Proofs.Ytoodchnjikkkkaa
