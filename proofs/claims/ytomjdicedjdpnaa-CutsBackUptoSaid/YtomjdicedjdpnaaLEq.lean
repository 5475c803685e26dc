/- LEq: taken over. -/
import Derived.Test.YtomjdicedjdpnaaLOrd
namespace Go.Proofs.Ytomjdicedjdpnaa
open Go.RowKit

theorem seq_yes {a b : ByteArray} (h : a = b) : (a.toList == b.toList) = true := by rw [eq_eq, decide_eq_true h]
theorem seq_no {a b : ByteArray} (h : a ≠ b) : (a.toList == b.toList) = false := by rw [eq_eq, decide_eq_false h]
theorem getD_neL {es fs : List Lb} {j : Nat} (h : es.getD j noL ≠ fs.getD j noL) : es ≠ fs := by
  rintro rfl
  exact h rfl
theorem lb_info : (Try.prog.info? 77).map (fun i => (i.zero, i.size, i.bytes)) = some (some (.agg #[.string ByteArray.empty, .string ByteArray.empty]), 2, 32) := by kernel_rfl
theorem info_partsL {P : Program} {t : TypeId} (h : (P.info? t).map (fun i => (i.zero, i.size, i.bytes)) = some (some (.agg #[.string ByteArray.empty, .string ByteArray.empty]), 2, 32)) : ∃ i, P.info? t = some i ∧ i.zero = some (.agg #[.string ByteArray.empty, .string ByteArray.empty]) ∧ i.size = 2 ∧ i.bytes = 32 := by
  rcases hi : P.info? t with _ | i
  · rw [hi] at h; cases h
  · rw [hi] at h
    simp only [Option.map_some, Option.some.injEq, Prod.mk.injEq] at h
    exact ⟨i, rfl, h.1, h.2.1, h.2.2⟩
/-- A list of labels in new memory. -/
def LOut (w : World) (l : List Lb) (e : Ending) (w' : World) : Prop :=
  ∃ A c, e = .returned (.slice A l.length c) ∧ w'.ownsRow w.heap.size 77 2 (.slice A l.length c) l.length (cL l) ∧ Below w.heap.size w w'
end Go.Proofs.Ytomjdicedjdpnaa
