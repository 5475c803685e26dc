/- What a line's parts are; the document's Match. -/
import Derived.Test.YtomjdicedjdpnaaCFind
import Derived.Test.YtomjdicedjdpnaaLPut
namespace Go.Proofs.Ytomjdicedjdpnaa
open Go.RowKit

/-- A part is told, if its name counts. -/
def putN (n v : ByteArray) (acc : List Lb) : List Lb := if n = ⟨#[95]⟩ then acc else setL acc n v
/-- The parts of what is left of a line. -/
def goM : List Lb → ByteArray → List Lb → Option (List Lb)
  | [], _, acc => some acc
  | (n, lit) :: r, left, acc =>
    if lit = ByteArray.empty then goM r ByteArray.empty (putN n left acc)
    else if idx left lit < 0 then none else goM r (left.extract ((idx left lit).toNat + lit.size) left.size) (putN n (left.extract 0 (idx left lit).toNat) acc)
def matchC (A : ByteArray) (l : List Lb) (line : ByteArray) : Option (List Lb) := if A.size ≤ line.size ∧ line.extract 0 A.size = A then goM l (line.extract A.size line.size) [] else none
/-- What Match answers. -/
def MOut (w : World) (r : Option (List Lb)) (e : Ending) (w' : World) : Prop :=
  Below w.heap.size w w' ∧ ((r = none ∧ e = .returned (.tuple #[.slice none 0 0, .bool false])) ∨ ∃ l A n c, r = some l ∧ e = .returned (.tuple #[.slice A n c, .bool true]) ∧ RowL w' w'.heap.size A n l ∧ n ≤ c ∧ c ≤ 9223372036854775807)
theorem idx_ge (s t : ByteArray) : -1 ≤ idx s t := Lib.index_ge _ _
theorem idx_room {s t : ByteArray} (h : 0 ≤ idx s t) : (idx s t).toNat + t.size ≤ s.size := by
  have hh := Lib.index_room s.data.toList t.data.toList h
  have ht : t.data.toList.length = t.size := by rw [Array.length_toList]; rfl
  have hs : s.data.toList.length = s.size := by rw [Array.length_toList]; rfl
  rw [ht, hs] at hh
  unfold idx
  unfold idx at h
  omega
theorem ext_all (s : ByteArray) : s.extract 0 s.size = s := by
  apply ByteArray.ext
  apply Array.toList_inj.1
  simp
theorem ext_end (s : ByteArray) : s.extract s.size s.size = ByteArray.empty := by
  apply ByteArray.size_eq_zero_iff.1
  rw [ByteArray.size_extract]; omega
theorem getD_cons_drop {l : List Lb} {k : Nat} (h : k < l.length) : l.drop k = l.getD k noL :: l.drop (k + 1) := by
  rw [List.drop_eq_getElem_cons h, List.getD_eq_getElem?_getD, List.getElem?_eq_getElem h]; rfl
end Go.Proofs.Ytomjdicedjdpnaa
