/-
  No cell of these rows narrows 'for every input' (looked for: loops, veiled, ifaces, maps, wideKeys, modest, calm, conditions, laid).
  DERIVED. THE GIVEN ROWS OF THIS SEAT. 6 by the template 'for every input the law returns true; each argument reads behind the call as it read before'; 0 by the template 'total and deterministic' (their statements: YtieknhlpgoedgaaTotals.lean).
  GIVEN WITH THE SEED: the statements are not yours to turn. If you find one false, say at which input.
  Laid BY PROGRAM, IN A SANDBOX (cutbox-rows.mjs): the forced cells as the released guide's own fill.sh prints them over the translation 6b74c5c6f28d3b6d… (all of the seat's roots in one cut). By AI agents, Wed Nov 11 2026. No macro, syntax, notation, axiom, sorry.
-/
import Derived.Test.YtieknhlpgoedgaaChecked
import GoSem.Claim
import GoSem.ClaimJoined
import GoSem.ClaimMapViews
import Derived.JoinedTies
import Derived.KernelRfl
namespace Go.Proofs.Ytieknhlpgoedgaa
/- THE CELL 'sum', in the pinned program and in every row, IS THE sha256 OF THE DUMP (.gsa) THAT YtieknhlpgoedgaaProg.lean LOADS. Nothing in Lean hashes anything: it is a label: what it is worth is what the hold of that sum in a sandbox is worth. -/
noncomputable def Try.pinned : Pinned := { name := "ytieknhlpgoedgaa", sum := "6b74c5c6f28d3b6d156d17840cc58d3a7fea1032ac3c95b502d5a98aae82f14c", checked := Try.checked }
namespace Rows
def none {H : Type} : Left H := { results := [], args := [] }

/-- 'driftnetlaw06.VaryWrites': WHATEVER THE INPUT: true; the input reads as it did. -/
def varyWritesSpec : ChangeSpec := { name := "varyWrites", fn := fun _ => fun
  | [d1, d2, d3] => { results := [.lit (.bool true)], args := [d1, d2, d3] }
  | _ => none }
def varyWritesRow : OpenClaim := { program := "ytieknhlpgoedgaa", sum := "6b74c5c6f28d3b6d156d17840cc58d3a7fea1032ac3c95b502d5a98aae82f14c", func := "driftnet/driftnetlaw06.VaryWrites", spec := "varyWrites", unfollowed := true, recurses := true, apart := false }
def VaryWritesSaid : Prop := varyWritesRow.holds Try.pinned (OpenSpec.ofChange varyWritesSpec)

/-- ITS FALSE NEIGHBOUR: 'it returns false'. Refute it at one input. -/
def varyWritesWrong : ChangeSpec := { name := "varyWrites", fn := fun _ => fun
  | [d1, d2, d3] => { results := [.lit (.bool false)], args := [d1, d2, d3] }
  | _ => none }
def VaryWritesWrongFalsely : Prop := varyWritesRow.holds Try.pinned (OpenSpec.ofChange varyWritesWrong)

/-- 'driftnetlaw06.VaryReads': WHATEVER THE INPUT: true; the input reads as it did. -/
def varyReadsSpec : ChangeSpec := { name := "varyReads", fn := fun _ => fun
  | [d1, d2] => { results := [.lit (.bool true)], args := [d1, d2] }
  | _ => none }
def varyReadsRow : OpenClaim := { program := "ytieknhlpgoedgaa", sum := "6b74c5c6f28d3b6d156d17840cc58d3a7fea1032ac3c95b502d5a98aae82f14c", func := "driftnet/driftnetlaw06.VaryReads", spec := "varyReads", unfollowed := true, recurses := true, apart := false }
def VaryReadsSaid : Prop := varyReadsRow.holds Try.pinned (OpenSpec.ofChange varyReadsSpec)

/-- ITS FALSE NEIGHBOUR: 'it returns false'. Refute it at one input. -/
def varyReadsWrong : ChangeSpec := { name := "varyReads", fn := fun _ => fun
  | [d1, d2] => { results := [.lit (.bool false)], args := [d1, d2] }
  | _ => none }
def VaryReadsWrongFalsely : Prop := varyReadsRow.holds Try.pinned (OpenSpec.ofChange varyReadsWrong)

/-- 'driftnetlaw06.VaryBack': WHATEVER THE INPUT: true; the input reads as it did. -/
def varyBackSpec : ChangeSpec := { name := "varyBack", fn := fun _ => fun
  | [d1, d2, d3] => { results := [.lit (.bool true)], args := [d1, d2, d3] }
  | _ => none }
def varyBackRow : OpenClaim := { program := "ytieknhlpgoedgaa", sum := "6b74c5c6f28d3b6d156d17840cc58d3a7fea1032ac3c95b502d5a98aae82f14c", func := "driftnet/driftnetlaw06.VaryBack", spec := "varyBack", unfollowed := true, recurses := true, apart := false }
def VaryBackSaid : Prop := varyBackRow.holds Try.pinned (OpenSpec.ofChange varyBackSpec)

/-- ITS FALSE NEIGHBOUR: 'it returns false'. Refute it at one input. -/
def varyBackWrong : ChangeSpec := { name := "varyBack", fn := fun _ => fun
  | [d1, d2, d3] => { results := [.lit (.bool false)], args := [d1, d2, d3] }
  | _ => none }
def VaryBackWrongFalsely : Prop := varyBackRow.holds Try.pinned (OpenSpec.ofChange varyBackWrong)

/-- 'driftnetlaw06.VaryAgain': WHATEVER THE INPUT: true; the input reads as it did. -/
def varyAgainSpec : ChangeSpec := { name := "varyAgain", fn := fun _ => fun
  | [d] => { results := [.lit (.bool true)], args := [d] }
  | _ => none }
def varyAgainRow : OpenClaim := { program := "ytieknhlpgoedgaa", sum := "6b74c5c6f28d3b6d156d17840cc58d3a7fea1032ac3c95b502d5a98aae82f14c", func := "driftnet/driftnetlaw06.VaryAgain", spec := "varyAgain", unfollowed := true, recurses := true, apart := false }
def VaryAgainSaid : Prop := varyAgainRow.holds Try.pinned (OpenSpec.ofChange varyAgainSpec)

/-- ITS FALSE NEIGHBOUR: 'it returns false'. Refute it at one input. -/
def varyAgainWrong : ChangeSpec := { name := "varyAgain", fn := fun _ => fun
  | [d] => { results := [.lit (.bool false)], args := [d] }
  | _ => none }
def VaryAgainWrongFalsely : Prop := varyAgainRow.holds Try.pinned (OpenSpec.ofChange varyAgainWrong)

/-- 'driftnetlaw06.VaryShort': WHATEVER THE INPUT: true; the input reads as it did. -/
def varyShortSpec : ChangeSpec := { name := "varyShort", fn := fun _ => fun
  | [d1, d2] => { results := [.lit (.bool true)], args := [d1, d2] }
  | _ => none }
def varyShortRow : OpenClaim := { program := "ytieknhlpgoedgaa", sum := "6b74c5c6f28d3b6d156d17840cc58d3a7fea1032ac3c95b502d5a98aae82f14c", func := "driftnet/driftnetlaw06.VaryShort", spec := "varyShort", unfollowed := true, recurses := true, apart := false }
def VaryShortSaid : Prop := varyShortRow.holds Try.pinned (OpenSpec.ofChange varyShortSpec)

/-- ITS FALSE NEIGHBOUR: 'it returns false'. Refute it at one input. -/
def varyShortWrong : ChangeSpec := { name := "varyShort", fn := fun _ => fun
  | [d1, d2] => { results := [.lit (.bool false)], args := [d1, d2] }
  | _ => none }
def VaryShortWrongFalsely : Prop := varyShortRow.holds Try.pinned (OpenSpec.ofChange varyShortWrong)

/-- 'driftnetlaw06.VaryKnown': WHATEVER THE INPUT: true; the input reads as it did. -/
def varyKnownSpec : ChangeSpec := { name := "varyKnown", fn := fun _ => fun
  | [] => { results := [.lit (.bool true)], args := [] }
  | _ => none }
def varyKnownRow : OpenClaim := { program := "ytieknhlpgoedgaa", sum := "6b74c5c6f28d3b6d156d17840cc58d3a7fea1032ac3c95b502d5a98aae82f14c", func := "driftnet/driftnetlaw06.VaryKnown", spec := "varyKnown", unfollowed := true, recurses := true, apart := false }
def VaryKnownSaid : Prop := varyKnownRow.holds Try.pinned (OpenSpec.ofChange varyKnownSpec)

/-- ITS FALSE NEIGHBOUR: 'it returns false'. Refute it at one input. -/
def varyKnownWrong : ChangeSpec := { name := "varyKnown", fn := fun _ => fun
  | [] => { results := [.lit (.bool false)], args := [] }
  | _ => none }
def VaryKnownWrongFalsely : Prop := varyKnownRow.holds Try.pinned (OpenSpec.ofChange varyKnownWrong)

/- THE SECOND FORM. 'bulk': how many values and letters a reading holds, each counted each time it is reached (what is shared counts as often as it is met; a slice's spare places count too). A statement '..UptoSaid' is the law's where the arguments, and the package variables that the reading takes, are together of bulk at most 1048576: NARROWER than '..Said'. Prove '..Said' where nothing that the law and all that it calls make is longer than what came in: it says more and counts as full. Else prove '..UptoSaid'. A law counts once. -/
mutual
def uptoBulk {H : Type} : DataW H → Nat
  | .lit (.string bytes) => bytes.length + 1
  | .lit _ => 1
  | .nil => 1
  | .ptr d => uptoBulk d + 1
  | .slice elems spare => uptoBulkAll elems + uptoBulkAll spare + 1
  | .agg parts => uptoBulkAll parts + 1
  | .iface _ d => uptoBulk d + 1
  | .map entries => uptoBulkEntries entries + 1
  | .held _ => 1
def uptoBulkAll {H : Type} : List (DataW H) → Nat
  | [] => 0
  | d :: r => uptoBulk d + uptoBulkAll r
def uptoBulkEntries {H : Type} : List (Lit × DataW H) → Nat
  | [] => 0
  | x :: r => uptoBulkEntry x + uptoBulkEntries r
def uptoBulkEntry {H : Type} : Lit × DataW H → Nat
  | (.string bytes, d) => bytes.length + uptoBulk d + 1
  | (_, d) => uptoBulk d + 1
 end
def uptoSmall : (H : Type) → List (DataW H) → Bool := fun _ ds => decide (uptoBulkAll ds ≤ 1048576)
def OpenSpec.upto (s : _root_.Go.ChangeSpec) : _root_.Go.OpenSpec := { _root_.Go.OpenSpec.ofChange s with cond := some uptoSmall }

/-- 'driftnetlaw06.VaryWrites', WHERE WHAT IT READS IS OF BULK AT MOST 1048576: true; the input reads as it did. -/
def varyWritesUptoRow : OpenClaim := { program := "ytieknhlpgoedgaa", sum := "6b74c5c6f28d3b6d156d17840cc58d3a7fea1032ac3c95b502d5a98aae82f14c", func := "driftnet/driftnetlaw06.VaryWrites", spec := "varyWrites", unfollowed := true, recurses := true, apart := false, narrowed := true }
def VaryWritesUptoSaid : Prop := varyWritesUptoRow.holds Try.pinned (OpenSpec.upto varyWritesSpec)

/-- 'driftnetlaw06.VaryReads', WHERE WHAT IT READS IS OF BULK AT MOST 1048576: true; the input reads as it did. -/
def varyReadsUptoRow : OpenClaim := { program := "ytieknhlpgoedgaa", sum := "6b74c5c6f28d3b6d156d17840cc58d3a7fea1032ac3c95b502d5a98aae82f14c", func := "driftnet/driftnetlaw06.VaryReads", spec := "varyReads", unfollowed := true, recurses := true, apart := false, narrowed := true }
def VaryReadsUptoSaid : Prop := varyReadsUptoRow.holds Try.pinned (OpenSpec.upto varyReadsSpec)

/-- 'driftnetlaw06.VaryBack', WHERE WHAT IT READS IS OF BULK AT MOST 1048576: true; the input reads as it did. -/
def varyBackUptoRow : OpenClaim := { program := "ytieknhlpgoedgaa", sum := "6b74c5c6f28d3b6d156d17840cc58d3a7fea1032ac3c95b502d5a98aae82f14c", func := "driftnet/driftnetlaw06.VaryBack", spec := "varyBack", unfollowed := true, recurses := true, apart := false, narrowed := true }
def VaryBackUptoSaid : Prop := varyBackUptoRow.holds Try.pinned (OpenSpec.upto varyBackSpec)

/-- 'driftnetlaw06.VaryAgain', WHERE WHAT IT READS IS OF BULK AT MOST 1048576: true; the input reads as it did. -/
def varyAgainUptoRow : OpenClaim := { program := "ytieknhlpgoedgaa", sum := "6b74c5c6f28d3b6d156d17840cc58d3a7fea1032ac3c95b502d5a98aae82f14c", func := "driftnet/driftnetlaw06.VaryAgain", spec := "varyAgain", unfollowed := true, recurses := true, apart := false, narrowed := true }
def VaryAgainUptoSaid : Prop := varyAgainUptoRow.holds Try.pinned (OpenSpec.upto varyAgainSpec)

/-- 'driftnetlaw06.VaryShort', WHERE WHAT IT READS IS OF BULK AT MOST 1048576: true; the input reads as it did. -/
def varyShortUptoRow : OpenClaim := { program := "ytieknhlpgoedgaa", sum := "6b74c5c6f28d3b6d156d17840cc58d3a7fea1032ac3c95b502d5a98aae82f14c", func := "driftnet/driftnetlaw06.VaryShort", spec := "varyShort", unfollowed := true, recurses := true, apart := false, narrowed := true }
def VaryShortUptoSaid : Prop := varyShortUptoRow.holds Try.pinned (OpenSpec.upto varyShortSpec)

/-- 'driftnetlaw06.VaryKnown', WHERE WHAT IT READS IS OF BULK AT MOST 1048576: true; the input reads as it did. -/
def varyKnownUptoRow : OpenClaim := { program := "ytieknhlpgoedgaa", sum := "6b74c5c6f28d3b6d156d17840cc58d3a7fea1032ac3c95b502d5a98aae82f14c", func := "driftnet/driftnetlaw06.VaryKnown", spec := "varyKnown", unfollowed := true, recurses := true, apart := false, narrowed := true }
def VaryKnownUptoSaid : Prop := varyKnownUptoRow.holds Try.pinned (OpenSpec.upto varyKnownSpec)

end Rows
end Go.Proofs.Ytieknhlpgoedgaa
