/-
  No cell of these rows narrows 'for every input' (looked for: loops, veiled, ifaces, maps, wideKeys, modest, calm, conditions, laid).
  DERIVED. THE GIVEN ROWS OF THIS SEAT. 5 by the template 'for every input the law returns true; each argument reads behind the call as it read before'; 0 by the template 'total and deterministic' (their statements: YtomjdicedjdpnaaTotals.lean).
  GIVEN WITH THE SEED: the statements are not yours to turn. If you find one false, say at which input.
  Laid BY PROGRAM, IN A SANDBOX (cutbox-rows.mjs): the forced cells as the released guide's own fill.sh prints them over the translation ec25b27218041d17… (all of the seat's roots in one cut). By AI agents, Wed Nov 11 2026. No macro, syntax, notation, axiom, sorry.
-/
import Derived.Test.YtomjdicedjdpnaaChecked
import GoSem.Claim
import GoSem.ClaimJoined
import GoSem.ClaimMapViews
import Derived.JoinedTies
import Derived.KernelRfl
namespace Go.Proofs.Ytomjdicedjdpnaa
/- THE CELL 'sum', in the pinned program and in every row, IS THE sha256 OF THE DUMP (.gsa) THAT YtomjdicedjdpnaaProg.lean LOADS. Nothing in Lean hashes anything: it is a label: what it is worth is what the hold of that sum in a sandbox is worth. -/
noncomputable def Try.pinned : Pinned := { name := "ytomjdicedjdpnaa", sum := "ec25b27218041d17cd30d7cae4f1a512fda4359cd0910df9330d4e1584726c6e", checked := Try.checked }
namespace Rows
def none {H : Type} : Left H := { results := [], args := [] }

/-- 'driftnetlaw18.CutsMatch': WHATEVER THE INPUT: true; the input reads as it did. -/
def cutsMatchSpec : ChangeSpec := { name := "cutsMatch", fn := fun _ => fun
  | [d1, d2] => { results := [.lit (.bool true)], args := [d1, d2] }
  | _ => none }
def cutsMatchRow : OpenClaim := { program := "ytomjdicedjdpnaa", sum := "ec25b27218041d17cd30d7cae4f1a512fda4359cd0910df9330d4e1584726c6e", func := "driftnet/driftnetlaw18.CutsMatch", spec := "cutsMatch", inPlace := ["internal/bytealg.IndexByteString", "internal/bytealg.IndexString"], unfollowed := true, recurses := true, named := ["internal/bytealg.MaxLen"], apart := false }
def CutsMatchSaid : Prop := cutsMatchRow.holds Try.pinned (OpenSpec.ofChange cutsMatchSpec)

/-- ITS FALSE NEIGHBOUR: 'it returns false'. Refute it at one input. -/
def cutsMatchWrong : ChangeSpec := { name := "cutsMatch", fn := fun _ => fun
  | [d1, d2] => { results := [.lit (.bool false)], args := [d1, d2] }
  | _ => none }
def CutsMatchWrongFalsely : Prop := cutsMatchRow.holds Try.pinned (OpenSpec.ofChange cutsMatchWrong)

/-- 'driftnetlaw18.CutsBack': WHATEVER THE INPUT: true; the input reads as it did. -/
def cutsBackSpec : ChangeSpec := { name := "cutsBack", fn := fun _ => fun
  | [d1, d2, d3] => { results := [.lit (.bool true)], args := [d1, d2, d3] }
  | _ => none }
def cutsBackRow : OpenClaim := { program := "ytomjdicedjdpnaa", sum := "ec25b27218041d17cd30d7cae4f1a512fda4359cd0910df9330d4e1584726c6e", func := "driftnet/driftnetlaw18.CutsBack", spec := "cutsBack", inPlace := ["internal/bytealg.IndexByteString", "internal/bytealg.IndexString"], unfollowed := true, recurses := true, named := ["internal/bytealg.MaxLen"], apart := false }
def CutsBackSaid : Prop := cutsBackRow.holds Try.pinned (OpenSpec.ofChange cutsBackSpec)

/-- ITS FALSE NEIGHBOUR: 'it returns false'. Refute it at one input. -/
def cutsBackWrong : ChangeSpec := { name := "cutsBack", fn := fun _ => fun
  | [d1, d2, d3] => { results := [.lit (.bool false)], args := [d1, d2, d3] }
  | _ => none }
def CutsBackWrongFalsely : Prop := cutsBackRow.holds Try.pinned (OpenSpec.ofChange cutsBackWrong)

/-- 'driftnetlaw18.CutsPieces': WHATEVER THE INPUT: true; the input reads as it did. -/
def cutsPiecesSpec : ChangeSpec := { name := "cutsPieces", fn := fun _ => fun
  | [d1, d2] => { results := [.lit (.bool true)], args := [d1, d2] }
  | _ => none }
def cutsPiecesRow : OpenClaim := { program := "ytomjdicedjdpnaa", sum := "ec25b27218041d17cd30d7cae4f1a512fda4359cd0910df9330d4e1584726c6e", func := "driftnet/driftnetlaw18.CutsPieces", spec := "cutsPieces", inPlace := ["internal/bytealg.IndexByteString", "internal/bytealg.IndexString"], unfollowed := true, recurses := true, named := ["internal/bytealg.MaxLen"], apart := false }
def CutsPiecesSaid : Prop := cutsPiecesRow.holds Try.pinned (OpenSpec.ofChange cutsPiecesSpec)

/-- ITS FALSE NEIGHBOUR: 'it returns false'. Refute it at one input. -/
def cutsPiecesWrong : ChangeSpec := { name := "cutsPieces", fn := fun _ => fun
  | [d1, d2] => { results := [.lit (.bool false)], args := [d1, d2] }
  | _ => none }
def CutsPiecesWrongFalsely : Prop := cutsPiecesRow.holds Try.pinned (OpenSpec.ofChange cutsPiecesWrong)

/-- 'driftnetlaw18.CutsNames': WHATEVER THE INPUT: true; the input reads as it did. -/
def cutsNamesSpec : ChangeSpec := { name := "cutsNames", fn := fun _ => fun
  | [d1, d2] => { results := [.lit (.bool true)], args := [d1, d2] }
  | _ => none }
def cutsNamesRow : OpenClaim := { program := "ytomjdicedjdpnaa", sum := "ec25b27218041d17cd30d7cae4f1a512fda4359cd0910df9330d4e1584726c6e", func := "driftnet/driftnetlaw18.CutsNames", spec := "cutsNames", inPlace := ["internal/bytealg.IndexByteString", "internal/bytealg.IndexString", "internal/abi.NoEscape", "internal/bytealg.MakeNoZero"], unfollowed := true, recurses := true, named := ["internal/bytealg.MaxLen"], apart := false }
def CutsNamesSaid : Prop := cutsNamesRow.holds Try.pinned (OpenSpec.ofChange cutsNamesSpec)

/-- ITS FALSE NEIGHBOUR: 'it returns false'. Refute it at one input. -/
def cutsNamesWrong : ChangeSpec := { name := "cutsNames", fn := fun _ => fun
  | [d1, d2] => { results := [.lit (.bool false)], args := [d1, d2] }
  | _ => none }
def CutsNamesWrongFalsely : Prop := cutsNamesRow.holds Try.pinned (OpenSpec.ofChange cutsNamesWrong)

/-- 'driftnetlaw18.CutsKnown': WHATEVER THE INPUT: true; the input reads as it did. -/
def cutsKnownSpec : ChangeSpec := { name := "cutsKnown", fn := fun _ => fun
  | [] => { results := [.lit (.bool true)], args := [] }
  | _ => none }
def cutsKnownRow : OpenClaim := { program := "ytomjdicedjdpnaa", sum := "ec25b27218041d17cd30d7cae4f1a512fda4359cd0910df9330d4e1584726c6e", func := "driftnet/driftnetlaw18.CutsKnown", spec := "cutsKnown", inPlace := ["internal/abi.NoEscape", "internal/bytealg.MakeNoZero", "internal/bytealg.IndexByteString", "internal/bytealg.IndexString"], unfollowed := true, recurses := true, named := ["internal/bytealg.MaxLen"], apart := false }
def CutsKnownSaid : Prop := cutsKnownRow.holds Try.pinned (OpenSpec.ofChange cutsKnownSpec)

/-- ITS FALSE NEIGHBOUR: 'it returns false'. Refute it at one input. -/
def cutsKnownWrong : ChangeSpec := { name := "cutsKnown", fn := fun _ => fun
  | [] => { results := [.lit (.bool false)], args := [] }
  | _ => none }
def CutsKnownWrongFalsely : Prop := cutsKnownRow.holds Try.pinned (OpenSpec.ofChange cutsKnownWrong)

/- THE SECOND FORM. 'bulk': how many values and letters a reading holds, each counted each time it is reached (what is shared counts as often as it is met; a slice's spare places count too). A statement '..UptoSaid' is the law's where the arguments, and the package variables that the reading takes, are together of bulk at most 1048576: NARROWER than '..Said'. Prove '..Said' where nothing that the law and all that it calls make is longer than what came in: it says more and counts as full. Else prove '..UptoSaid'. A law counts once. -/
mutual
def uptoBulk {H : Type} : DataW H → Nat
  | .lit (.string bytes) => bytes.length + 1
  | .lit _ => 1
  | .nil => 1
  | .ptr d => uptoBulk d + 1
  | .slice elems spare => uptoBulkAll elems + uptoBulkAll spare + 1
  | .agg parts => uptoBulkAll parts + 1
  | .iface _ d => uptoBulk d + 1
  | .map entries => uptoBulkEntries entries + 1
  | .held _ => 1
def uptoBulkAll {H : Type} : List (DataW H) → Nat
  | [] => 0
  | d :: r => uptoBulk d + uptoBulkAll r
def uptoBulkEntries {H : Type} : List (Lit × DataW H) → Nat
  | [] => 0
  | x :: r => uptoBulkEntry x + uptoBulkEntries r
def uptoBulkEntry {H : Type} : Lit × DataW H → Nat
  | (.string bytes, d) => bytes.length + uptoBulk d + 1
  | (_, d) => uptoBulk d + 1
 end
def uptoSmall : (H : Type) → List (DataW H) → Bool := fun _ ds => decide (uptoBulkAll ds ≤ 1048576)
def OpenSpec.upto (s : _root_.Go.ChangeSpec) : _root_.Go.OpenSpec := { _root_.Go.OpenSpec.ofChange s with cond := some uptoSmall }

/-- 'driftnetlaw18.CutsMatch', WHERE WHAT IT READS IS OF BULK AT MOST 1048576: true; the input reads as it did. -/
def cutsMatchUptoRow : OpenClaim := { program := "ytomjdicedjdpnaa", sum := "ec25b27218041d17cd30d7cae4f1a512fda4359cd0910df9330d4e1584726c6e", func := "driftnet/driftnetlaw18.CutsMatch", spec := "cutsMatch", inPlace := ["internal/bytealg.IndexByteString", "internal/bytealg.IndexString"], unfollowed := true, recurses := true, named := ["internal/bytealg.MaxLen"], apart := false, narrowed := true }
def CutsMatchUptoSaid : Prop := cutsMatchUptoRow.holds Try.pinned (OpenSpec.upto cutsMatchSpec)

/-- 'driftnetlaw18.CutsBack', WHERE WHAT IT READS IS OF BULK AT MOST 1048576: true; the input reads as it did. -/
def cutsBackUptoRow : OpenClaim := { program := "ytomjdicedjdpnaa", sum := "ec25b27218041d17cd30d7cae4f1a512fda4359cd0910df9330d4e1584726c6e", func := "driftnet/driftnetlaw18.CutsBack", spec := "cutsBack", inPlace := ["internal/bytealg.IndexByteString", "internal/bytealg.IndexString"], unfollowed := true, recurses := true, named := ["internal/bytealg.MaxLen"], apart := false, narrowed := true }
def CutsBackUptoSaid : Prop := cutsBackUptoRow.holds Try.pinned (OpenSpec.upto cutsBackSpec)

/-- 'driftnetlaw18.CutsPieces', WHERE WHAT IT READS IS OF BULK AT MOST 1048576: true; the input reads as it did. -/
def cutsPiecesUptoRow : OpenClaim := { program := "ytomjdicedjdpnaa", sum := "ec25b27218041d17cd30d7cae4f1a512fda4359cd0910df9330d4e1584726c6e", func := "driftnet/driftnetlaw18.CutsPieces", spec := "cutsPieces", inPlace := ["internal/bytealg.IndexByteString", "internal/bytealg.IndexString"], unfollowed := true, recurses := true, named := ["internal/bytealg.MaxLen"], apart := false, narrowed := true }
def CutsPiecesUptoSaid : Prop := cutsPiecesUptoRow.holds Try.pinned (OpenSpec.upto cutsPiecesSpec)

/-- 'driftnetlaw18.CutsNames', WHERE WHAT IT READS IS OF BULK AT MOST 1048576: true; the input reads as it did. -/
def cutsNamesUptoRow : OpenClaim := { program := "ytomjdicedjdpnaa", sum := "ec25b27218041d17cd30d7cae4f1a512fda4359cd0910df9330d4e1584726c6e", func := "driftnet/driftnetlaw18.CutsNames", spec := "cutsNames", inPlace := ["internal/bytealg.IndexByteString", "internal/bytealg.IndexString", "internal/abi.NoEscape", "internal/bytealg.MakeNoZero"], unfollowed := true, recurses := true, named := ["internal/bytealg.MaxLen"], apart := false, narrowed := true }
def CutsNamesUptoSaid : Prop := cutsNamesUptoRow.holds Try.pinned (OpenSpec.upto cutsNamesSpec)

/-- 'driftnetlaw18.CutsKnown', WHERE WHAT IT READS IS OF BULK AT MOST 1048576: true; the input reads as it did. -/
def cutsKnownUptoRow : OpenClaim := { program := "ytomjdicedjdpnaa", sum := "ec25b27218041d17cd30d7cae4f1a512fda4359cd0910df9330d4e1584726c6e", func := "driftnet/driftnetlaw18.CutsKnown", spec := "cutsKnown", inPlace := ["internal/abi.NoEscape", "internal/bytealg.MakeNoZero", "internal/bytealg.IndexByteString", "internal/bytealg.IndexString"], unfollowed := true, recurses := true, named := ["internal/bytealg.MaxLen"], apart := false, narrowed := true }
def CutsKnownUptoSaid : Prop := cutsKnownUptoRow.holds Try.pinned (OpenSpec.upto cutsKnownSpec)

end Rows
end Go.Proofs.Ytomjdicedjdpnaa
