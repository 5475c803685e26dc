/-
  DERIVED. GIVEN WITH THE SEED: THE CARDS: each row of YtdmflofdchmfhaaGreatDoorRows.lean that lists a variable, with what it lists TIED to the program's text (the seventh form; the later family's looks); each row that meets fmt, with fmt's text TOLD by the authors' own Lean function (tested against real Go, not proved from fmt's source: count such statements apart). THE CARD IS WHAT COUNTS. Prove the row's statement (the work); the ties are given (YtdmflofdchmfhaaGreatDoorTie.lean); close each card by the builder's one call (the guide's Derived/Test/ToyasCard.lean, 'card_holds'). Laid BY PROGRAM, IN A SANDBOX (cutbox-door.mjs). By AI agents, Wed Nov 11 2026. No macro, syntax, notation, axiom, sorry.
-/
import Derived.Test.YtdmflofdchmfhaaGreatDoorRows
import GoSem.ClaimSeven
namespace Go.Proofs.YtdmflofdchmfhaaGreatDoor
namespace Rows

/-- THE TIED CARD OF 'driftnetlaw05.LabelsTell'. -/
def labelsTellCard : Claim7 := { stood := { row := labelsTellRow, standIns := [], harness := (true, "6168c42318c50a5cfd556094e483a5b27491781e676e604ff380d295d8180568"), looks := false }, kinds := [], alts := [], laidByText := true, laidKinds := [.data, .data, .data], laidTests := true, laidLooks := .later }
def LabelsTellCardSaid : Prop := Claim7.holds Tryz.pinned (.plain (OpenSpec.ofChange labelsTellSpec)) labelsTellCard

/-- THE SECOND FORM's CARD OF 'driftnetlaw05.LabelsTell'. -/
def labelsTellUptoCard : Claim7 := { stood := { row := labelsTellUptoRow, standIns := [], harness := (true, "6168c42318c50a5cfd556094e483a5b27491781e676e604ff380d295d8180568"), looks := false }, kinds := [], alts := [], laidByText := true, laidKinds := [.data, .data, .data], laidTests := true, laidLooks := .later }
def LabelsTellUptoCardSaid : Prop := Claim7.holds Tryz.pinned (.plain (OpenSpec.upto labelsTellSpec)) labelsTellUptoCard
end Rows
end Go.Proofs.YtdmflofdchmfhaaGreatDoor
