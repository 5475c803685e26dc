/-
  DERIVED. GIVEN WITH THE SEED: THE CARDS: each row of YtdeohgfnlcbncaaDoorRows.lean that lists a variable, with what it lists TIED to the program's text (the seventh form; the later family's looks); each row that meets fmt, with fmt's text TOLD by the authors' own Lean function (tested against real Go, not proved from fmt's source: count such statements apart). THE CARD IS WHAT COUNTS. Prove the row's statement (the work); the ties are given (YtdeohgfnlcbncaaDoorTie.lean); close each card by the builder's one call (the guide's Derived/Test/ToyasCard.lean, 'card_holds'). Laid BY PROGRAM, IN A SANDBOX (cutbox-door.mjs). By AI agents, Wed Nov 11 2026. No macro, syntax, notation, axiom, sorry.
-/
import Derived.Test.YtdeohgfnlcbncaaDoorRows
import GoSem.ClaimSeven
namespace Go.Proofs.YtdeohgfnlcbncaaDoor
namespace Rows

/-- THE TIED CARD OF 'driftnetlaw05.LabelsChange'. -/
def labelsChangeCard : Claim7 := { stood := { row := labelsChangeRow, standIns := [], harness := (true, "7396e566f01d70c49e08b452b0de22c64408563a329cdade10ccccaadd23c5ee"), looks := false }, kinds := [], alts := [], laidByText := true, laidKinds := [.data, .data, .data], laidTests := true, laidLooks := .later }
def LabelsChangeCardSaid : Prop := Claim7.holds Tryd.pinned (.plain (OpenSpec.ofChange labelsChangeSpec)) labelsChangeCard

/-- THE TIED CARD OF 'driftnetlaw05.LabelsOrder'. -/
def labelsOrderCard : Claim7 := { stood := { row := labelsOrderRow, standIns := [], harness := (true, "7396e566f01d70c49e08b452b0de22c64408563a329cdade10ccccaadd23c5ee"), looks := false }, kinds := [], alts := [], laidByText := true, laidKinds := [.data, .data, .data], laidTests := true, laidLooks := .later }
def LabelsOrderCardSaid : Prop := Claim7.holds Tryd.pinned (.plain (OpenSpec.ofChange labelsOrderSpec)) labelsOrderCard

/-- THE TIED CARD OF 'driftnetlaw05.LabelsParts'. -/
def labelsPartsCard : Claim7 := { stood := { row := labelsPartsRow, standIns := [], harness := (true, "7396e566f01d70c49e08b452b0de22c64408563a329cdade10ccccaadd23c5ee"), looks := false }, kinds := [], alts := [], laidByText := true, laidKinds := [.data, .data, .data], laidTests := true, laidLooks := .later }
def LabelsPartsCardSaid : Prop := Claim7.holds Tryd.pinned (.plain (OpenSpec.ofChange labelsPartsSpec)) labelsPartsCard

/-- THE TIED CARD OF 'driftnetlaw05.LabelsTurned'. -/
def labelsTurnedCard : Claim7 := { stood := { row := labelsTurnedRow, standIns := [], harness := (true, "7396e566f01d70c49e08b452b0de22c64408563a329cdade10ccccaadd23c5ee"), looks := false }, kinds := [], alts := [], laidByText := true, laidKinds := [.data, .data, .data], laidTests := true, laidLooks := .later }
def LabelsTurnedCardSaid : Prop := Claim7.holds Tryd.pinned (.plain (OpenSpec.ofChange labelsTurnedSpec)) labelsTurnedCard

/-- THE TIED CARD OF 'driftnetlaw05.LabelsClean'. -/
def labelsCleanCard : Claim7 := { stood := { row := labelsCleanRow, standIns := [], harness := (true, "7396e566f01d70c49e08b452b0de22c64408563a329cdade10ccccaadd23c5ee"), looks := false }, kinds := [], alts := [], laidByText := true, laidKinds := [.data, .data, .data], laidTests := true, laidLooks := .later }
def LabelsCleanCardSaid : Prop := Claim7.holds Tryd.pinned (.plain (OpenSpec.ofChange labelsCleanSpec)) labelsCleanCard

/-- THE TIED CARD OF 'driftnetlaw05.LabelsKnown'. -/
def labelsKnownCard : Claim7 := { stood := { row := labelsKnownRow, standIns := [], harness := (true, "7396e566f01d70c49e08b452b0de22c64408563a329cdade10ccccaadd23c5ee"), looks := false }, kinds := [], alts := [], laidByText := true, laidKinds := [.data, .data, .data], laidTests := true, laidLooks := .later }
def LabelsKnownCardSaid : Prop := Claim7.holds Tryd.pinned (.plain (OpenSpec.ofChange labelsKnownSpec)) labelsKnownCard

/-- THE SECOND FORM's CARD OF 'driftnetlaw05.LabelsChange'. -/
def labelsChangeUptoCard : Claim7 := { stood := { row := labelsChangeUptoRow, standIns := [], harness := (true, "7396e566f01d70c49e08b452b0de22c64408563a329cdade10ccccaadd23c5ee"), looks := false }, kinds := [], alts := [], laidByText := true, laidKinds := [.data, .data, .data], laidTests := true, laidLooks := .later }
def LabelsChangeUptoCardSaid : Prop := Claim7.holds Tryd.pinned (.plain (OpenSpec.upto labelsChangeSpec)) labelsChangeUptoCard

/-- THE SECOND FORM's CARD OF 'driftnetlaw05.LabelsOrder'. -/
def labelsOrderUptoCard : Claim7 := { stood := { row := labelsOrderUptoRow, standIns := [], harness := (true, "7396e566f01d70c49e08b452b0de22c64408563a329cdade10ccccaadd23c5ee"), looks := false }, kinds := [], alts := [], laidByText := true, laidKinds := [.data, .data, .data], laidTests := true, laidLooks := .later }
def LabelsOrderUptoCardSaid : Prop := Claim7.holds Tryd.pinned (.plain (OpenSpec.upto labelsOrderSpec)) labelsOrderUptoCard

/-- THE SECOND FORM's CARD OF 'driftnetlaw05.LabelsParts'. -/
def labelsPartsUptoCard : Claim7 := { stood := { row := labelsPartsUptoRow, standIns := [], harness := (true, "7396e566f01d70c49e08b452b0de22c64408563a329cdade10ccccaadd23c5ee"), looks := false }, kinds := [], alts := [], laidByText := true, laidKinds := [.data, .data, .data], laidTests := true, laidLooks := .later }
def LabelsPartsUptoCardSaid : Prop := Claim7.holds Tryd.pinned (.plain (OpenSpec.upto labelsPartsSpec)) labelsPartsUptoCard

/-- THE SECOND FORM's CARD OF 'driftnetlaw05.LabelsTurned'. -/
def labelsTurnedUptoCard : Claim7 := { stood := { row := labelsTurnedUptoRow, standIns := [], harness := (true, "7396e566f01d70c49e08b452b0de22c64408563a329cdade10ccccaadd23c5ee"), looks := false }, kinds := [], alts := [], laidByText := true, laidKinds := [.data, .data, .data], laidTests := true, laidLooks := .later }
def LabelsTurnedUptoCardSaid : Prop := Claim7.holds Tryd.pinned (.plain (OpenSpec.upto labelsTurnedSpec)) labelsTurnedUptoCard

/-- THE SECOND FORM's CARD OF 'driftnetlaw05.LabelsClean'. -/
def labelsCleanUptoCard : Claim7 := { stood := { row := labelsCleanUptoRow, standIns := [], harness := (true, "7396e566f01d70c49e08b452b0de22c64408563a329cdade10ccccaadd23c5ee"), looks := false }, kinds := [], alts := [], laidByText := true, laidKinds := [.data, .data, .data], laidTests := true, laidLooks := .later }
def LabelsCleanUptoCardSaid : Prop := Claim7.holds Tryd.pinned (.plain (OpenSpec.upto labelsCleanSpec)) labelsCleanUptoCard

/-- THE SECOND FORM's CARD OF 'driftnetlaw05.LabelsKnown'. -/
def labelsKnownUptoCard : Claim7 := { stood := { row := labelsKnownUptoRow, standIns := [], harness := (true, "7396e566f01d70c49e08b452b0de22c64408563a329cdade10ccccaadd23c5ee"), looks := false }, kinds := [], alts := [], laidByText := true, laidKinds := [.data, .data, .data], laidTests := true, laidLooks := .later }
def LabelsKnownUptoCardSaid : Prop := Claim7.holds Tryd.pinned (.plain (OpenSpec.upto labelsKnownSpec)) labelsKnownUptoCard
end Rows
end Go.Proofs.YtdeohgfnlcbncaaDoor
