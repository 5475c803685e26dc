/-
  DERIVED. GIVEN WITH THE SEED: THE CARDS: each row of YtpeepolmbcakbaaDoorRows.lean that lists a variable, with what it lists TIED to the program's text (the seventh form; the later family's looks); each row that meets fmt, with fmt's text TOLD by the authors' own Lean function (tested against real Go, not proved from fmt's source: count such statements apart). THE CARD IS WHAT COUNTS. Prove the row's statement (the work); the ties are given (YtpeepolmbcakbaaDoorTie.lean); close each card by the builder's one call (the guide's Derived/Test/ToyasCard.lean, 'card_holds'). Laid BY PROGRAM, IN A SANDBOX (cutbox-door.mjs). By AI agents, Wed Nov 11 2026. No macro, syntax, notation, axiom, sorry.
-/
import Derived.Test.YtpeepolmbcakbaaDoorRows
import GoSem.ClaimSeven
namespace Go.Proofs.YtpeepolmbcakbaaDoor
namespace Rows

/-- THE TIED CARD OF 'driftnetlaw08.BlockPacks'. -/
def blockPacksCard : Claim7 := { stood := { row := blockPacksRow, standIns := [], harness := (true, "5a645ec54da7b5bea827b21564c76c79185f5666a3be78e00734c67dbb8ea6f9"), looks := false }, kinds := [], alts := [], laidByText := true, laidKinds := [.sentinel], laidTests := true, laidLooks := .later }
def BlockPacksCardSaid : Prop := Claim7.holds Tryd.pinned (.plain (OpenSpec.ofChange blockPacksSpec)) blockPacksCard

/-- THE TIED CARD OF 'driftnetlaw08.BlockUnpacks'. -/
def blockUnpacksCard : Claim7 := { stood := { row := blockUnpacksRow, standIns := [], harness := (true, "5a645ec54da7b5bea827b21564c76c79185f5666a3be78e00734c67dbb8ea6f9"), looks := false }, kinds := [], alts := [], laidByText := true, laidKinds := [.sentinel], laidTests := true, laidLooks := .later }
def BlockUnpacksCardSaid : Prop := Claim7.holds Tryd.pinned (.plain (OpenSpec.ofChange blockUnpacksSpec)) blockUnpacksCard

/-- THE TIED CARD OF 'driftnetlaw08.BlockTurned'. -/
def blockTurnedCard : Claim7 := { stood := { row := blockTurnedRow, standIns := [], harness := (true, "5a645ec54da7b5bea827b21564c76c79185f5666a3be78e00734c67dbb8ea6f9"), looks := false }, kinds := [], alts := [], laidByText := true, laidKinds := [.sentinel], laidTests := true, laidLooks := .later }
def BlockTurnedCardSaid : Prop := Claim7.holds Tryd.pinned (.plain (OpenSpec.ofChange blockTurnedSpec)) blockTurnedCard

/-- THE TIED CARD OF 'driftnetlaw08.BlockBack'. -/
def blockBackCard : Claim7 := { stood := { row := blockBackRow, standIns := [], harness := (true, "5a645ec54da7b5bea827b21564c76c79185f5666a3be78e00734c67dbb8ea6f9"), looks := false }, kinds := [], alts := [], laidByText := true, laidKinds := [.sentinel], laidTests := true, laidLooks := .later }
def BlockBackCardSaid : Prop := Claim7.holds Tryd.pinned (.plain (OpenSpec.ofChange blockBackSpec)) blockBackCard

/-- THE TIED CARD OF 'driftnetlaw08.BlockAgain'. -/
def blockAgainCard : Claim7 := { stood := { row := blockAgainRow, standIns := [], harness := (true, "5a645ec54da7b5bea827b21564c76c79185f5666a3be78e00734c67dbb8ea6f9"), looks := false }, kinds := [], alts := [], laidByText := true, laidKinds := [.sentinel], laidTests := true, laidLooks := .later }
def BlockAgainCardSaid : Prop := Claim7.holds Tryd.pinned (.plain (OpenSpec.ofChange blockAgainSpec)) blockAgainCard

/-- THE TIED CARD OF 'driftnetlaw08.BlockLater'. -/
def blockLaterCard : Claim7 := { stood := { row := blockLaterRow, standIns := [], harness := (true, "5a645ec54da7b5bea827b21564c76c79185f5666a3be78e00734c67dbb8ea6f9"), looks := false }, kinds := [], alts := [], laidByText := true, laidKinds := [.sentinel], laidTests := true, laidLooks := .later }
def BlockLaterCardSaid : Prop := Claim7.holds Tryd.pinned (.plain (OpenSpec.ofChange blockLaterSpec)) blockLaterCard

/-- THE TIED CARD OF 'driftnetlaw08.BlockKnown'. -/
def blockKnownCard : Claim7 := { stood := { row := blockKnownRow, standIns := [], harness := (true, "5a645ec54da7b5bea827b21564c76c79185f5666a3be78e00734c67dbb8ea6f9"), looks := false }, kinds := [], alts := [], laidByText := true, laidKinds := [.sentinel], laidTests := true, laidLooks := .later }
def BlockKnownCardSaid : Prop := Claim7.holds Tryd.pinned (.plain (OpenSpec.ofChange blockKnownSpec)) blockKnownCard

/-- THE SECOND FORM's CARD OF 'driftnetlaw08.BlockPacks'. -/
def blockPacksUptoCard : Claim7 := { stood := { row := blockPacksUptoRow, standIns := [], harness := (true, "5a645ec54da7b5bea827b21564c76c79185f5666a3be78e00734c67dbb8ea6f9"), looks := false }, kinds := [], alts := [], laidByText := true, laidKinds := [.sentinel], laidTests := true, laidLooks := .later }
def BlockPacksUptoCardSaid : Prop := Claim7.holds Tryd.pinned (.plain (OpenSpec.upto blockPacksSpec)) blockPacksUptoCard

/-- THE SECOND FORM's CARD OF 'driftnetlaw08.BlockUnpacks'. -/
def blockUnpacksUptoCard : Claim7 := { stood := { row := blockUnpacksUptoRow, standIns := [], harness := (true, "5a645ec54da7b5bea827b21564c76c79185f5666a3be78e00734c67dbb8ea6f9"), looks := false }, kinds := [], alts := [], laidByText := true, laidKinds := [.sentinel], laidTests := true, laidLooks := .later }
def BlockUnpacksUptoCardSaid : Prop := Claim7.holds Tryd.pinned (.plain (OpenSpec.upto blockUnpacksSpec)) blockUnpacksUptoCard

/-- THE SECOND FORM's CARD OF 'driftnetlaw08.BlockTurned'. -/
def blockTurnedUptoCard : Claim7 := { stood := { row := blockTurnedUptoRow, standIns := [], harness := (true, "5a645ec54da7b5bea827b21564c76c79185f5666a3be78e00734c67dbb8ea6f9"), looks := false }, kinds := [], alts := [], laidByText := true, laidKinds := [.sentinel], laidTests := true, laidLooks := .later }
def BlockTurnedUptoCardSaid : Prop := Claim7.holds Tryd.pinned (.plain (OpenSpec.upto blockTurnedSpec)) blockTurnedUptoCard

/-- THE SECOND FORM's CARD OF 'driftnetlaw08.BlockBack'. -/
def blockBackUptoCard : Claim7 := { stood := { row := blockBackUptoRow, standIns := [], harness := (true, "5a645ec54da7b5bea827b21564c76c79185f5666a3be78e00734c67dbb8ea6f9"), looks := false }, kinds := [], alts := [], laidByText := true, laidKinds := [.sentinel], laidTests := true, laidLooks := .later }
def BlockBackUptoCardSaid : Prop := Claim7.holds Tryd.pinned (.plain (OpenSpec.upto blockBackSpec)) blockBackUptoCard

/-- THE SECOND FORM's CARD OF 'driftnetlaw08.BlockAgain'. -/
def blockAgainUptoCard : Claim7 := { stood := { row := blockAgainUptoRow, standIns := [], harness := (true, "5a645ec54da7b5bea827b21564c76c79185f5666a3be78e00734c67dbb8ea6f9"), looks := false }, kinds := [], alts := [], laidByText := true, laidKinds := [.sentinel], laidTests := true, laidLooks := .later }
def BlockAgainUptoCardSaid : Prop := Claim7.holds Tryd.pinned (.plain (OpenSpec.upto blockAgainSpec)) blockAgainUptoCard

/-- THE SECOND FORM's CARD OF 'driftnetlaw08.BlockLater'. -/
def blockLaterUptoCard : Claim7 := { stood := { row := blockLaterUptoRow, standIns := [], harness := (true, "5a645ec54da7b5bea827b21564c76c79185f5666a3be78e00734c67dbb8ea6f9"), looks := false }, kinds := [], alts := [], laidByText := true, laidKinds := [.sentinel], laidTests := true, laidLooks := .later }
def BlockLaterUptoCardSaid : Prop := Claim7.holds Tryd.pinned (.plain (OpenSpec.upto blockLaterSpec)) blockLaterUptoCard

/-- THE SECOND FORM's CARD OF 'driftnetlaw08.BlockKnown'. -/
def blockKnownUptoCard : Claim7 := { stood := { row := blockKnownUptoRow, standIns := [], harness := (true, "5a645ec54da7b5bea827b21564c76c79185f5666a3be78e00734c67dbb8ea6f9"), looks := false }, kinds := [], alts := [], laidByText := true, laidKinds := [.sentinel], laidTests := true, laidLooks := .later }
def BlockKnownUptoCardSaid : Prop := Claim7.holds Tryd.pinned (.plain (OpenSpec.upto blockKnownSpec)) blockKnownUptoCard
end Rows
end Go.Proofs.YtpeepolmbcakbaaDoor
