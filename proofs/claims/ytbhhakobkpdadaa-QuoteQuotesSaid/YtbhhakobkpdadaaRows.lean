/-
  No cell of these rows narrows 'for every input' (looked for: loops, veiled, ifaces, maps, wideKeys, modest, calm, conditions, laid).
  DERIVED. THE GIVEN ROWS OF THIS SEAT. 7 by the template 'for every input the law returns true; each argument reads behind the call as it read before'; 0 by the template 'total and deterministic' (their statements: YtbhhakobkpdadaaTotals.lean).
  GIVEN WITH THE SEED: the statements are not yours to turn. If you find one false, say at which input.
  Laid BY PROGRAM, IN A SANDBOX (cutbox-rows.mjs): the forced cells as the released guide's own fill.sh prints them over the translation af02524a96266cd1… (all of the seat's roots in one cut). By AI agents, Wed Nov 11 2026. No macro, syntax, notation, axiom, sorry.
-/
import Derived.Test.YtbhhakobkpdadaaChecked
import GoSem.Claim
import GoSem.ClaimJoined
import GoSem.ClaimMapViews
import Derived.JoinedTies
import Derived.KernelRfl
namespace Go.Proofs.Ytbhhakobkpdadaa
/- THE CELL 'sum', in the pinned program and in every row, IS THE sha256 OF THE DUMP (.gsa) THAT YtbhhakobkpdadaaProg.lean LOADS. Nothing in Lean hashes anything: it is a label: what it is worth is what the hold of that sum in a sandbox is worth. -/
noncomputable def Try.pinned : Pinned := { name := "ytbhhakobkpdadaa", sum := "af02524a96266cd1030a42a84affa7a19750c46c56c4cd4f42d1beaaf36d83ef", checked := Try.checked }
namespace Rows
def none {H : Type} : Left H := { results := [], args := [] }

/-- 'driftnetlaw04.QuoteRunes': WHATEVER THE INPUT: true; the input reads as it did. -/
def quoteRunesSpec : ChangeSpec := { name := "quoteRunes", fn := fun _ => fun
  | [d1, d2] => { results := [.lit (.bool true)], args := [d1, d2] }
  | _ => none }
def quoteRunesRow : OpenClaim := { program := "ytbhhakobkpdadaa", sum := "af02524a96266cd1030a42a84affa7a19750c46c56c4cd4f42d1beaaf36d83ef", func := "driftnet/driftnetlaw04.QuoteRunes", spec := "quoteRunes", inPlace := ["internal/abi.NoEscape", "internal/bytealg.IndexByteString", "internal/bytealg.IndexString"], unfollowed := true, recurses := true, named := ["internal/bytealg.MaxLen"], apart := false }
def QuoteRunesSaid : Prop := quoteRunesRow.holds Try.pinned (OpenSpec.ofChange quoteRunesSpec)

/-- ITS FALSE NEIGHBOUR: 'it returns false'. Refute it at one input. -/
def quoteRunesWrong : ChangeSpec := { name := "quoteRunes", fn := fun _ => fun
  | [d1, d2] => { results := [.lit (.bool false)], args := [d1, d2] }
  | _ => none }
def QuoteRunesWrongFalsely : Prop := quoteRunesRow.holds Try.pinned (OpenSpec.ofChange quoteRunesWrong)

/-- 'driftnetlaw04.QuoteQuotes': WHATEVER THE INPUT: true; the input reads as it did. -/
def quoteQuotesSpec : ChangeSpec := { name := "quoteQuotes", fn := fun _ => fun
  | [d] => { results := [.lit (.bool true)], args := [d] }
  | _ => none }
def quoteQuotesRow : OpenClaim := { program := "ytbhhakobkpdadaa", sum := "af02524a96266cd1030a42a84affa7a19750c46c56c4cd4f42d1beaaf36d83ef", func := "driftnet/driftnetlaw04.QuoteQuotes", spec := "quoteQuotes", inPlace := ["internal/bytealg.IndexByteString", "internal/bytealg.IndexString", "internal/abi.NoEscape"], unfollowed := true, recurses := true, named := ["internal/bytealg.MaxLen"], apart := false }
def QuoteQuotesSaid : Prop := quoteQuotesRow.holds Try.pinned (OpenSpec.ofChange quoteQuotesSpec)

/-- ITS FALSE NEIGHBOUR: 'it returns false'. Refute it at one input. -/
def quoteQuotesWrong : ChangeSpec := { name := "quoteQuotes", fn := fun _ => fun
  | [d] => { results := [.lit (.bool false)], args := [d] }
  | _ => none }
def QuoteQuotesWrongFalsely : Prop := quoteQuotesRow.holds Try.pinned (OpenSpec.ofChange quoteQuotesWrong)

/-- 'driftnetlaw04.QuoteBack': WHATEVER THE INPUT: true; the input reads as it did. -/
def quoteBackSpec : ChangeSpec := { name := "quoteBack", fn := fun _ => fun
  | [d] => { results := [.lit (.bool true)], args := [d] }
  | _ => none }
def quoteBackRow : OpenClaim := { program := "ytbhhakobkpdadaa", sum := "af02524a96266cd1030a42a84affa7a19750c46c56c4cd4f42d1beaaf36d83ef", func := "driftnet/driftnetlaw04.QuoteBack", spec := "quoteBack", inPlace := ["internal/abi.NoEscape", "internal/bytealg.IndexByteString", "internal/bytealg.IndexString"], unfollowed := true, recurses := true, named := ["internal/bytealg.MaxLen"], apart := false }
def QuoteBackSaid : Prop := quoteBackRow.holds Try.pinned (OpenSpec.ofChange quoteBackSpec)

/-- ITS FALSE NEIGHBOUR: 'it returns false'. Refute it at one input. -/
def quoteBackWrong : ChangeSpec := { name := "quoteBack", fn := fun _ => fun
  | [d] => { results := [.lit (.bool false)], args := [d] }
  | _ => none }
def QuoteBackWrongFalsely : Prop := quoteBackRow.holds Try.pinned (OpenSpec.ofChange quoteBackWrong)

/-- 'driftnetlaw04.QuoteWhole': WHATEVER THE INPUT: true; the input reads as it did. -/
def quoteWholeSpec : ChangeSpec := { name := "quoteWhole", fn := fun _ => fun
  | [d1, d2] => { results := [.lit (.bool true)], args := [d1, d2] }
  | _ => none }
def quoteWholeRow : OpenClaim := { program := "ytbhhakobkpdadaa", sum := "af02524a96266cd1030a42a84affa7a19750c46c56c4cd4f42d1beaaf36d83ef", func := "driftnet/driftnetlaw04.QuoteWhole", spec := "quoteWhole", inPlace := ["internal/abi.NoEscape", "internal/bytealg.IndexByteString", "internal/bytealg.IndexString"], unfollowed := true, recurses := true, named := ["internal/bytealg.MaxLen"], apart := false }
def QuoteWholeSaid : Prop := quoteWholeRow.holds Try.pinned (OpenSpec.ofChange quoteWholeSpec)

/-- ITS FALSE NEIGHBOUR: 'it returns false'. Refute it at one input. -/
def quoteWholeWrong : ChangeSpec := { name := "quoteWhole", fn := fun _ => fun
  | [d1, d2] => { results := [.lit (.bool false)], args := [d1, d2] }
  | _ => none }
def QuoteWholeWrongFalsely : Prop := quoteWholeRow.holds Try.pinned (OpenSpec.ofChange quoteWholeWrong)

/-- 'driftnetlaw04.QuoteTwo': WHATEVER THE INPUT: true; the input reads as it did. -/
def quoteTwoSpec : ChangeSpec := { name := "quoteTwo", fn := fun _ => fun
  | [d1, d2] => { results := [.lit (.bool true)], args := [d1, d2] }
  | _ => none }
def quoteTwoRow : OpenClaim := { program := "ytbhhakobkpdadaa", sum := "af02524a96266cd1030a42a84affa7a19750c46c56c4cd4f42d1beaaf36d83ef", func := "driftnet/driftnetlaw04.QuoteTwo", spec := "quoteTwo", inPlace := ["internal/abi.NoEscape", "internal/bytealg.IndexByteString", "internal/bytealg.IndexString"], unfollowed := true, recurses := true, named := ["internal/bytealg.MaxLen"], apart := false }
def QuoteTwoSaid : Prop := quoteTwoRow.holds Try.pinned (OpenSpec.ofChange quoteTwoSpec)

/-- ITS FALSE NEIGHBOUR: 'it returns false'. Refute it at one input. -/
def quoteTwoWrong : ChangeSpec := { name := "quoteTwo", fn := fun _ => fun
  | [d1, d2] => { results := [.lit (.bool false)], args := [d1, d2] }
  | _ => none }
def QuoteTwoWrongFalsely : Prop := quoteTwoRow.holds Try.pinned (OpenSpec.ofChange quoteTwoWrong)

/-- 'driftnetlaw04.QuoteNames': WHATEVER THE INPUT: true; the input reads as it did. -/
def quoteNamesSpec : ChangeSpec := { name := "quoteNames", fn := fun _ => fun
  | [d] => { results := [.lit (.bool true)], args := [d] }
  | _ => none }
def quoteNamesRow : OpenClaim := { program := "ytbhhakobkpdadaa", sum := "af02524a96266cd1030a42a84affa7a19750c46c56c4cd4f42d1beaaf36d83ef", func := "driftnet/driftnetlaw04.QuoteNames", spec := "quoteNames", inPlace := ["internal/abi.NoEscape", "internal/bytealg.IndexByteString", "internal/bytealg.IndexString"], unfollowed := true, recurses := true, named := ["internal/bytealg.MaxLen"], apart := false }
def QuoteNamesSaid : Prop := quoteNamesRow.holds Try.pinned (OpenSpec.ofChange quoteNamesSpec)

/-- ITS FALSE NEIGHBOUR: 'it returns false'. Refute it at one input. -/
def quoteNamesWrong : ChangeSpec := { name := "quoteNames", fn := fun _ => fun
  | [d] => { results := [.lit (.bool false)], args := [d] }
  | _ => none }
def QuoteNamesWrongFalsely : Prop := quoteNamesRow.holds Try.pinned (OpenSpec.ofChange quoteNamesWrong)

/-- 'driftnetlaw04.QuoteKnown': WHATEVER THE INPUT: true; the input reads as it did. -/
def quoteKnownSpec : ChangeSpec := { name := "quoteKnown", fn := fun _ => fun
  | [] => { results := [.lit (.bool true)], args := [] }
  | _ => none }
def quoteKnownRow : OpenClaim := { program := "ytbhhakobkpdadaa", sum := "af02524a96266cd1030a42a84affa7a19750c46c56c4cd4f42d1beaaf36d83ef", func := "driftnet/driftnetlaw04.QuoteKnown", spec := "quoteKnown", inPlace := ["internal/bytealg.IndexByteString", "internal/bytealg.IndexString", "internal/abi.NoEscape"], unfollowed := true, recurses := true, named := ["internal/bytealg.MaxLen"], apart := false }
def QuoteKnownSaid : Prop := quoteKnownRow.holds Try.pinned (OpenSpec.ofChange quoteKnownSpec)

/-- ITS FALSE NEIGHBOUR: 'it returns false'. Refute it at one input. -/
def quoteKnownWrong : ChangeSpec := { name := "quoteKnown", fn := fun _ => fun
  | [] => { results := [.lit (.bool false)], args := [] }
  | _ => none }
def QuoteKnownWrongFalsely : Prop := quoteKnownRow.holds Try.pinned (OpenSpec.ofChange quoteKnownWrong)

/- THE SECOND FORM. 'bulk': how many values and letters a reading holds, each counted each time it is reached (what is shared counts as often as it is met; a slice's spare places count too). A statement '..UptoSaid' is the law's where the arguments, and the package variables that the reading takes, are together of bulk at most 1048576: NARROWER than '..Said'. Prove '..Said' where nothing that the law and all that it calls make is longer than what came in: it says more and counts as full. Else prove '..UptoSaid'. A law counts once. -/
mutual
def uptoBulk {H : Type} : DataW H → Nat
  | .lit (.string bytes) => bytes.length + 1
  | .lit _ => 1
  | .nil => 1
  | .ptr d => uptoBulk d + 1
  | .slice elems spare => uptoBulkAll elems + uptoBulkAll spare + 1
  | .agg parts => uptoBulkAll parts + 1
  | .iface _ d => uptoBulk d + 1
  | .map entries => uptoBulkEntries entries + 1
  | .held _ => 1
def uptoBulkAll {H : Type} : List (DataW H) → Nat
  | [] => 0
  | d :: r => uptoBulk d + uptoBulkAll r
def uptoBulkEntries {H : Type} : List (Lit × DataW H) → Nat
  | [] => 0
  | x :: r => uptoBulkEntry x + uptoBulkEntries r
def uptoBulkEntry {H : Type} : Lit × DataW H → Nat
  | (.string bytes, d) => bytes.length + uptoBulk d + 1
  | (_, d) => uptoBulk d + 1
 end
def uptoSmall : (H : Type) → List (DataW H) → Bool := fun _ ds => decide (uptoBulkAll ds ≤ 1048576)
def OpenSpec.upto (s : _root_.Go.ChangeSpec) : _root_.Go.OpenSpec := { _root_.Go.OpenSpec.ofChange s with cond := some uptoSmall }

/-- 'driftnetlaw04.QuoteRunes', WHERE WHAT IT READS IS OF BULK AT MOST 1048576: true; the input reads as it did. -/
def quoteRunesUptoRow : OpenClaim := { program := "ytbhhakobkpdadaa", sum := "af02524a96266cd1030a42a84affa7a19750c46c56c4cd4f42d1beaaf36d83ef", func := "driftnet/driftnetlaw04.QuoteRunes", spec := "quoteRunes", inPlace := ["internal/abi.NoEscape", "internal/bytealg.IndexByteString", "internal/bytealg.IndexString"], unfollowed := true, recurses := true, named := ["internal/bytealg.MaxLen"], apart := false, narrowed := true }
def QuoteRunesUptoSaid : Prop := quoteRunesUptoRow.holds Try.pinned (OpenSpec.upto quoteRunesSpec)

/-- 'driftnetlaw04.QuoteQuotes', WHERE WHAT IT READS IS OF BULK AT MOST 1048576: true; the input reads as it did. -/
def quoteQuotesUptoRow : OpenClaim := { program := "ytbhhakobkpdadaa", sum := "af02524a96266cd1030a42a84affa7a19750c46c56c4cd4f42d1beaaf36d83ef", func := "driftnet/driftnetlaw04.QuoteQuotes", spec := "quoteQuotes", inPlace := ["internal/bytealg.IndexByteString", "internal/bytealg.IndexString", "internal/abi.NoEscape"], unfollowed := true, recurses := true, named := ["internal/bytealg.MaxLen"], apart := false, narrowed := true }
def QuoteQuotesUptoSaid : Prop := quoteQuotesUptoRow.holds Try.pinned (OpenSpec.upto quoteQuotesSpec)

/-- 'driftnetlaw04.QuoteBack', WHERE WHAT IT READS IS OF BULK AT MOST 1048576: true; the input reads as it did. -/
def quoteBackUptoRow : OpenClaim := { program := "ytbhhakobkpdadaa", sum := "af02524a96266cd1030a42a84affa7a19750c46c56c4cd4f42d1beaaf36d83ef", func := "driftnet/driftnetlaw04.QuoteBack", spec := "quoteBack", inPlace := ["internal/abi.NoEscape", "internal/bytealg.IndexByteString", "internal/bytealg.IndexString"], unfollowed := true, recurses := true, named := ["internal/bytealg.MaxLen"], apart := false, narrowed := true }
def QuoteBackUptoSaid : Prop := quoteBackUptoRow.holds Try.pinned (OpenSpec.upto quoteBackSpec)

/-- 'driftnetlaw04.QuoteWhole', WHERE WHAT IT READS IS OF BULK AT MOST 1048576: true; the input reads as it did. -/
def quoteWholeUptoRow : OpenClaim := { program := "ytbhhakobkpdadaa", sum := "af02524a96266cd1030a42a84affa7a19750c46c56c4cd4f42d1beaaf36d83ef", func := "driftnet/driftnetlaw04.QuoteWhole", spec := "quoteWhole", inPlace := ["internal/abi.NoEscape", "internal/bytealg.IndexByteString", "internal/bytealg.IndexString"], unfollowed := true, recurses := true, named := ["internal/bytealg.MaxLen"], apart := false, narrowed := true }
def QuoteWholeUptoSaid : Prop := quoteWholeUptoRow.holds Try.pinned (OpenSpec.upto quoteWholeSpec)

/-- 'driftnetlaw04.QuoteTwo', WHERE WHAT IT READS IS OF BULK AT MOST 1048576: true; the input reads as it did. -/
def quoteTwoUptoRow : OpenClaim := { program := "ytbhhakobkpdadaa", sum := "af02524a96266cd1030a42a84affa7a19750c46c56c4cd4f42d1beaaf36d83ef", func := "driftnet/driftnetlaw04.QuoteTwo", spec := "quoteTwo", inPlace := ["internal/abi.NoEscape", "internal/bytealg.IndexByteString", "internal/bytealg.IndexString"], unfollowed := true, recurses := true, named := ["internal/bytealg.MaxLen"], apart := false, narrowed := true }
def QuoteTwoUptoSaid : Prop := quoteTwoUptoRow.holds Try.pinned (OpenSpec.upto quoteTwoSpec)

/-- 'driftnetlaw04.QuoteNames', WHERE WHAT IT READS IS OF BULK AT MOST 1048576: true; the input reads as it did. -/
def quoteNamesUptoRow : OpenClaim := { program := "ytbhhakobkpdadaa", sum := "af02524a96266cd1030a42a84affa7a19750c46c56c4cd4f42d1beaaf36d83ef", func := "driftnet/driftnetlaw04.QuoteNames", spec := "quoteNames", inPlace := ["internal/abi.NoEscape", "internal/bytealg.IndexByteString", "internal/bytealg.IndexString"], unfollowed := true, recurses := true, named := ["internal/bytealg.MaxLen"], apart := false, narrowed := true }
def QuoteNamesUptoSaid : Prop := quoteNamesUptoRow.holds Try.pinned (OpenSpec.upto quoteNamesSpec)

/-- 'driftnetlaw04.QuoteKnown', WHERE WHAT IT READS IS OF BULK AT MOST 1048576: true; the input reads as it did. -/
def quoteKnownUptoRow : OpenClaim := { program := "ytbhhakobkpdadaa", sum := "af02524a96266cd1030a42a84affa7a19750c46c56c4cd4f42d1beaaf36d83ef", func := "driftnet/driftnetlaw04.QuoteKnown", spec := "quoteKnown", inPlace := ["internal/bytealg.IndexByteString", "internal/bytealg.IndexString", "internal/abi.NoEscape"], unfollowed := true, recurses := true, named := ["internal/bytealg.MaxLen"], apart := false, narrowed := true }
def QuoteKnownUptoSaid : Prop := quoteKnownUptoRow.holds Try.pinned (OpenSpec.upto quoteKnownSpec)

end Rows
end Go.Proofs.Ytbhhakobkpdadaa
