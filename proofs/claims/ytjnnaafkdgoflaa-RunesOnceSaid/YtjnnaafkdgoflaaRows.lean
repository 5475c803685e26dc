/-
  No cell of these rows narrows 'for every input' (looked for: loops, veiled, ifaces, maps, wideKeys, modest, calm, conditions, laid).
  DERIVED. THE GIVEN ROWS OF THIS SEAT. 6 by the template 'for every input the law returns true; each argument reads behind the call as it read before'; 0 by the template 'total and deterministic' (their statements: YtjnnaafkdgoflaaTotals.lean).
  GIVEN WITH THE SEED: the statements are not yours to turn. If you find one false, say at which input.
  Laid BY PROGRAM, IN A SANDBOX (cutbox-rows.mjs): the forced cells as the released guide's own fill.sh prints them over the translation 62f3f783156daccf… (all of the seat's roots in one cut). By AI agents, Wed Nov 11 2026. No macro, syntax, notation, axiom, sorry.
-/
import Derived.Test.YtjnnaafkdgoflaaChecked
import GoSem.Claim
import GoSem.ClaimJoined
import GoSem.ClaimMapViews
import Derived.JoinedTies
import Derived.KernelRfl
namespace Go.Proofs.Ytjnnaafkdgoflaa
/- THE CELL 'sum', in the pinned program and in every row, IS THE sha256 OF THE DUMP (.gsa) THAT YtjnnaafkdgoflaaProg.lean LOADS. Nothing in Lean hashes anything: it is a label: what it is worth is what the hold of that sum in a sandbox is worth. -/
noncomputable def Try.pinned : Pinned := { name := "ytjnnaafkdgoflaa", sum := "62f3f783156daccfadb19ab4524569807ac76ecfac1a1366e9167fdf47bb29a4", checked := Try.checked }
namespace Rows
def none {H : Type} : Left H := { results := [], args := [] }

/-- 'driftnetlaw09.RunesSets': WHATEVER THE INPUT: true; the input reads as it did. -/
def runesSetsSpec : ChangeSpec := { name := "runesSets", fn := fun _ => fun
  | [d1, d2] => { results := [.lit (.bool true)], args := [d1, d2] }
  | _ => none }
def runesSetsRow : OpenClaim := { program := "ytjnnaafkdgoflaa", sum := "62f3f783156daccfadb19ab4524569807ac76ecfac1a1366e9167fdf47bb29a4", func := "driftnet/driftnetlaw09.RunesSets", spec := "runesSets", unfollowed := true, recurses := true, apart := false }
def RunesSetsSaid : Prop := runesSetsRow.holds Try.pinned (OpenSpec.ofChange runesSetsSpec)

/-- ITS FALSE NEIGHBOUR: 'it returns false'. Refute it at one input. -/
def runesSetsWrong : ChangeSpec := { name := "runesSets", fn := fun _ => fun
  | [d1, d2] => { results := [.lit (.bool false)], args := [d1, d2] }
  | _ => none }
def RunesSetsWrongFalsely : Prop := runesSetsRow.holds Try.pinned (OpenSpec.ofChange runesSetsWrong)

/-- 'driftnetlaw09.RunesTwo': WHATEVER THE INPUT: true; the input reads as it did. -/
def runesTwoSpec : ChangeSpec := { name := "runesTwo", fn := fun _ => fun
  | [d1, d2] => { results := [.lit (.bool true)], args := [d1, d2] }
  | _ => none }
def runesTwoRow : OpenClaim := { program := "ytjnnaafkdgoflaa", sum := "62f3f783156daccfadb19ab4524569807ac76ecfac1a1366e9167fdf47bb29a4", func := "driftnet/driftnetlaw09.RunesTwo", spec := "runesTwo", unfollowed := true, recurses := true, apart := false }
def RunesTwoSaid : Prop := runesTwoRow.holds Try.pinned (OpenSpec.ofChange runesTwoSpec)

/-- ITS FALSE NEIGHBOUR: 'it returns false'. Refute it at one input. -/
def runesTwoWrong : ChangeSpec := { name := "runesTwo", fn := fun _ => fun
  | [d1, d2] => { results := [.lit (.bool false)], args := [d1, d2] }
  | _ => none }
def RunesTwoWrongFalsely : Prop := runesTwoRow.holds Try.pinned (OpenSpec.ofChange runesTwoWrong)

/-- 'driftnetlaw09.RunesHas': WHATEVER THE INPUT: true; the input reads as it did. -/
def runesHasSpec : ChangeSpec := { name := "runesHas", fn := fun _ => fun
  | [d1, d2, d3] => { results := [.lit (.bool true)], args := [d1, d2, d3] }
  | _ => none }
def runesHasRow : OpenClaim := { program := "ytjnnaafkdgoflaa", sum := "62f3f783156daccfadb19ab4524569807ac76ecfac1a1366e9167fdf47bb29a4", func := "driftnet/driftnetlaw09.RunesHas", spec := "runesHas", unfollowed := true, recurses := true, apart := false }
def RunesHasSaid : Prop := runesHasRow.holds Try.pinned (OpenSpec.ofChange runesHasSpec)

/-- ITS FALSE NEIGHBOUR: 'it returns false'. Refute it at one input. -/
def runesHasWrong : ChangeSpec := { name := "runesHas", fn := fun _ => fun
  | [d1, d2, d3] => { results := [.lit (.bool false)], args := [d1, d2, d3] }
  | _ => none }
def RunesHasWrongFalsely : Prop := runesHasRow.holds Try.pinned (OpenSpec.ofChange runesHasWrong)

/-- 'driftnetlaw09.RunesOnce': WHATEVER THE INPUT: true; the input reads as it did. -/
def runesOnceSpec : ChangeSpec := { name := "runesOnce", fn := fun _ => fun
  | [d1, d2] => { results := [.lit (.bool true)], args := [d1, d2] }
  | _ => none }
def runesOnceRow : OpenClaim := { program := "ytjnnaafkdgoflaa", sum := "62f3f783156daccfadb19ab4524569807ac76ecfac1a1366e9167fdf47bb29a4", func := "driftnet/driftnetlaw09.RunesOnce", spec := "runesOnce", unfollowed := true, recurses := true, apart := false }
def RunesOnceSaid : Prop := runesOnceRow.holds Try.pinned (OpenSpec.ofChange runesOnceSpec)

/-- ITS FALSE NEIGHBOUR: 'it returns false'. Refute it at one input. -/
def runesOnceWrong : ChangeSpec := { name := "runesOnce", fn := fun _ => fun
  | [d1, d2] => { results := [.lit (.bool false)], args := [d1, d2] }
  | _ => none }
def RunesOnceWrongFalsely : Prop := runesOnceRow.holds Try.pinned (OpenSpec.ofChange runesOnceWrong)

/-- 'driftnetlaw09.RunesCount': WHATEVER THE INPUT: true; the input reads as it did. -/
def runesCountSpec : ChangeSpec := { name := "runesCount", fn := fun _ => fun
  | [d1, d2] => { results := [.lit (.bool true)], args := [d1, d2] }
  | _ => none }
def runesCountRow : OpenClaim := { program := "ytjnnaafkdgoflaa", sum := "62f3f783156daccfadb19ab4524569807ac76ecfac1a1366e9167fdf47bb29a4", func := "driftnet/driftnetlaw09.RunesCount", spec := "runesCount", unfollowed := true, recurses := true, apart := false }
def RunesCountSaid : Prop := runesCountRow.holds Try.pinned (OpenSpec.ofChange runesCountSpec)

/-- ITS FALSE NEIGHBOUR: 'it returns false'. Refute it at one input. -/
def runesCountWrong : ChangeSpec := { name := "runesCount", fn := fun _ => fun
  | [d1, d2] => { results := [.lit (.bool false)], args := [d1, d2] }
  | _ => none }
def RunesCountWrongFalsely : Prop := runesCountRow.holds Try.pinned (OpenSpec.ofChange runesCountWrong)

/-- 'driftnetlaw09.RunesKnown': WHATEVER THE INPUT: true; the input reads as it did. -/
def runesKnownSpec : ChangeSpec := { name := "runesKnown", fn := fun _ => fun
  | [] => { results := [.lit (.bool true)], args := [] }
  | _ => none }
def runesKnownRow : OpenClaim := { program := "ytjnnaafkdgoflaa", sum := "62f3f783156daccfadb19ab4524569807ac76ecfac1a1366e9167fdf47bb29a4", func := "driftnet/driftnetlaw09.RunesKnown", spec := "runesKnown", unfollowed := true, recurses := true, apart := false }
def RunesKnownSaid : Prop := runesKnownRow.holds Try.pinned (OpenSpec.ofChange runesKnownSpec)

/-- ITS FALSE NEIGHBOUR: 'it returns false'. Refute it at one input. -/
def runesKnownWrong : ChangeSpec := { name := "runesKnown", fn := fun _ => fun
  | [] => { results := [.lit (.bool false)], args := [] }
  | _ => none }
def RunesKnownWrongFalsely : Prop := runesKnownRow.holds Try.pinned (OpenSpec.ofChange runesKnownWrong)

/- THE SECOND FORM. 'bulk': how many values and letters a reading holds, each counted each time it is reached (what is shared counts as often as it is met; a slice's spare places count too). A statement '..UptoSaid' is the law's where the arguments, and the package variables that the reading takes, are together of bulk at most 1048576: NARROWER than '..Said'. Prove '..Said' where nothing that the law and all that it calls make is longer than what came in: it says more and counts as full. Else prove '..UptoSaid'. A law counts once. -/
mutual
def uptoBulk {H : Type} : DataW H → Nat
  | .lit (.string bytes) => bytes.length + 1
  | .lit _ => 1
  | .nil => 1
  | .ptr d => uptoBulk d + 1
  | .slice elems spare => uptoBulkAll elems + uptoBulkAll spare + 1
  | .agg parts => uptoBulkAll parts + 1
  | .iface _ d => uptoBulk d + 1
  | .map entries => uptoBulkEntries entries + 1
  | .held _ => 1
def uptoBulkAll {H : Type} : List (DataW H) → Nat
  | [] => 0
  | d :: r => uptoBulk d + uptoBulkAll r
def uptoBulkEntries {H : Type} : List (Lit × DataW H) → Nat
  | [] => 0
  | x :: r => uptoBulkEntry x + uptoBulkEntries r
def uptoBulkEntry {H : Type} : Lit × DataW H → Nat
  | (.string bytes, d) => bytes.length + uptoBulk d + 1
  | (_, d) => uptoBulk d + 1
 end
def uptoSmall : (H : Type) → List (DataW H) → Bool := fun _ ds => decide (uptoBulkAll ds ≤ 1048576)
def OpenSpec.upto (s : _root_.Go.ChangeSpec) : _root_.Go.OpenSpec := { _root_.Go.OpenSpec.ofChange s with cond := some uptoSmall }

/-- 'driftnetlaw09.RunesSets', WHERE WHAT IT READS IS OF BULK AT MOST 1048576: true; the input reads as it did. -/
def runesSetsUptoRow : OpenClaim := { program := "ytjnnaafkdgoflaa", sum := "62f3f783156daccfadb19ab4524569807ac76ecfac1a1366e9167fdf47bb29a4", func := "driftnet/driftnetlaw09.RunesSets", spec := "runesSets", unfollowed := true, recurses := true, apart := false, narrowed := true }
def RunesSetsUptoSaid : Prop := runesSetsUptoRow.holds Try.pinned (OpenSpec.upto runesSetsSpec)

/-- 'driftnetlaw09.RunesTwo', WHERE WHAT IT READS IS OF BULK AT MOST 1048576: true; the input reads as it did. -/
def runesTwoUptoRow : OpenClaim := { program := "ytjnnaafkdgoflaa", sum := "62f3f783156daccfadb19ab4524569807ac76ecfac1a1366e9167fdf47bb29a4", func := "driftnet/driftnetlaw09.RunesTwo", spec := "runesTwo", unfollowed := true, recurses := true, apart := false, narrowed := true }
def RunesTwoUptoSaid : Prop := runesTwoUptoRow.holds Try.pinned (OpenSpec.upto runesTwoSpec)

/-- 'driftnetlaw09.RunesHas', WHERE WHAT IT READS IS OF BULK AT MOST 1048576: true; the input reads as it did. -/
def runesHasUptoRow : OpenClaim := { program := "ytjnnaafkdgoflaa", sum := "62f3f783156daccfadb19ab4524569807ac76ecfac1a1366e9167fdf47bb29a4", func := "driftnet/driftnetlaw09.RunesHas", spec := "runesHas", unfollowed := true, recurses := true, apart := false, narrowed := true }
def RunesHasUptoSaid : Prop := runesHasUptoRow.holds Try.pinned (OpenSpec.upto runesHasSpec)

/-- 'driftnetlaw09.RunesOnce', WHERE WHAT IT READS IS OF BULK AT MOST 1048576: true; the input reads as it did. -/
def runesOnceUptoRow : OpenClaim := { program := "ytjnnaafkdgoflaa", sum := "62f3f783156daccfadb19ab4524569807ac76ecfac1a1366e9167fdf47bb29a4", func := "driftnet/driftnetlaw09.RunesOnce", spec := "runesOnce", unfollowed := true, recurses := true, apart := false, narrowed := true }
def RunesOnceUptoSaid : Prop := runesOnceUptoRow.holds Try.pinned (OpenSpec.upto runesOnceSpec)

/-- 'driftnetlaw09.RunesCount', WHERE WHAT IT READS IS OF BULK AT MOST 1048576: true; the input reads as it did. -/
def runesCountUptoRow : OpenClaim := { program := "ytjnnaafkdgoflaa", sum := "62f3f783156daccfadb19ab4524569807ac76ecfac1a1366e9167fdf47bb29a4", func := "driftnet/driftnetlaw09.RunesCount", spec := "runesCount", unfollowed := true, recurses := true, apart := false, narrowed := true }
def RunesCountUptoSaid : Prop := runesCountUptoRow.holds Try.pinned (OpenSpec.upto runesCountSpec)

/-- 'driftnetlaw09.RunesKnown', WHERE WHAT IT READS IS OF BULK AT MOST 1048576: true; the input reads as it did. -/
def runesKnownUptoRow : OpenClaim := { program := "ytjnnaafkdgoflaa", sum := "62f3f783156daccfadb19ab4524569807ac76ecfac1a1366e9167fdf47bb29a4", func := "driftnet/driftnetlaw09.RunesKnown", spec := "runesKnown", unfollowed := true, recurses := true, apart := false, narrowed := true }
def RunesKnownUptoSaid : Prop := runesKnownUptoRow.holds Try.pinned (OpenSpec.upto runesKnownSpec)

end Rows
end Go.Proofs.Ytjnnaafkdgoflaa
