/-
  No cell of these rows narrows 'for every input' (looked for: loops, veiled, ifaces, maps, wideKeys, modest, calm, conditions, laid).
  DERIVED. THE GIVEN ROWS OF THIS SEAT. 8 by the template 'for every input the law returns true; each argument reads behind the call as it read before'; 0 by the template 'total and deterministic' (their statements: YtdlblpmjghjhlaaTotals.lean).
  GIVEN WITH THE SEED: the statements are not yours to turn. If you find one false, say at which input.
  Laid BY PROGRAM, IN A SANDBOX (cutbox-rows.mjs): the forced cells as the released guide's own fill.sh prints them over the translation 64e9f6e580295ecc… (all of the seat's roots in one cut). By AI agents, Wed Nov 11 2026. No macro, syntax, notation, axiom, sorry.
-/
import Derived.Test.YtdlblpmjghjhlaaChecked
import GoSem.Claim
import GoSem.ClaimJoined
import GoSem.ClaimMapViews
import Derived.JoinedTies
import Derived.KernelRfl
namespace Go.Proofs.Ytdlblpmjghjhlaa
/- THE CELL 'sum', in the pinned program and in every row, IS THE sha256 OF THE DUMP (.gsa) THAT YtdlblpmjghjhlaaProg.lean LOADS. Nothing in Lean hashes anything: it is a label: what it is worth is what the hold of that sum in a sandbox is worth. -/
noncomputable def Try.pinned : Pinned := { name := "ytdlblpmjghjhlaa", sum := "64e9f6e580295ecc2065bf5387a3e78f55237ceccf8a1cbd8394b01402752e1b", checked := Try.checked }
namespace Rows
def none {H : Type} : Left H := { results := [], args := [] }

/-- 'gypsumlaw02.NumPuts': WHATEVER THE INPUT: true; the input reads as it did. -/
def numPutsSpec : ChangeSpec := { name := "numPuts", fn := fun _ => fun
  | [d] => { results := [.lit (.bool true)], args := [d] }
  | _ => none }
def numPutsRow : OpenClaim := { program := "ytdlblpmjghjhlaa", sum := "64e9f6e580295ecc2065bf5387a3e78f55237ceccf8a1cbd8394b01402752e1b", func := "gypsum/gypsumlaw02.NumPuts", spec := "numPuts", apart := false }
def NumPutsSaid : Prop := numPutsRow.holds Try.pinned (OpenSpec.ofChange numPutsSpec)

/-- ITS FALSE NEIGHBOUR: 'it returns false'. Refute it at one input. -/
def numPutsWrong : ChangeSpec := { name := "numPuts", fn := fun _ => fun
  | [d] => { results := [.lit (.bool false)], args := [d] }
  | _ => none }
def NumPutsWrongFalsely : Prop := numPutsRow.holds Try.pinned (OpenSpec.ofChange numPutsWrong)

/-- 'gypsumlaw02.NumGets': WHATEVER THE INPUT: true; the input reads as it did. -/
def numGetsSpec : ChangeSpec := { name := "numGets", fn := fun _ => fun
  | [d1, d2] => { results := [.lit (.bool true)], args := [d1, d2] }
  | _ => none }
def numGetsRow : OpenClaim := { program := "ytdlblpmjghjhlaa", sum := "64e9f6e580295ecc2065bf5387a3e78f55237ceccf8a1cbd8394b01402752e1b", func := "gypsum/gypsumlaw02.NumGets", spec := "numGets", apart := false }
def NumGetsSaid : Prop := numGetsRow.holds Try.pinned (OpenSpec.ofChange numGetsSpec)

/-- ITS FALSE NEIGHBOUR: 'it returns false'. Refute it at one input. -/
def numGetsWrong : ChangeSpec := { name := "numGets", fn := fun _ => fun
  | [d1, d2] => { results := [.lit (.bool false)], args := [d1, d2] }
  | _ => none }
def NumGetsWrongFalsely : Prop := numGetsRow.holds Try.pinned (OpenSpec.ofChange numGetsWrong)

/-- 'gypsumlaw02.NumFixed': WHATEVER THE INPUT: true; the input reads as it did. -/
def numFixedSpec : ChangeSpec := { name := "numFixed", fn := fun _ => fun
  | [d1, d2] => { results := [.lit (.bool true)], args := [d1, d2] }
  | _ => none }
def numFixedRow : OpenClaim := { program := "ytdlblpmjghjhlaa", sum := "64e9f6e580295ecc2065bf5387a3e78f55237ceccf8a1cbd8394b01402752e1b", func := "gypsum/gypsumlaw02.NumFixed", spec := "numFixed", apart := false }
def NumFixedSaid : Prop := numFixedRow.holds Try.pinned (OpenSpec.ofChange numFixedSpec)

/-- ITS FALSE NEIGHBOUR: 'it returns false'. Refute it at one input. -/
def numFixedWrong : ChangeSpec := { name := "numFixed", fn := fun _ => fun
  | [d1, d2] => { results := [.lit (.bool false)], args := [d1, d2] }
  | _ => none }
def NumFixedWrongFalsely : Prop := numFixedRow.holds Try.pinned (OpenSpec.ofChange numFixedWrong)

/-- 'gypsumlaw02.NumUnfixed': WHATEVER THE INPUT: true; the input reads as it did. -/
def numUnfixedSpec : ChangeSpec := { name := "numUnfixed", fn := fun _ => fun
  | [d1, d2, d3] => { results := [.lit (.bool true)], args := [d1, d2, d3] }
  | _ => none }
def numUnfixedRow : OpenClaim := { program := "ytdlblpmjghjhlaa", sum := "64e9f6e580295ecc2065bf5387a3e78f55237ceccf8a1cbd8394b01402752e1b", func := "gypsum/gypsumlaw02.NumUnfixed", spec := "numUnfixed", apart := false }
def NumUnfixedSaid : Prop := numUnfixedRow.holds Try.pinned (OpenSpec.ofChange numUnfixedSpec)

/-- ITS FALSE NEIGHBOUR: 'it returns false'. Refute it at one input. -/
def numUnfixedWrong : ChangeSpec := { name := "numUnfixed", fn := fun _ => fun
  | [d1, d2, d3] => { results := [.lit (.bool false)], args := [d1, d2, d3] }
  | _ => none }
def NumUnfixedWrongFalsely : Prop := numUnfixedRow.holds Try.pinned (OpenSpec.ofChange numUnfixedWrong)

/-- 'gypsumlaw02.NumRows': WHATEVER THE INPUT: true; the input reads as it did. -/
def numRowsSpec : ChangeSpec := { name := "numRows", fn := fun _ => fun
  | [d1, d2] => { results := [.lit (.bool true)], args := [d1, d2] }
  | _ => none }
def numRowsRow : OpenClaim := { program := "ytdlblpmjghjhlaa", sum := "64e9f6e580295ecc2065bf5387a3e78f55237ceccf8a1cbd8394b01402752e1b", func := "gypsum/gypsumlaw02.NumRows", spec := "numRows", apart := false }
def NumRowsSaid : Prop := numRowsRow.holds Try.pinned (OpenSpec.ofChange numRowsSpec)

/-- ITS FALSE NEIGHBOUR: 'it returns false'. Refute it at one input. -/
def numRowsWrong : ChangeSpec := { name := "numRows", fn := fun _ => fun
  | [d1, d2] => { results := [.lit (.bool false)], args := [d1, d2] }
  | _ => none }
def NumRowsWrongFalsely : Prop := numRowsRow.holds Try.pinned (OpenSpec.ofChange numRowsWrong)

/-- 'gypsumlaw02.NumPrefix': WHATEVER THE INPUT: true; the input reads as it did. -/
def numPrefixSpec : ChangeSpec := { name := "numPrefix", fn := fun _ => fun
  | [d1, d2] => { results := [.lit (.bool true)], args := [d1, d2] }
  | _ => none }
def numPrefixRow : OpenClaim := { program := "ytdlblpmjghjhlaa", sum := "64e9f6e580295ecc2065bf5387a3e78f55237ceccf8a1cbd8394b01402752e1b", func := "gypsum/gypsumlaw02.NumPrefix", spec := "numPrefix", apart := false }
def NumPrefixSaid : Prop := numPrefixRow.holds Try.pinned (OpenSpec.ofChange numPrefixSpec)

/-- ITS FALSE NEIGHBOUR: 'it returns false'. Refute it at one input. -/
def numPrefixWrong : ChangeSpec := { name := "numPrefix", fn := fun _ => fun
  | [d1, d2] => { results := [.lit (.bool false)], args := [d1, d2] }
  | _ => none }
def NumPrefixWrongFalsely : Prop := numPrefixRow.holds Try.pinned (OpenSpec.ofChange numPrefixWrong)

/-- 'gypsumlaw02.NumZigs': WHATEVER THE INPUT: true; the input reads as it did. -/
def numZigsSpec : ChangeSpec := { name := "numZigs", fn := fun _ => fun
  | [d1, d2] => { results := [.lit (.bool true)], args := [d1, d2] }
  | _ => none }
def numZigsRow : OpenClaim := { program := "ytdlblpmjghjhlaa", sum := "64e9f6e580295ecc2065bf5387a3e78f55237ceccf8a1cbd8394b01402752e1b", func := "gypsum/gypsumlaw02.NumZigs", spec := "numZigs", apart := false }
def NumZigsSaid : Prop := numZigsRow.holds Try.pinned (OpenSpec.ofChange numZigsSpec)

/-- ITS FALSE NEIGHBOUR: 'it returns false'. Refute it at one input. -/
def numZigsWrong : ChangeSpec := { name := "numZigs", fn := fun _ => fun
  | [d1, d2] => { results := [.lit (.bool false)], args := [d1, d2] }
  | _ => none }
def NumZigsWrongFalsely : Prop := numZigsRow.holds Try.pinned (OpenSpec.ofChange numZigsWrong)

/-- 'gypsumlaw02.NumNone': WHATEVER THE INPUT: true; the input reads as it did. -/
def numNoneSpec : ChangeSpec := { name := "numNone", fn := fun _ => fun
  | [d1, d2, d3] => { results := [.lit (.bool true)], args := [d1, d2, d3] }
  | _ => none }
def numNoneRow : OpenClaim := { program := "ytdlblpmjghjhlaa", sum := "64e9f6e580295ecc2065bf5387a3e78f55237ceccf8a1cbd8394b01402752e1b", func := "gypsum/gypsumlaw02.NumNone", spec := "numNone", apart := false }
def NumNoneSaid : Prop := numNoneRow.holds Try.pinned (OpenSpec.ofChange numNoneSpec)

/-- ITS FALSE NEIGHBOUR: 'it returns false'. Refute it at one input. -/
def numNoneWrong : ChangeSpec := { name := "numNone", fn := fun _ => fun
  | [d1, d2, d3] => { results := [.lit (.bool false)], args := [d1, d2, d3] }
  | _ => none }
def NumNoneWrongFalsely : Prop := numNoneRow.holds Try.pinned (OpenSpec.ofChange numNoneWrong)

/- THE SECOND FORM. 'bulk': how many values and letters a reading holds, each counted each time it is reached (what is shared counts as often as it is met; a slice's spare places count too). A statement '..UptoSaid' is the law's where the arguments, and the package variables that the reading takes, are together of bulk at most 1048576: NARROWER than '..Said'. Prove '..Said' where nothing that the law and all that it calls make is longer than what came in: it says more and counts as full. Else prove '..UptoSaid'. A law counts once. -/
mutual
def uptoBulk {H : Type} : DataW H → Nat
  | .lit (.string bytes) => bytes.length + 1
  | .lit _ => 1
  | .nil => 1
  | .ptr d => uptoBulk d + 1
  | .slice elems spare => uptoBulkAll elems + uptoBulkAll spare + 1
  | .agg parts => uptoBulkAll parts + 1
  | .iface _ d => uptoBulk d + 1
  | .map entries => uptoBulkEntries entries + 1
  | .held _ => 1
def uptoBulkAll {H : Type} : List (DataW H) → Nat
  | [] => 0
  | d :: r => uptoBulk d + uptoBulkAll r
def uptoBulkEntries {H : Type} : List (Lit × DataW H) → Nat
  | [] => 0
  | x :: r => uptoBulkEntry x + uptoBulkEntries r
def uptoBulkEntry {H : Type} : Lit × DataW H → Nat
  | (.string bytes, d) => bytes.length + uptoBulk d + 1
  | (_, d) => uptoBulk d + 1
 end
def uptoSmall : (H : Type) → List (DataW H) → Bool := fun _ ds => decide (uptoBulkAll ds ≤ 1048576)
def OpenSpec.upto (s : _root_.Go.ChangeSpec) : _root_.Go.OpenSpec := { _root_.Go.OpenSpec.ofChange s with cond := some uptoSmall }

/-- 'gypsumlaw02.NumPuts', WHERE WHAT IT READS IS OF BULK AT MOST 1048576: true; the input reads as it did. -/
def numPutsUptoRow : OpenClaim := { program := "ytdlblpmjghjhlaa", sum := "64e9f6e580295ecc2065bf5387a3e78f55237ceccf8a1cbd8394b01402752e1b", func := "gypsum/gypsumlaw02.NumPuts", spec := "numPuts", apart := false, narrowed := true }
def NumPutsUptoSaid : Prop := numPutsUptoRow.holds Try.pinned (OpenSpec.upto numPutsSpec)

/-- 'gypsumlaw02.NumGets', WHERE WHAT IT READS IS OF BULK AT MOST 1048576: true; the input reads as it did. -/
def numGetsUptoRow : OpenClaim := { program := "ytdlblpmjghjhlaa", sum := "64e9f6e580295ecc2065bf5387a3e78f55237ceccf8a1cbd8394b01402752e1b", func := "gypsum/gypsumlaw02.NumGets", spec := "numGets", apart := false, narrowed := true }
def NumGetsUptoSaid : Prop := numGetsUptoRow.holds Try.pinned (OpenSpec.upto numGetsSpec)

/-- 'gypsumlaw02.NumFixed', WHERE WHAT IT READS IS OF BULK AT MOST 1048576: true; the input reads as it did. -/
def numFixedUptoRow : OpenClaim := { program := "ytdlblpmjghjhlaa", sum := "64e9f6e580295ecc2065bf5387a3e78f55237ceccf8a1cbd8394b01402752e1b", func := "gypsum/gypsumlaw02.NumFixed", spec := "numFixed", apart := false, narrowed := true }
def NumFixedUptoSaid : Prop := numFixedUptoRow.holds Try.pinned (OpenSpec.upto numFixedSpec)

/-- 'gypsumlaw02.NumUnfixed', WHERE WHAT IT READS IS OF BULK AT MOST 1048576: true; the input reads as it did. -/
def numUnfixedUptoRow : OpenClaim := { program := "ytdlblpmjghjhlaa", sum := "64e9f6e580295ecc2065bf5387a3e78f55237ceccf8a1cbd8394b01402752e1b", func := "gypsum/gypsumlaw02.NumUnfixed", spec := "numUnfixed", apart := false, narrowed := true }
def NumUnfixedUptoSaid : Prop := numUnfixedUptoRow.holds Try.pinned (OpenSpec.upto numUnfixedSpec)

/-- 'gypsumlaw02.NumRows', WHERE WHAT IT READS IS OF BULK AT MOST 1048576: true; the input reads as it did. -/
def numRowsUptoRow : OpenClaim := { program := "ytdlblpmjghjhlaa", sum := "64e9f6e580295ecc2065bf5387a3e78f55237ceccf8a1cbd8394b01402752e1b", func := "gypsum/gypsumlaw02.NumRows", spec := "numRows", apart := false, narrowed := true }
def NumRowsUptoSaid : Prop := numRowsUptoRow.holds Try.pinned (OpenSpec.upto numRowsSpec)

/-- 'gypsumlaw02.NumPrefix', WHERE WHAT IT READS IS OF BULK AT MOST 1048576: true; the input reads as it did. -/
def numPrefixUptoRow : OpenClaim := { program := "ytdlblpmjghjhlaa", sum := "64e9f6e580295ecc2065bf5387a3e78f55237ceccf8a1cbd8394b01402752e1b", func := "gypsum/gypsumlaw02.NumPrefix", spec := "numPrefix", apart := false, narrowed := true }
def NumPrefixUptoSaid : Prop := numPrefixUptoRow.holds Try.pinned (OpenSpec.upto numPrefixSpec)

/-- 'gypsumlaw02.NumZigs', WHERE WHAT IT READS IS OF BULK AT MOST 1048576: true; the input reads as it did. -/
def numZigsUptoRow : OpenClaim := { program := "ytdlblpmjghjhlaa", sum := "64e9f6e580295ecc2065bf5387a3e78f55237ceccf8a1cbd8394b01402752e1b", func := "gypsum/gypsumlaw02.NumZigs", spec := "numZigs", apart := false, narrowed := true }
def NumZigsUptoSaid : Prop := numZigsUptoRow.holds Try.pinned (OpenSpec.upto numZigsSpec)

/-- 'gypsumlaw02.NumNone', WHERE WHAT IT READS IS OF BULK AT MOST 1048576: true; the input reads as it did. -/
def numNoneUptoRow : OpenClaim := { program := "ytdlblpmjghjhlaa", sum := "64e9f6e580295ecc2065bf5387a3e78f55237ceccf8a1cbd8394b01402752e1b", func := "gypsum/gypsumlaw02.NumNone", spec := "numNone", apart := false, narrowed := true }
def NumNoneUptoSaid : Prop := numNoneUptoRow.holds Try.pinned (OpenSpec.upto numNoneSpec)

end Rows
end Go.Proofs.Ytdlblpmjghjhlaa
