/-
  NARROWER THAN 'FOR EVERY INPUT', by the rows' own cells (each row's printed sentence says how): CoderBytes: laid · CoderReads: laid · CoderBack: laid · CoderFew: laid · CoderGoes: laid · CoderAdapts: laid · CoderNone: laid.
  DERIVED. THE GIVEN ROWS OF THIS SEAT. 7 by the template 'for every input the law returns true; each argument reads behind the call as it read before'; 0 by the template 'total and deterministic' (their statements: YtbkjfblmdilchaaDoorTotals.lean).
  GIVEN WITH THE SEED: the statements are not yours to turn. If you find one false, say at which input.
  Laid BY PROGRAM, IN A SANDBOX (cutbox-rows.mjs): the forced cells as the released guide's own fill.sh prints them over the translation 8ad81ba5a0c3323e… (all of the seat's roots in one cut). By AI agents, Wed Nov 11 2026. No macro, syntax, notation, axiom, sorry.
-/
import Derived.Test.YtbkjfblmdilchaaDoorChecked
import GoSem.PinnedTables
import GoSem.Claim
import GoSem.ClaimJoined
import GoSem.ClaimMapViews
import Derived.JoinedTies
import Derived.KernelRfl
namespace Go.Proofs.YtbkjfblmdilchaaDoor
/- THE CELL 'sum', in the pinned program and in every row, IS THE sha256 OF THE DUMP (.gsa) THAT YtbkjfblmdilchaaDoorProg.lean LOADS. Nothing in Lean hashes anything: it is a label: what it is worth is what the hold of that sum in a sandbox is worth. -/
noncomputable def Tryd.pinned : Pinned := { name := "ytbkjfblmdilchaadoor", sum := "8ad81ba5a0c3323eecc50f21aad028610437da9725f4ccae65bd46148ec1c64d", checked := Tryd.checked }
namespace Rows
def none {H : Type} : Left H := { results := [], args := [] }

/- WHAT THE LISTED PACKAGE-LEVEL VARIABLES READ AS WHEN THE CALL BEGINS. Each datum BY PROGRAM (the guide's laid-datum.mjs) off the statement by which the dump's own 'gosem.cut.vars' lays the variable. In a bare row this is a premise. The card (YtbkjfblmdilchaaDoorCards.lean) ties it to the program's text. -/
def laid_unicode_utf8_acceptRanges {H : Type} : DataW H := .agg [.agg [.lit (.int .u8 128), .lit (.int .u8 191)], .agg [.lit (.int .u8 160), .lit (.int .u8 191)], .agg [.lit (.int .u8 128), .lit (.int .u8 159)], .agg [.lit (.int .u8 144), .lit (.int .u8 191)], .agg [.lit (.int .u8 128), .lit (.int .u8 143)], .agg [.lit (.int .u8 0), .lit (.int .u8 0)], .agg [.lit (.int .u8 0), .lit (.int .u8 0)], .agg [.lit (.int .u8 0), .lit (.int .u8 0)], .agg [.lit (.int .u8 0), .lit (.int .u8 0)], .agg [.lit (.int .u8 0), .lit (.int .u8 0)], .agg [.lit (.int .u8 0), .lit (.int .u8 0)], .agg [.lit (.int .u8 0), .lit (.int .u8 0)], .agg [.lit (.int .u8 0), .lit (.int .u8 0)], .agg [.lit (.int .u8 0), .lit (.int .u8 0)], .agg [.lit (.int .u8 0), .lit (.int .u8 0)], .agg [.lit (.int .u8 0), .lit (.int .u8 0)]]
/-- One of Go's own tables, pinned by name: the form's constant. -/
def laid_unicode_utf8_first : DataW Unit := Go.Pinned.utf8First

/-- 'gypsumlaw04.CoderBytes': WHATEVER THE INPUT: true; the input reads as it did. -/
def coderBytesSpec : ChangeSpec := { name := "coderBytes", fn := fun _ => fun
  | [d] => { results := [.lit (.bool true)], args := [d] }
  | _ => none }
def coderBytesRow : OpenClaim := { program := "ytbkjfblmdilchaadoor", sum := "8ad81ba5a0c3323eecc50f21aad028610437da9725f4ccae65bd46148ec1c64d", func := "gypsum/gypsumlaw04.CoderBytes", spec := "coderBytes", named := ["unicode/utf8.first", "unicode/utf8.acceptRanges"], apart := false, laid := [("unicode/utf8.acceptRanges", laid_unicode_utf8_acceptRanges), ("unicode/utf8.first", laid_unicode_utf8_first)] }
def CoderBytesSaid : Prop := coderBytesRow.holds Tryd.pinned (OpenSpec.ofChange coderBytesSpec)

/-- ITS FALSE NEIGHBOUR: 'it returns false'. Refute it at one input. -/
def coderBytesWrong : ChangeSpec := { name := "coderBytes", fn := fun _ => fun
  | [d] => { results := [.lit (.bool false)], args := [d] }
  | _ => none }
def CoderBytesWrongFalsely : Prop := coderBytesRow.holds Tryd.pinned (OpenSpec.ofChange coderBytesWrong)

/-- 'gypsumlaw04.CoderReads': WHATEVER THE INPUT: true; the input reads as it did. -/
def coderReadsSpec : ChangeSpec := { name := "coderReads", fn := fun _ => fun
  | [d1, d2] => { results := [.lit (.bool true)], args := [d1, d2] }
  | _ => none }
def coderReadsRow : OpenClaim := { program := "ytbkjfblmdilchaadoor", sum := "8ad81ba5a0c3323eecc50f21aad028610437da9725f4ccae65bd46148ec1c64d", func := "gypsum/gypsumlaw04.CoderReads", spec := "coderReads", unfollowed := true, recurses := true, named := ["unicode/utf8.first", "unicode/utf8.acceptRanges"], apart := false, laid := [("unicode/utf8.acceptRanges", laid_unicode_utf8_acceptRanges), ("unicode/utf8.first", laid_unicode_utf8_first)] }
def CoderReadsSaid : Prop := coderReadsRow.holds Tryd.pinned (OpenSpec.ofChange coderReadsSpec)

/-- ITS FALSE NEIGHBOUR: 'it returns false'. Refute it at one input. -/
def coderReadsWrong : ChangeSpec := { name := "coderReads", fn := fun _ => fun
  | [d1, d2] => { results := [.lit (.bool false)], args := [d1, d2] }
  | _ => none }
def CoderReadsWrongFalsely : Prop := coderReadsRow.holds Tryd.pinned (OpenSpec.ofChange coderReadsWrong)

/-- 'gypsumlaw04.CoderBack': WHATEVER THE INPUT: true; the input reads as it did. -/
def coderBackSpec : ChangeSpec := { name := "coderBack", fn := fun _ => fun
  | [d1, d2] => { results := [.lit (.bool true)], args := [d1, d2] }
  | _ => none }
def coderBackRow : OpenClaim := { program := "ytbkjfblmdilchaadoor", sum := "8ad81ba5a0c3323eecc50f21aad028610437da9725f4ccae65bd46148ec1c64d", func := "gypsum/gypsumlaw04.CoderBack", spec := "coderBack", unfollowed := true, recurses := true, named := ["unicode/utf8.first", "unicode/utf8.acceptRanges"], apart := false, laid := [("unicode/utf8.acceptRanges", laid_unicode_utf8_acceptRanges), ("unicode/utf8.first", laid_unicode_utf8_first)] }
def CoderBackSaid : Prop := coderBackRow.holds Tryd.pinned (OpenSpec.ofChange coderBackSpec)

/-- ITS FALSE NEIGHBOUR: 'it returns false'. Refute it at one input. -/
def coderBackWrong : ChangeSpec := { name := "coderBack", fn := fun _ => fun
  | [d1, d2] => { results := [.lit (.bool false)], args := [d1, d2] }
  | _ => none }
def CoderBackWrongFalsely : Prop := coderBackRow.holds Tryd.pinned (OpenSpec.ofChange coderBackWrong)

/-- 'gypsumlaw04.CoderFew': WHATEVER THE INPUT: true; the input reads as it did. -/
def coderFewSpec : ChangeSpec := { name := "coderFew", fn := fun _ => fun
  | [d1, d2] => { results := [.lit (.bool true)], args := [d1, d2] }
  | _ => none }
def coderFewRow : OpenClaim := { program := "ytbkjfblmdilchaadoor", sum := "8ad81ba5a0c3323eecc50f21aad028610437da9725f4ccae65bd46148ec1c64d", func := "gypsum/gypsumlaw04.CoderFew", spec := "coderFew", named := ["unicode/utf8.first", "unicode/utf8.acceptRanges"], apart := false, laid := [("unicode/utf8.acceptRanges", laid_unicode_utf8_acceptRanges), ("unicode/utf8.first", laid_unicode_utf8_first)] }
def CoderFewSaid : Prop := coderFewRow.holds Tryd.pinned (OpenSpec.ofChange coderFewSpec)

/-- ITS FALSE NEIGHBOUR: 'it returns false'. Refute it at one input. -/
def coderFewWrong : ChangeSpec := { name := "coderFew", fn := fun _ => fun
  | [d1, d2] => { results := [.lit (.bool false)], args := [d1, d2] }
  | _ => none }
def CoderFewWrongFalsely : Prop := coderFewRow.holds Tryd.pinned (OpenSpec.ofChange coderFewWrong)

/-- 'gypsumlaw04.CoderGoes': WHATEVER THE INPUT: true; the input reads as it did. -/
def coderGoesSpec : ChangeSpec := { name := "coderGoes", fn := fun _ => fun
  | [d1, d2] => { results := [.lit (.bool true)], args := [d1, d2] }
  | _ => none }
def coderGoesRow : OpenClaim := { program := "ytbkjfblmdilchaadoor", sum := "8ad81ba5a0c3323eecc50f21aad028610437da9725f4ccae65bd46148ec1c64d", func := "gypsum/gypsumlaw04.CoderGoes", spec := "coderGoes", named := ["unicode/utf8.first", "unicode/utf8.acceptRanges"], apart := false, laid := [("unicode/utf8.acceptRanges", laid_unicode_utf8_acceptRanges), ("unicode/utf8.first", laid_unicode_utf8_first)] }
def CoderGoesSaid : Prop := coderGoesRow.holds Tryd.pinned (OpenSpec.ofChange coderGoesSpec)

/-- ITS FALSE NEIGHBOUR: 'it returns false'. Refute it at one input. -/
def coderGoesWrong : ChangeSpec := { name := "coderGoes", fn := fun _ => fun
  | [d1, d2] => { results := [.lit (.bool false)], args := [d1, d2] }
  | _ => none }
def CoderGoesWrongFalsely : Prop := coderGoesRow.holds Tryd.pinned (OpenSpec.ofChange coderGoesWrong)

/-- 'gypsumlaw04.CoderAdapts': WHATEVER THE INPUT: true; the input reads as it did. -/
def coderAdaptsSpec : ChangeSpec := { name := "coderAdapts", fn := fun _ => fun
  | [d] => { results := [.lit (.bool true)], args := [d] }
  | _ => none }
def coderAdaptsRow : OpenClaim := { program := "ytbkjfblmdilchaadoor", sum := "8ad81ba5a0c3323eecc50f21aad028610437da9725f4ccae65bd46148ec1c64d", func := "gypsum/gypsumlaw04.CoderAdapts", spec := "coderAdapts", unfollowed := true, recurses := true, named := ["unicode/utf8.first", "unicode/utf8.acceptRanges"], apart := false, laid := [("unicode/utf8.acceptRanges", laid_unicode_utf8_acceptRanges), ("unicode/utf8.first", laid_unicode_utf8_first)] }
def CoderAdaptsSaid : Prop := coderAdaptsRow.holds Tryd.pinned (OpenSpec.ofChange coderAdaptsSpec)

/-- ITS FALSE NEIGHBOUR: 'it returns false'. Refute it at one input. -/
def coderAdaptsWrong : ChangeSpec := { name := "coderAdapts", fn := fun _ => fun
  | [d] => { results := [.lit (.bool false)], args := [d] }
  | _ => none }
def CoderAdaptsWrongFalsely : Prop := coderAdaptsRow.holds Tryd.pinned (OpenSpec.ofChange coderAdaptsWrong)

/-- 'gypsumlaw04.CoderNone': WHATEVER THE INPUT: true; the input reads as it did. -/
def coderNoneSpec : ChangeSpec := { name := "coderNone", fn := fun _ => fun
  | [d1, d2] => { results := [.lit (.bool true)], args := [d1, d2] }
  | _ => none }
def coderNoneRow : OpenClaim := { program := "ytbkjfblmdilchaadoor", sum := "8ad81ba5a0c3323eecc50f21aad028610437da9725f4ccae65bd46148ec1c64d", func := "gypsum/gypsumlaw04.CoderNone", spec := "coderNone", unfollowed := true, recurses := true, named := ["unicode/utf8.first", "unicode/utf8.acceptRanges"], apart := false, laid := [("unicode/utf8.acceptRanges", laid_unicode_utf8_acceptRanges), ("unicode/utf8.first", laid_unicode_utf8_first)] }
def CoderNoneSaid : Prop := coderNoneRow.holds Tryd.pinned (OpenSpec.ofChange coderNoneSpec)

/-- ITS FALSE NEIGHBOUR: 'it returns false'. Refute it at one input. -/
def coderNoneWrong : ChangeSpec := { name := "coderNone", fn := fun _ => fun
  | [d1, d2] => { results := [.lit (.bool false)], args := [d1, d2] }
  | _ => none }
def CoderNoneWrongFalsely : Prop := coderNoneRow.holds Tryd.pinned (OpenSpec.ofChange coderNoneWrong)

/- THE SECOND FORM. 'bulk': how many values and letters a reading holds, each counted each time it is reached (what is shared counts as often as it is met; a slice's spare places count too). A statement '..UptoSaid' is the law's where the arguments, and the package variables that the reading takes, are together of bulk at most 1048576: NARROWER than '..Said'. Prove '..Said' where nothing that the law and all that it calls make is longer than what came in: it says more and counts as full. Else prove '..UptoSaid'. A law counts once. -/
mutual
def uptoBulk {H : Type} : DataW H → Nat
  | .lit (.string bytes) => bytes.length + 1
  | .lit _ => 1
  | .nil => 1
  | .ptr d => uptoBulk d + 1
  | .slice elems spare => uptoBulkAll elems + uptoBulkAll spare + 1
  | .agg parts => uptoBulkAll parts + 1
  | .iface _ d => uptoBulk d + 1
  | .map entries => uptoBulkEntries entries + 1
  | .held _ => 1
def uptoBulkAll {H : Type} : List (DataW H) → Nat
  | [] => 0
  | d :: r => uptoBulk d + uptoBulkAll r
def uptoBulkEntries {H : Type} : List (Lit × DataW H) → Nat
  | [] => 0
  | x :: r => uptoBulkEntry x + uptoBulkEntries r
def uptoBulkEntry {H : Type} : Lit × DataW H → Nat
  | (.string bytes, d) => bytes.length + uptoBulk d + 1
  | (_, d) => uptoBulk d + 1
 end
def uptoSmall : (H : Type) → List (DataW H) → Bool := fun _ ds => decide (uptoBulkAll ds ≤ 1048576)
def OpenSpec.upto (s : _root_.Go.ChangeSpec) : _root_.Go.OpenSpec := { _root_.Go.OpenSpec.ofChange s with cond := some uptoSmall }

/-- 'gypsumlaw04.CoderBytes', WHERE WHAT IT READS IS OF BULK AT MOST 1048576: true; the input reads as it did. -/
def coderBytesUptoRow : OpenClaim := { program := "ytbkjfblmdilchaadoor", sum := "8ad81ba5a0c3323eecc50f21aad028610437da9725f4ccae65bd46148ec1c64d", func := "gypsum/gypsumlaw04.CoderBytes", spec := "coderBytes", named := ["unicode/utf8.first", "unicode/utf8.acceptRanges"], apart := false, laid := [("unicode/utf8.acceptRanges", laid_unicode_utf8_acceptRanges), ("unicode/utf8.first", laid_unicode_utf8_first)], narrowed := true }
def CoderBytesUptoSaid : Prop := coderBytesUptoRow.holds Tryd.pinned (OpenSpec.upto coderBytesSpec)

/-- 'gypsumlaw04.CoderReads', WHERE WHAT IT READS IS OF BULK AT MOST 1048576: true; the input reads as it did. -/
def coderReadsUptoRow : OpenClaim := { program := "ytbkjfblmdilchaadoor", sum := "8ad81ba5a0c3323eecc50f21aad028610437da9725f4ccae65bd46148ec1c64d", func := "gypsum/gypsumlaw04.CoderReads", spec := "coderReads", unfollowed := true, recurses := true, named := ["unicode/utf8.first", "unicode/utf8.acceptRanges"], apart := false, laid := [("unicode/utf8.acceptRanges", laid_unicode_utf8_acceptRanges), ("unicode/utf8.first", laid_unicode_utf8_first)], narrowed := true }
def CoderReadsUptoSaid : Prop := coderReadsUptoRow.holds Tryd.pinned (OpenSpec.upto coderReadsSpec)

/-- 'gypsumlaw04.CoderBack', WHERE WHAT IT READS IS OF BULK AT MOST 1048576: true; the input reads as it did. -/
def coderBackUptoRow : OpenClaim := { program := "ytbkjfblmdilchaadoor", sum := "8ad81ba5a0c3323eecc50f21aad028610437da9725f4ccae65bd46148ec1c64d", func := "gypsum/gypsumlaw04.CoderBack", spec := "coderBack", unfollowed := true, recurses := true, named := ["unicode/utf8.first", "unicode/utf8.acceptRanges"], apart := false, laid := [("unicode/utf8.acceptRanges", laid_unicode_utf8_acceptRanges), ("unicode/utf8.first", laid_unicode_utf8_first)], narrowed := true }
def CoderBackUptoSaid : Prop := coderBackUptoRow.holds Tryd.pinned (OpenSpec.upto coderBackSpec)

/-- 'gypsumlaw04.CoderFew', WHERE WHAT IT READS IS OF BULK AT MOST 1048576: true; the input reads as it did. -/
def coderFewUptoRow : OpenClaim := { program := "ytbkjfblmdilchaadoor", sum := "8ad81ba5a0c3323eecc50f21aad028610437da9725f4ccae65bd46148ec1c64d", func := "gypsum/gypsumlaw04.CoderFew", spec := "coderFew", named := ["unicode/utf8.first", "unicode/utf8.acceptRanges"], apart := false, laid := [("unicode/utf8.acceptRanges", laid_unicode_utf8_acceptRanges), ("unicode/utf8.first", laid_unicode_utf8_first)], narrowed := true }
def CoderFewUptoSaid : Prop := coderFewUptoRow.holds Tryd.pinned (OpenSpec.upto coderFewSpec)

/-- 'gypsumlaw04.CoderGoes', WHERE WHAT IT READS IS OF BULK AT MOST 1048576: true; the input reads as it did. -/
def coderGoesUptoRow : OpenClaim := { program := "ytbkjfblmdilchaadoor", sum := "8ad81ba5a0c3323eecc50f21aad028610437da9725f4ccae65bd46148ec1c64d", func := "gypsum/gypsumlaw04.CoderGoes", spec := "coderGoes", named := ["unicode/utf8.first", "unicode/utf8.acceptRanges"], apart := false, laid := [("unicode/utf8.acceptRanges", laid_unicode_utf8_acceptRanges), ("unicode/utf8.first", laid_unicode_utf8_first)], narrowed := true }
def CoderGoesUptoSaid : Prop := coderGoesUptoRow.holds Tryd.pinned (OpenSpec.upto coderGoesSpec)

/-- 'gypsumlaw04.CoderAdapts', WHERE WHAT IT READS IS OF BULK AT MOST 1048576: true; the input reads as it did. -/
def coderAdaptsUptoRow : OpenClaim := { program := "ytbkjfblmdilchaadoor", sum := "8ad81ba5a0c3323eecc50f21aad028610437da9725f4ccae65bd46148ec1c64d", func := "gypsum/gypsumlaw04.CoderAdapts", spec := "coderAdapts", unfollowed := true, recurses := true, named := ["unicode/utf8.first", "unicode/utf8.acceptRanges"], apart := false, laid := [("unicode/utf8.acceptRanges", laid_unicode_utf8_acceptRanges), ("unicode/utf8.first", laid_unicode_utf8_first)], narrowed := true }
def CoderAdaptsUptoSaid : Prop := coderAdaptsUptoRow.holds Tryd.pinned (OpenSpec.upto coderAdaptsSpec)

/-- 'gypsumlaw04.CoderNone', WHERE WHAT IT READS IS OF BULK AT MOST 1048576: true; the input reads as it did. -/
def coderNoneUptoRow : OpenClaim := { program := "ytbkjfblmdilchaadoor", sum := "8ad81ba5a0c3323eecc50f21aad028610437da9725f4ccae65bd46148ec1c64d", func := "gypsum/gypsumlaw04.CoderNone", spec := "coderNone", unfollowed := true, recurses := true, named := ["unicode/utf8.first", "unicode/utf8.acceptRanges"], apart := false, laid := [("unicode/utf8.acceptRanges", laid_unicode_utf8_acceptRanges), ("unicode/utf8.first", laid_unicode_utf8_first)], narrowed := true }
def CoderNoneUptoSaid : Prop := coderNoneUptoRow.holds Tryd.pinned (OpenSpec.upto coderNoneSpec)

end Rows
end Go.Proofs.YtbkjfblmdilchaaDoor
