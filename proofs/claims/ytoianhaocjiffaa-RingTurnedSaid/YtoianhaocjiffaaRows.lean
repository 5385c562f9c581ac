/-
  No cell of these rows narrows 'for every input' (looked for: loops, veiled, ifaces, maps, wideKeys, modest, calm, conditions, laid).
  DERIVED. THE GIVEN ROWS OF THIS SEAT. 7 by the template 'for every input the law returns true; each argument reads behind the call as it read before'; 0 by the template 'total and deterministic' (their statements: YtoianhaocjiffaaTotals.lean).
  GIVEN WITH THE SEED: the statements are not yours to turn. If you find one false, say at which input.
  Laid BY PROGRAM, IN A SANDBOX (cutbox-rows.mjs): the forced cells as the released guide's own fill.sh prints them over the translation cde22e3c9faee9c6… (all of the seat's roots in one cut). By AI agents, Wed Nov 11 2026. No macro, syntax, notation, axiom, sorry.
-/
import Derived.Test.YtoianhaocjiffaaChecked
import GoSem.Claim
import GoSem.ClaimJoined
import GoSem.ClaimMapViews
import Derived.JoinedTies
import Derived.KernelRfl
namespace Go.Proofs.Ytoianhaocjiffaa
/- THE CELL 'sum', in the pinned program and in every row, IS THE sha256 OF THE DUMP (.gsa) THAT YtoianhaocjiffaaProg.lean LOADS. Nothing in Lean hashes anything: it is a label: what it is worth is what the hold of that sum in a sandbox is worth. -/
noncomputable def Try.pinned : Pinned := { name := "ytoianhaocjiffaa", sum := "cde22e3c9faee9c68394aa6f547f32bab750a41684f8833a45a83c69bcec62d1", checked := Try.checked }
namespace Rows
def none {H : Type} : Left H := { results := [], args := [] }

/-- 'gypsumlaw11.RingArounds': WHATEVER THE INPUT: true; the input reads as it did. -/
def ringAroundsSpec : ChangeSpec := { name := "ringArounds", fn := fun _ => fun
  | [d1, d2, d3] => { results := [.lit (.bool true)], args := [d1, d2, d3] }
  | _ => none }
def ringAroundsRow : OpenClaim := { program := "ytoianhaocjiffaa", sum := "cde22e3c9faee9c68394aa6f547f32bab750a41684f8833a45a83c69bcec62d1", func := "gypsum/gypsumlaw11.RingArounds", spec := "ringArounds", unfollowed := true, recurses := true, plainKeys := false, apart := false }
def RingAroundsSaid : Prop := ringAroundsRow.holds Try.pinned (OpenSpec.ofChange ringAroundsSpec)

/-- ITS FALSE NEIGHBOUR: 'it returns false'. Refute it at one input. -/
def ringAroundsWrong : ChangeSpec := { name := "ringArounds", fn := fun _ => fun
  | [d1, d2, d3] => { results := [.lit (.bool false)], args := [d1, d2, d3] }
  | _ => none }
def RingAroundsWrongFalsely : Prop := ringAroundsRow.holds Try.pinned (OpenSpec.ofChange ringAroundsWrong)

/-- 'gypsumlaw11.RingTells': WHATEVER THE INPUT: true; the input reads as it did. -/
def ringTellsSpec : ChangeSpec := { name := "ringTells", fn := fun _ => fun
  | [d1, d2, d3] => { results := [.lit (.bool true)], args := [d1, d2, d3] }
  | _ => none }
def ringTellsRow : OpenClaim := { program := "ytoianhaocjiffaa", sum := "cde22e3c9faee9c68394aa6f547f32bab750a41684f8833a45a83c69bcec62d1", func := "gypsum/gypsumlaw11.RingTells", spec := "ringTells", unfollowed := true, recurses := true, plainKeys := false, apart := false }
def RingTellsSaid : Prop := ringTellsRow.holds Try.pinned (OpenSpec.ofChange ringTellsSpec)

/-- ITS FALSE NEIGHBOUR: 'it returns false'. Refute it at one input. -/
def ringTellsWrong : ChangeSpec := { name := "ringTells", fn := fun _ => fun
  | [d1, d2, d3] => { results := [.lit (.bool false)], args := [d1, d2, d3] }
  | _ => none }
def RingTellsWrongFalsely : Prop := ringTellsRow.holds Try.pinned (OpenSpec.ofChange ringTellsWrong)

/-- 'gypsumlaw11.RingOnce': WHATEVER THE INPUT: true; the input reads as it did. -/
def ringOnceSpec : ChangeSpec := { name := "ringOnce", fn := fun _ => fun
  | [d] => { results := [.lit (.bool true)], args := [d] }
  | _ => none }
def ringOnceRow : OpenClaim := { program := "ytoianhaocjiffaa", sum := "cde22e3c9faee9c68394aa6f547f32bab750a41684f8833a45a83c69bcec62d1", func := "gypsum/gypsumlaw11.RingOnce", spec := "ringOnce", unfollowed := true, recurses := true, plainKeys := false, apart := false }
def RingOnceSaid : Prop := ringOnceRow.holds Try.pinned (OpenSpec.ofChange ringOnceSpec)

/-- ITS FALSE NEIGHBOUR: 'it returns false'. Refute it at one input. -/
def ringOnceWrong : ChangeSpec := { name := "ringOnce", fn := fun _ => fun
  | [d] => { results := [.lit (.bool false)], args := [d] }
  | _ => none }
def RingOnceWrongFalsely : Prop := ringOnceRow.holds Try.pinned (OpenSpec.ofChange ringOnceWrong)

/-- 'gypsumlaw11.RingTurns': WHATEVER THE INPUT: true; the input reads as it did. -/
def ringTurnsSpec : ChangeSpec := { name := "ringTurns", fn := fun _ => fun
  | [d1, d2] => { results := [.lit (.bool true)], args := [d1, d2] }
  | _ => none }
def ringTurnsRow : OpenClaim := { program := "ytoianhaocjiffaa", sum := "cde22e3c9faee9c68394aa6f547f32bab750a41684f8833a45a83c69bcec62d1", func := "gypsum/gypsumlaw11.RingTurns", spec := "ringTurns", unfollowed := true, recurses := true, plainKeys := false, apart := false }
def RingTurnsSaid : Prop := ringTurnsRow.holds Try.pinned (OpenSpec.ofChange ringTurnsSpec)

/-- ITS FALSE NEIGHBOUR: 'it returns false'. Refute it at one input. -/
def ringTurnsWrong : ChangeSpec := { name := "ringTurns", fn := fun _ => fun
  | [d1, d2] => { results := [.lit (.bool false)], args := [d1, d2] }
  | _ => none }
def RingTurnsWrongFalsely : Prop := ringTurnsRow.holds Try.pinned (OpenSpec.ofChange ringTurnsWrong)

/-- 'gypsumlaw11.RingLinks': WHATEVER THE INPUT: true; the input reads as it did. -/
def ringLinksSpec : ChangeSpec := { name := "ringLinks", fn := fun _ => fun
  | [d1, d2] => { results := [.lit (.bool true)], args := [d1, d2] }
  | _ => none }
def ringLinksRow : OpenClaim := { program := "ytoianhaocjiffaa", sum := "cde22e3c9faee9c68394aa6f547f32bab750a41684f8833a45a83c69bcec62d1", func := "gypsum/gypsumlaw11.RingLinks", spec := "ringLinks", unfollowed := true, recurses := true, plainKeys := false, apart := false }
def RingLinksSaid : Prop := ringLinksRow.holds Try.pinned (OpenSpec.ofChange ringLinksSpec)

/-- ITS FALSE NEIGHBOUR: 'it returns false'. Refute it at one input. -/
def ringLinksWrong : ChangeSpec := { name := "ringLinks", fn := fun _ => fun
  | [d1, d2] => { results := [.lit (.bool false)], args := [d1, d2] }
  | _ => none }
def RingLinksWrongFalsely : Prop := ringLinksRow.holds Try.pinned (OpenSpec.ofChange ringLinksWrong)

/-- 'gypsumlaw11.RingEdges': WHATEVER THE INPUT: true; the input reads as it did. -/
def ringEdgesSpec : ChangeSpec := { name := "ringEdges", fn := fun _ => fun
  | [d] => { results := [.lit (.bool true)], args := [d] }
  | _ => none }
def ringEdgesRow : OpenClaim := { program := "ytoianhaocjiffaa", sum := "cde22e3c9faee9c68394aa6f547f32bab750a41684f8833a45a83c69bcec62d1", func := "gypsum/gypsumlaw11.RingEdges", spec := "ringEdges", unfollowed := true, recurses := true, plainKeys := false, apart := false }
def RingEdgesSaid : Prop := ringEdgesRow.holds Try.pinned (OpenSpec.ofChange ringEdgesSpec)

/-- ITS FALSE NEIGHBOUR: 'it returns false'. Refute it at one input. -/
def ringEdgesWrong : ChangeSpec := { name := "ringEdges", fn := fun _ => fun
  | [d] => { results := [.lit (.bool false)], args := [d] }
  | _ => none }
def RingEdgesWrongFalsely : Prop := ringEdgesRow.holds Try.pinned (OpenSpec.ofChange ringEdgesWrong)

/-- 'gypsumlaw11.RingTurned': WHATEVER THE INPUT: true; the input reads as it did. -/
def ringTurnedSpec : ChangeSpec := { name := "ringTurned", fn := fun _ => fun
  | [d1, d2] => { results := [.lit (.bool true)], args := [d1, d2] }
  | _ => none }
def ringTurnedRow : OpenClaim := { program := "ytoianhaocjiffaa", sum := "cde22e3c9faee9c68394aa6f547f32bab750a41684f8833a45a83c69bcec62d1", func := "gypsum/gypsumlaw11.RingTurned", spec := "ringTurned", unfollowed := true, recurses := true, plainKeys := false, apart := false }
def RingTurnedSaid : Prop := ringTurnedRow.holds Try.pinned (OpenSpec.ofChange ringTurnedSpec)

/-- ITS FALSE NEIGHBOUR: 'it returns false'. Refute it at one input. -/
def ringTurnedWrong : ChangeSpec := { name := "ringTurned", fn := fun _ => fun
  | [d1, d2] => { results := [.lit (.bool false)], args := [d1, d2] }
  | _ => none }
def RingTurnedWrongFalsely : Prop := ringTurnedRow.holds Try.pinned (OpenSpec.ofChange ringTurnedWrong)

/- THE SECOND FORM. 'bulk': how many values and letters a reading holds, each counted each time it is reached (what is shared counts as often as it is met; a slice's spare places count too). A statement '..UptoSaid' is the law's where the arguments, and the package variables that the reading takes, are together of bulk at most 1048576: NARROWER than '..Said'. Prove '..Said' where nothing that the law and all that it calls make is longer than what came in: it says more and counts as full. Else prove '..UptoSaid'. A law counts once. -/
mutual
def uptoBulk {H : Type} : DataW H → Nat
  | .lit (.string bytes) => bytes.length + 1
  | .lit _ => 1
  | .nil => 1
  | .ptr d => uptoBulk d + 1
  | .slice elems spare => uptoBulkAll elems + uptoBulkAll spare + 1
  | .agg parts => uptoBulkAll parts + 1
  | .iface _ d => uptoBulk d + 1
  | .map entries => uptoBulkEntries entries + 1
  | .held _ => 1
def uptoBulkAll {H : Type} : List (DataW H) → Nat
  | [] => 0
  | d :: r => uptoBulk d + uptoBulkAll r
def uptoBulkEntries {H : Type} : List (Lit × DataW H) → Nat
  | [] => 0
  | x :: r => uptoBulkEntry x + uptoBulkEntries r
def uptoBulkEntry {H : Type} : Lit × DataW H → Nat
  | (.string bytes, d) => bytes.length + uptoBulk d + 1
  | (_, d) => uptoBulk d + 1
 end
def uptoSmall : (H : Type) → List (DataW H) → Bool := fun _ ds => decide (uptoBulkAll ds ≤ 1048576)
def OpenSpec.upto (s : _root_.Go.ChangeSpec) : _root_.Go.OpenSpec := { _root_.Go.OpenSpec.ofChange s with cond := some uptoSmall }

/-- 'gypsumlaw11.RingArounds', WHERE WHAT IT READS IS OF BULK AT MOST 1048576: true; the input reads as it did. -/
def ringAroundsUptoRow : OpenClaim := { program := "ytoianhaocjiffaa", sum := "cde22e3c9faee9c68394aa6f547f32bab750a41684f8833a45a83c69bcec62d1", func := "gypsum/gypsumlaw11.RingArounds", spec := "ringArounds", unfollowed := true, recurses := true, plainKeys := false, apart := false, narrowed := true }
def RingAroundsUptoSaid : Prop := ringAroundsUptoRow.holds Try.pinned (OpenSpec.upto ringAroundsSpec)

/-- 'gypsumlaw11.RingTells', WHERE WHAT IT READS IS OF BULK AT MOST 1048576: true; the input reads as it did. -/
def ringTellsUptoRow : OpenClaim := { program := "ytoianhaocjiffaa", sum := "cde22e3c9faee9c68394aa6f547f32bab750a41684f8833a45a83c69bcec62d1", func := "gypsum/gypsumlaw11.RingTells", spec := "ringTells", unfollowed := true, recurses := true, plainKeys := false, apart := false, narrowed := true }
def RingTellsUptoSaid : Prop := ringTellsUptoRow.holds Try.pinned (OpenSpec.upto ringTellsSpec)

/-- 'gypsumlaw11.RingOnce', WHERE WHAT IT READS IS OF BULK AT MOST 1048576: true; the input reads as it did. -/
def ringOnceUptoRow : OpenClaim := { program := "ytoianhaocjiffaa", sum := "cde22e3c9faee9c68394aa6f547f32bab750a41684f8833a45a83c69bcec62d1", func := "gypsum/gypsumlaw11.RingOnce", spec := "ringOnce", unfollowed := true, recurses := true, plainKeys := false, apart := false, narrowed := true }
def RingOnceUptoSaid : Prop := ringOnceUptoRow.holds Try.pinned (OpenSpec.upto ringOnceSpec)

/-- 'gypsumlaw11.RingTurns', WHERE WHAT IT READS IS OF BULK AT MOST 1048576: true; the input reads as it did. -/
def ringTurnsUptoRow : OpenClaim := { program := "ytoianhaocjiffaa", sum := "cde22e3c9faee9c68394aa6f547f32bab750a41684f8833a45a83c69bcec62d1", func := "gypsum/gypsumlaw11.RingTurns", spec := "ringTurns", unfollowed := true, recurses := true, plainKeys := false, apart := false, narrowed := true }
def RingTurnsUptoSaid : Prop := ringTurnsUptoRow.holds Try.pinned (OpenSpec.upto ringTurnsSpec)

/-- 'gypsumlaw11.RingLinks', WHERE WHAT IT READS IS OF BULK AT MOST 1048576: true; the input reads as it did. -/
def ringLinksUptoRow : OpenClaim := { program := "ytoianhaocjiffaa", sum := "cde22e3c9faee9c68394aa6f547f32bab750a41684f8833a45a83c69bcec62d1", func := "gypsum/gypsumlaw11.RingLinks", spec := "ringLinks", unfollowed := true, recurses := true, plainKeys := false, apart := false, narrowed := true }
def RingLinksUptoSaid : Prop := ringLinksUptoRow.holds Try.pinned (OpenSpec.upto ringLinksSpec)

/-- 'gypsumlaw11.RingEdges', WHERE WHAT IT READS IS OF BULK AT MOST 1048576: true; the input reads as it did. -/
def ringEdgesUptoRow : OpenClaim := { program := "ytoianhaocjiffaa", sum := "cde22e3c9faee9c68394aa6f547f32bab750a41684f8833a45a83c69bcec62d1", func := "gypsum/gypsumlaw11.RingEdges", spec := "ringEdges", unfollowed := true, recurses := true, plainKeys := false, apart := false, narrowed := true }
def RingEdgesUptoSaid : Prop := ringEdgesUptoRow.holds Try.pinned (OpenSpec.upto ringEdgesSpec)

/-- 'gypsumlaw11.RingTurned', WHERE WHAT IT READS IS OF BULK AT MOST 1048576: true; the input reads as it did. -/
def ringTurnedUptoRow : OpenClaim := { program := "ytoianhaocjiffaa", sum := "cde22e3c9faee9c68394aa6f547f32bab750a41684f8833a45a83c69bcec62d1", func := "gypsum/gypsumlaw11.RingTurned", spec := "ringTurned", unfollowed := true, recurses := true, plainKeys := false, apart := false, narrowed := true }
def RingTurnedUptoSaid : Prop := ringTurnedUptoRow.holds Try.pinned (OpenSpec.upto ringTurnedSpec)

end Rows
end Go.Proofs.Ytoianhaocjiffaa
