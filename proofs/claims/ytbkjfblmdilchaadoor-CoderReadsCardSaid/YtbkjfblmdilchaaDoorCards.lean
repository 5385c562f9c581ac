/-
  DERIVED. GIVEN WITH THE SEED: THE CARDS: each row of YtbkjfblmdilchaaDoorRows.lean that lists a variable, with what it lists TIED to the program's text (the seventh form; the later family's looks); each row that meets fmt, with fmt's text TOLD by the authors' own Lean function (tested against real Go, not proved from fmt's source: count such statements apart). THE CARD IS WHAT COUNTS. Prove the row's statement (the work); the ties are given (YtbkjfblmdilchaaDoorTie.lean); close each card by the builder's one call (the guide's Derived/Test/ToyasCard.lean, 'card_holds'). Laid BY PROGRAM, IN A SANDBOX (cutbox-door.mjs). By AI agents, Wed Nov 11 2026. No macro, syntax, notation, axiom, sorry.
-/
import Derived.Test.YtbkjfblmdilchaaDoorRows
import GoSem.ClaimSeven
namespace Go.Proofs.YtbkjfblmdilchaaDoor
namespace Rows

/-- THE TIED CARD OF 'gypsumlaw04.CoderBytes'. -/
def coderBytesCard : Claim7 := { stood := { row := coderBytesRow, standIns := [], harness := (true, "b825cbe030da5cb7d0773893ebe347b0d9c97a870258ab1aa1ecf33cfc6f2feb"), looks := false }, kinds := [], alts := [], laidByText := true, laidKinds := [.data, .pinned], laidTests := true, laidLooks := .later }
def CoderBytesCardSaid : Prop := Claim7.holds Tryd.pinned (.plain (OpenSpec.ofChange coderBytesSpec)) coderBytesCard

/-- THE TIED CARD OF 'gypsumlaw04.CoderReads'. -/
def coderReadsCard : Claim7 := { stood := { row := coderReadsRow, standIns := [], harness := (true, "b825cbe030da5cb7d0773893ebe347b0d9c97a870258ab1aa1ecf33cfc6f2feb"), looks := false }, kinds := [], alts := [], laidByText := true, laidKinds := [.data, .pinned], laidTests := true, laidLooks := .later }
def CoderReadsCardSaid : Prop := Claim7.holds Tryd.pinned (.plain (OpenSpec.ofChange coderReadsSpec)) coderReadsCard

/-- THE TIED CARD OF 'gypsumlaw04.CoderBack'. -/
def coderBackCard : Claim7 := { stood := { row := coderBackRow, standIns := [], harness := (true, "b825cbe030da5cb7d0773893ebe347b0d9c97a870258ab1aa1ecf33cfc6f2feb"), looks := false }, kinds := [], alts := [], laidByText := true, laidKinds := [.data, .pinned], laidTests := true, laidLooks := .later }
def CoderBackCardSaid : Prop := Claim7.holds Tryd.pinned (.plain (OpenSpec.ofChange coderBackSpec)) coderBackCard

/-- THE TIED CARD OF 'gypsumlaw04.CoderFew'. -/
def coderFewCard : Claim7 := { stood := { row := coderFewRow, standIns := [], harness := (true, "b825cbe030da5cb7d0773893ebe347b0d9c97a870258ab1aa1ecf33cfc6f2feb"), looks := false }, kinds := [], alts := [], laidByText := true, laidKinds := [.data, .pinned], laidTests := true, laidLooks := .later }
def CoderFewCardSaid : Prop := Claim7.holds Tryd.pinned (.plain (OpenSpec.ofChange coderFewSpec)) coderFewCard

/-- THE TIED CARD OF 'gypsumlaw04.CoderGoes'. -/
def coderGoesCard : Claim7 := { stood := { row := coderGoesRow, standIns := [], harness := (true, "b825cbe030da5cb7d0773893ebe347b0d9c97a870258ab1aa1ecf33cfc6f2feb"), looks := false }, kinds := [], alts := [], laidByText := true, laidKinds := [.data, .pinned], laidTests := true, laidLooks := .later }
def CoderGoesCardSaid : Prop := Claim7.holds Tryd.pinned (.plain (OpenSpec.ofChange coderGoesSpec)) coderGoesCard

/-- THE TIED CARD OF 'gypsumlaw04.CoderAdapts'. -/
def coderAdaptsCard : Claim7 := { stood := { row := coderAdaptsRow, standIns := [], harness := (true, "b825cbe030da5cb7d0773893ebe347b0d9c97a870258ab1aa1ecf33cfc6f2feb"), looks := false }, kinds := [], alts := [], laidByText := true, laidKinds := [.data, .pinned], laidTests := true, laidLooks := .later }
def CoderAdaptsCardSaid : Prop := Claim7.holds Tryd.pinned (.plain (OpenSpec.ofChange coderAdaptsSpec)) coderAdaptsCard

/-- THE TIED CARD OF 'gypsumlaw04.CoderNone'. -/
def coderNoneCard : Claim7 := { stood := { row := coderNoneRow, standIns := [], harness := (true, "b825cbe030da5cb7d0773893ebe347b0d9c97a870258ab1aa1ecf33cfc6f2feb"), looks := false }, kinds := [], alts := [], laidByText := true, laidKinds := [.data, .pinned], laidTests := true, laidLooks := .later }
def CoderNoneCardSaid : Prop := Claim7.holds Tryd.pinned (.plain (OpenSpec.ofChange coderNoneSpec)) coderNoneCard

/-- THE SECOND FORM's CARD OF 'gypsumlaw04.CoderBytes'. -/
def coderBytesUptoCard : Claim7 := { stood := { row := coderBytesUptoRow, standIns := [], harness := (true, "b825cbe030da5cb7d0773893ebe347b0d9c97a870258ab1aa1ecf33cfc6f2feb"), looks := false }, kinds := [], alts := [], laidByText := true, laidKinds := [.data, .pinned], laidTests := true, laidLooks := .later }
def CoderBytesUptoCardSaid : Prop := Claim7.holds Tryd.pinned (.plain (OpenSpec.upto coderBytesSpec)) coderBytesUptoCard

/-- THE SECOND FORM's CARD OF 'gypsumlaw04.CoderReads'. -/
def coderReadsUptoCard : Claim7 := { stood := { row := coderReadsUptoRow, standIns := [], harness := (true, "b825cbe030da5cb7d0773893ebe347b0d9c97a870258ab1aa1ecf33cfc6f2feb"), looks := false }, kinds := [], alts := [], laidByText := true, laidKinds := [.data, .pinned], laidTests := true, laidLooks := .later }
def CoderReadsUptoCardSaid : Prop := Claim7.holds Tryd.pinned (.plain (OpenSpec.upto coderReadsSpec)) coderReadsUptoCard

/-- THE SECOND FORM's CARD OF 'gypsumlaw04.CoderBack'. -/
def coderBackUptoCard : Claim7 := { stood := { row := coderBackUptoRow, standIns := [], harness := (true, "b825cbe030da5cb7d0773893ebe347b0d9c97a870258ab1aa1ecf33cfc6f2feb"), looks := false }, kinds := [], alts := [], laidByText := true, laidKinds := [.data, .pinned], laidTests := true, laidLooks := .later }
def CoderBackUptoCardSaid : Prop := Claim7.holds Tryd.pinned (.plain (OpenSpec.upto coderBackSpec)) coderBackUptoCard

/-- THE SECOND FORM's CARD OF 'gypsumlaw04.CoderFew'. -/
def coderFewUptoCard : Claim7 := { stood := { row := coderFewUptoRow, standIns := [], harness := (true, "b825cbe030da5cb7d0773893ebe347b0d9c97a870258ab1aa1ecf33cfc6f2feb"), looks := false }, kinds := [], alts := [], laidByText := true, laidKinds := [.data, .pinned], laidTests := true, laidLooks := .later }
def CoderFewUptoCardSaid : Prop := Claim7.holds Tryd.pinned (.plain (OpenSpec.upto coderFewSpec)) coderFewUptoCard

/-- THE SECOND FORM's CARD OF 'gypsumlaw04.CoderGoes'. -/
def coderGoesUptoCard : Claim7 := { stood := { row := coderGoesUptoRow, standIns := [], harness := (true, "b825cbe030da5cb7d0773893ebe347b0d9c97a870258ab1aa1ecf33cfc6f2feb"), looks := false }, kinds := [], alts := [], laidByText := true, laidKinds := [.data, .pinned], laidTests := true, laidLooks := .later }
def CoderGoesUptoCardSaid : Prop := Claim7.holds Tryd.pinned (.plain (OpenSpec.upto coderGoesSpec)) coderGoesUptoCard

/-- THE SECOND FORM's CARD OF 'gypsumlaw04.CoderAdapts'. -/
def coderAdaptsUptoCard : Claim7 := { stood := { row := coderAdaptsUptoRow, standIns := [], harness := (true, "b825cbe030da5cb7d0773893ebe347b0d9c97a870258ab1aa1ecf33cfc6f2feb"), looks := false }, kinds := [], alts := [], laidByText := true, laidKinds := [.data, .pinned], laidTests := true, laidLooks := .later }
def CoderAdaptsUptoCardSaid : Prop := Claim7.holds Tryd.pinned (.plain (OpenSpec.upto coderAdaptsSpec)) coderAdaptsUptoCard

/-- THE SECOND FORM's CARD OF 'gypsumlaw04.CoderNone'. -/
def coderNoneUptoCard : Claim7 := { stood := { row := coderNoneUptoRow, standIns := [], harness := (true, "b825cbe030da5cb7d0773893ebe347b0d9c97a870258ab1aa1ecf33cfc6f2feb"), looks := false }, kinds := [], alts := [], laidByText := true, laidKinds := [.data, .pinned], laidTests := true, laidLooks := .later }
def CoderNoneUptoCardSaid : Prop := Claim7.holds Tryd.pinned (.plain (OpenSpec.upto coderNoneSpec)) coderNoneUptoCard
end Rows
end Go.Proofs.YtbkjfblmdilchaaDoor
