/-
  DERIVED. GIVEN WITH THE SEED: THE CARDS: each row of YtjbfgajognnmiaaDoorRows.lean that lists a variable, with what it lists TIED to the program's text (the seventh form; the later family's looks); each row that meets fmt, with fmt's text TOLD by the authors' own Lean function (tested against real Go, not proved from fmt's source: count such statements apart). THE CARD IS WHAT COUNTS. Prove the row's statement (the work); the ties are given (YtjbfgajognnmiaaDoorTie.lean); close each card by the builder's one call (the guide's Derived/Test/ToyasCard.lean, 'card_holds'). Laid BY PROGRAM, IN A SANDBOX (cutbox-door.mjs). By AI agents, Wed Nov 11 2026. No macro, syntax, notation, axiom, sorry.
-/
import Derived.Test.YtjbfgajognnmiaaDoorRows
import GoSem.ClaimSeven
namespace Go.Proofs.YtjbfgajognnmiaaDoor
namespace Rows

/-- THE TIED CARD OF 'gypsumlaw05.ModelEncodes'. -/
def modelEncodesCard : Claim7 := { stood := { row := modelEncodesRow, standIns := [], harness := (true, "67086590bf53e3825c19384b0bc70640154571a1247de59166eeadb53a372a8e"), looks := false }, kinds := [], alts := [], laidByText := true, laidKinds := [.data, .pinned], laidTests := true, laidLooks := .later }
def ModelEncodesCardSaid : Prop := Claim7.holds Tryd.pinned (.plain (OpenSpec.ofChange modelEncodesSpec)) modelEncodesCard

/-- THE TIED CARD OF 'gypsumlaw05.ModelBack'. -/
def modelBackCard : Claim7 := { stood := { row := modelBackRow, standIns := [], harness := (true, "67086590bf53e3825c19384b0bc70640154571a1247de59166eeadb53a372a8e"), looks := false }, kinds := [], alts := [], laidByText := true, laidKinds := [.data, .pinned], laidTests := true, laidLooks := .later }
def ModelBackCardSaid : Prop := Claim7.holds Tryd.pinned (.plain (OpenSpec.ofChange modelBackSpec)) modelBackCard

/-- THE TIED CARD OF 'gypsumlaw05.ModelOne'. -/
def modelOneCard : Claim7 := { stood := { row := modelOneRow, standIns := [], harness := (true, "67086590bf53e3825c19384b0bc70640154571a1247de59166eeadb53a372a8e"), looks := false }, kinds := [], alts := [], laidByText := true, laidKinds := [.data, .pinned], laidTests := true, laidLooks := .later }
def ModelOneCardSaid : Prop := Claim7.holds Tryd.pinned (.plain (OpenSpec.ofChange modelOneSpec)) modelOneCard

/-- THE TIED CARD OF 'gypsumlaw05.ModelPlain'. -/
def modelPlainCard : Claim7 := { stood := { row := modelPlainRow, standIns := [], harness := (true, "67086590bf53e3825c19384b0bc70640154571a1247de59166eeadb53a372a8e"), looks := false }, kinds := [], alts := [], laidByText := true, laidKinds := [.data, .pinned], laidTests := true, laidLooks := .later }
def ModelPlainCardSaid : Prop := Claim7.holds Tryd.pinned (.plain (OpenSpec.ofChange modelPlainSpec)) modelPlainCard

/-- THE TIED CARD OF 'gypsumlaw05.ModelSame'. -/
def modelSameCard : Claim7 := { stood := { row := modelSameRow, standIns := [], harness := (true, "67086590bf53e3825c19384b0bc70640154571a1247de59166eeadb53a372a8e"), looks := false }, kinds := [], alts := [], laidByText := true, laidKinds := [.data, .pinned], laidTests := true, laidLooks := .later }
def ModelSameCardSaid : Prop := Claim7.holds Tryd.pinned (.plain (OpenSpec.ofChange modelSameSpec)) modelSameCard

/-- THE TIED CARD OF 'gypsumlaw05.ModelContexts'. -/
def modelContextsCard : Claim7 := { stood := { row := modelContextsRow, standIns := [], harness := (true, "67086590bf53e3825c19384b0bc70640154571a1247de59166eeadb53a372a8e"), looks := false }, kinds := [], alts := [], laidByText := true, laidKinds := [.data, .pinned], laidTests := true, laidLooks := .later }
def ModelContextsCardSaid : Prop := Claim7.holds Tryd.pinned (.plain (OpenSpec.ofChange modelContextsSpec)) modelContextsCard

/-- THE TIED CARD OF 'gypsumlaw05.ModelNone'. -/
def modelNoneCard : Claim7 := { stood := { row := modelNoneRow, standIns := [], harness := (true, "67086590bf53e3825c19384b0bc70640154571a1247de59166eeadb53a372a8e"), looks := false }, kinds := [], alts := [], laidByText := true, laidKinds := [.data, .pinned], laidTests := true, laidLooks := .later }
def ModelNoneCardSaid : Prop := Claim7.holds Tryd.pinned (.plain (OpenSpec.ofChange modelNoneSpec)) modelNoneCard

/-- THE SECOND FORM's CARD OF 'gypsumlaw05.ModelEncodes'. -/
def modelEncodesUptoCard : Claim7 := { stood := { row := modelEncodesUptoRow, standIns := [], harness := (true, "67086590bf53e3825c19384b0bc70640154571a1247de59166eeadb53a372a8e"), looks := false }, kinds := [], alts := [], laidByText := true, laidKinds := [.data, .pinned], laidTests := true, laidLooks := .later }
def ModelEncodesUptoCardSaid : Prop := Claim7.holds Tryd.pinned (.plain (OpenSpec.upto modelEncodesSpec)) modelEncodesUptoCard

/-- THE SECOND FORM's CARD OF 'gypsumlaw05.ModelBack'. -/
def modelBackUptoCard : Claim7 := { stood := { row := modelBackUptoRow, standIns := [], harness := (true, "67086590bf53e3825c19384b0bc70640154571a1247de59166eeadb53a372a8e"), looks := false }, kinds := [], alts := [], laidByText := true, laidKinds := [.data, .pinned], laidTests := true, laidLooks := .later }
def ModelBackUptoCardSaid : Prop := Claim7.holds Tryd.pinned (.plain (OpenSpec.upto modelBackSpec)) modelBackUptoCard

/-- THE SECOND FORM's CARD OF 'gypsumlaw05.ModelOne'. -/
def modelOneUptoCard : Claim7 := { stood := { row := modelOneUptoRow, standIns := [], harness := (true, "67086590bf53e3825c19384b0bc70640154571a1247de59166eeadb53a372a8e"), looks := false }, kinds := [], alts := [], laidByText := true, laidKinds := [.data, .pinned], laidTests := true, laidLooks := .later }
def ModelOneUptoCardSaid : Prop := Claim7.holds Tryd.pinned (.plain (OpenSpec.upto modelOneSpec)) modelOneUptoCard

/-- THE SECOND FORM's CARD OF 'gypsumlaw05.ModelPlain'. -/
def modelPlainUptoCard : Claim7 := { stood := { row := modelPlainUptoRow, standIns := [], harness := (true, "67086590bf53e3825c19384b0bc70640154571a1247de59166eeadb53a372a8e"), looks := false }, kinds := [], alts := [], laidByText := true, laidKinds := [.data, .pinned], laidTests := true, laidLooks := .later }
def ModelPlainUptoCardSaid : Prop := Claim7.holds Tryd.pinned (.plain (OpenSpec.upto modelPlainSpec)) modelPlainUptoCard

/-- THE SECOND FORM's CARD OF 'gypsumlaw05.ModelSame'. -/
def modelSameUptoCard : Claim7 := { stood := { row := modelSameUptoRow, standIns := [], harness := (true, "67086590bf53e3825c19384b0bc70640154571a1247de59166eeadb53a372a8e"), looks := false }, kinds := [], alts := [], laidByText := true, laidKinds := [.data, .pinned], laidTests := true, laidLooks := .later }
def ModelSameUptoCardSaid : Prop := Claim7.holds Tryd.pinned (.plain (OpenSpec.upto modelSameSpec)) modelSameUptoCard

/-- THE SECOND FORM's CARD OF 'gypsumlaw05.ModelContexts'. -/
def modelContextsUptoCard : Claim7 := { stood := { row := modelContextsUptoRow, standIns := [], harness := (true, "67086590bf53e3825c19384b0bc70640154571a1247de59166eeadb53a372a8e"), looks := false }, kinds := [], alts := [], laidByText := true, laidKinds := [.data, .pinned], laidTests := true, laidLooks := .later }
def ModelContextsUptoCardSaid : Prop := Claim7.holds Tryd.pinned (.plain (OpenSpec.upto modelContextsSpec)) modelContextsUptoCard

/-- THE SECOND FORM's CARD OF 'gypsumlaw05.ModelNone'. -/
def modelNoneUptoCard : Claim7 := { stood := { row := modelNoneUptoRow, standIns := [], harness := (true, "67086590bf53e3825c19384b0bc70640154571a1247de59166eeadb53a372a8e"), looks := false }, kinds := [], alts := [], laidByText := true, laidKinds := [.data, .pinned], laidTests := true, laidLooks := .later }
def ModelNoneUptoCardSaid : Prop := Claim7.holds Tryd.pinned (.plain (OpenSpec.upto modelNoneSpec)) modelNoneUptoCard
end Rows
end Go.Proofs.YtjbfgajognnmiaaDoor
