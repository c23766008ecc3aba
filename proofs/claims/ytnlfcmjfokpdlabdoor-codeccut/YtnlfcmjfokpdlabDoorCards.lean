/-
  DERIVED. GIVEN WITH THE SEED: THE CARDS: each row of YtnlfcmjfokpdlabDoorRows.lean that lists a variable, with what it lists TIED to the program's text (the seventh form; the later family's looks); each row that meets fmt, with fmt's text TOLD by the authors' own Lean function (tested against real Go, not proved from fmt's source: count such statements apart). THE CARD IS WHAT COUNTS. Prove the row's statement (the work); the ties are given (YtnlfcmjfokpdlabDoorTie.lean); close each card by the builder's one call (the guide's Derived/Test/ToyasCard.lean, 'card_holds'). Laid BY PROGRAM, IN A SANDBOX (cutbox-door.mjs). By AI agents, Wed Nov 11 2026. No macro, syntax, notation, axiom, sorry.
-/
import Derived.Test.YtnlfcmjfokpdlabDoorRows
import GoSem.ClaimSeven
namespace Go.Proofs.YtnlfcmjfokpdlabDoor
namespace Rows

/-- THE TIED CARD OF 'caracolelaw.WorkerWaits'. -/
def workerWaitsCard : Claim7 := { stood := { row := workerWaitsRow, standIns := [], harness := (true, "64f8c6019f032dc35ec60b3fa5f7577b3365fca25d699b7906ed1bc11f1ba650"), looks := true }, kinds := [], alts := [], laidByText := true, laidKinds := [.data], laidTests := true, laidLooks := .later }
def WorkerWaitsCardSaid : Prop := Claim7.holds Tryd.pinned (.plain (OpenSpec.ofChange workerWaitsSpec)) workerWaitsCard

/-- THE TIED CARD OF 'caracolelaw.WorkerAlone'. -/
def workerAloneCard : Claim7 := { stood := { row := workerAloneRow, standIns := [], harness := (true, "64f8c6019f032dc35ec60b3fa5f7577b3365fca25d699b7906ed1bc11f1ba650"), looks := true }, kinds := [], alts := [], laidByText := true, laidKinds := [.data], laidTests := true, laidLooks := .later }
def WorkerAloneCardSaid : Prop := Claim7.holds Tryd.pinned (.plain (OpenSpec.ofChange workerAloneSpec)) workerAloneCard

/-- THE TIED CARD OF 'caracolelaw.WorkerOver'. -/
def workerOverCard : Claim7 := { stood := { row := workerOverRow, standIns := [], harness := (true, "64f8c6019f032dc35ec60b3fa5f7577b3365fca25d699b7906ed1bc11f1ba650"), looks := true }, kinds := [], alts := [], laidByText := true, laidKinds := [.data], laidTests := true, laidLooks := .later }
def WorkerOverCardSaid : Prop := Claim7.holds Tryd.pinned (.plain (OpenSpec.ofChange workerOverSpec)) workerOverCard

/-- THE TIED CARD OF 'caracolelaw.RoundSame'. -/
def roundSameCard : Claim7 := { stood := { row := roundSameRow, standIns := [], harness := (true, "64f8c6019f032dc35ec60b3fa5f7577b3365fca25d699b7906ed1bc11f1ba650"), looks := true }, kinds := [], alts := [], laidByText := true, laidKinds := [.data], laidTests := true, laidLooks := .later }
def RoundSameCardSaid : Prop := Claim7.holds Tryd.pinned (.plain (OpenSpec.ofChange roundSameSpec)) roundSameCard

/-- THE TIED CARD OF 'caracolelaw.RoundDoes'. -/
def roundDoesCard : Claim7 := { stood := { row := roundDoesRow, standIns := [], harness := (true, "64f8c6019f032dc35ec60b3fa5f7577b3365fca25d699b7906ed1bc11f1ba650"), looks := true }, kinds := [], alts := [], laidByText := true, laidKinds := [.data], laidTests := true, laidLooks := .later }
def RoundDoesCardSaid : Prop := Claim7.holds Tryd.pinned (.plain (OpenSpec.ofChange roundDoesSpec)) roundDoesCard

/-- THE TIED CARD OF 'caracolelaw.RoundGoes'. -/
def roundGoesCard : Claim7 := { stood := { row := roundGoesRow, standIns := [], harness := (true, "64f8c6019f032dc35ec60b3fa5f7577b3365fca25d699b7906ed1bc11f1ba650"), looks := true }, kinds := [], alts := [], laidByText := true, laidKinds := [.data], laidTests := true, laidLooks := .later }
def RoundGoesCardSaid : Prop := Claim7.holds Tryd.pinned (.plain (OpenSpec.ofChange roundGoesSpec)) roundGoesCard

/-- THE TIED CARD OF 'caracolelaw.RoundLast'. -/
def roundLastCard : Claim7 := { stood := { row := roundLastRow, standIns := [], harness := (true, "64f8c6019f032dc35ec60b3fa5f7577b3365fca25d699b7906ed1bc11f1ba650"), looks := true }, kinds := [], alts := [], laidByText := true, laidKinds := [.data], laidTests := true, laidLooks := .later }
def RoundLastCardSaid : Prop := Claim7.holds Tryd.pinned (.plain (OpenSpec.ofChange roundLastSpec)) roundLastCard

/-- THE TIED CARD OF 'caracolelaw.RoundApart'. -/
def roundApartCard : Claim7 := { stood := { row := roundApartRow, standIns := [], harness := (true, "64f8c6019f032dc35ec60b3fa5f7577b3365fca25d699b7906ed1bc11f1ba650"), looks := true }, kinds := [], alts := [], laidByText := true, laidKinds := [.data], laidTests := true, laidLooks := .later }
def RoundApartCardSaid : Prop := Claim7.holds Tryd.pinned (.plain (OpenSpec.ofChange roundApartSpec)) roundApartCard

/-- THE TIED CARD OF 'caracolelaw.RoundOver'. -/
def roundOverCard : Claim7 := { stood := { row := roundOverRow, standIns := [], harness := (true, "64f8c6019f032dc35ec60b3fa5f7577b3365fca25d699b7906ed1bc11f1ba650"), looks := true }, kinds := [], alts := [], laidByText := true, laidKinds := [.data], laidTests := true, laidLooks := .later }
def RoundOverCardSaid : Prop := Claim7.holds Tryd.pinned (.plain (OpenSpec.ofChange roundOverSpec)) roundOverCard

/-- THE TIED CARD OF 'caracolelaw.CodecDoes'. -/
def codecDoesCard : Claim7 := { stood := { row := codecDoesRow, standIns := [], harness := (true, "64f8c6019f032dc35ec60b3fa5f7577b3365fca25d699b7906ed1bc11f1ba650"), looks := true }, kinds := [], alts := [], laidByText := true, laidKinds := [.data], laidTests := true, laidLooks := .later }
def CodecDoesCardSaid : Prop := Claim7.holds Tryd.pinned (.plain (OpenSpec.ofChange codecDoesSpec)) codecDoesCard

/-- THE TIED CARD OF 'caracolelaw.CodecBack'. -/
def codecBackCard : Claim7 := { stood := { row := codecBackRow, standIns := [], harness := (true, "64f8c6019f032dc35ec60b3fa5f7577b3365fca25d699b7906ed1bc11f1ba650"), looks := true }, kinds := [], alts := [], laidByText := true, laidKinds := [.data], laidTests := true, laidLooks := .later }
def CodecBackCardSaid : Prop := Claim7.holds Tryd.pinned (.plain (OpenSpec.ofChange codecBackSpec)) codecBackCard

/-- THE TIED CARD OF 'caracolelaw.CodecCut'. -/
def codecCutCard : Claim7 := { stood := { row := codecCutRow, standIns := [], harness := (true, "64f8c6019f032dc35ec60b3fa5f7577b3365fca25d699b7906ed1bc11f1ba650"), looks := true }, kinds := [], alts := [], laidByText := true, laidKinds := [.data], laidTests := true, laidLooks := .later }
def CodecCutCardSaid : Prop := Claim7.holds Tryd.pinned (.plain (OpenSpec.ofChange codecCutSpec)) codecCutCard

/-- THE SECOND FORM's CARD OF 'caracolelaw.WorkerWaits'. -/
def workerWaitsUptoCard : Claim7 := { stood := { row := workerWaitsUptoRow, standIns := [], harness := (true, "64f8c6019f032dc35ec60b3fa5f7577b3365fca25d699b7906ed1bc11f1ba650"), looks := true }, kinds := [], alts := [], laidByText := true, laidKinds := [.data], laidTests := true, laidLooks := .later }
def WorkerWaitsUptoCardSaid : Prop := Claim7.holds Tryd.pinned (.plain (OpenSpec.upto workerWaitsSpec)) workerWaitsUptoCard

/-- THE SECOND FORM's CARD OF 'caracolelaw.WorkerAlone'. -/
def workerAloneUptoCard : Claim7 := { stood := { row := workerAloneUptoRow, standIns := [], harness := (true, "64f8c6019f032dc35ec60b3fa5f7577b3365fca25d699b7906ed1bc11f1ba650"), looks := true }, kinds := [], alts := [], laidByText := true, laidKinds := [.data], laidTests := true, laidLooks := .later }
def WorkerAloneUptoCardSaid : Prop := Claim7.holds Tryd.pinned (.plain (OpenSpec.upto workerAloneSpec)) workerAloneUptoCard

/-- THE SECOND FORM's CARD OF 'caracolelaw.WorkerOver'. -/
def workerOverUptoCard : Claim7 := { stood := { row := workerOverUptoRow, standIns := [], harness := (true, "64f8c6019f032dc35ec60b3fa5f7577b3365fca25d699b7906ed1bc11f1ba650"), looks := true }, kinds := [], alts := [], laidByText := true, laidKinds := [.data], laidTests := true, laidLooks := .later }
def WorkerOverUptoCardSaid : Prop := Claim7.holds Tryd.pinned (.plain (OpenSpec.upto workerOverSpec)) workerOverUptoCard

/-- THE SECOND FORM's CARD OF 'caracolelaw.RoundSame'. -/
def roundSameUptoCard : Claim7 := { stood := { row := roundSameUptoRow, standIns := [], harness := (true, "64f8c6019f032dc35ec60b3fa5f7577b3365fca25d699b7906ed1bc11f1ba650"), looks := true }, kinds := [], alts := [], laidByText := true, laidKinds := [.data], laidTests := true, laidLooks := .later }
def RoundSameUptoCardSaid : Prop := Claim7.holds Tryd.pinned (.plain (OpenSpec.upto roundSameSpec)) roundSameUptoCard

/-- THE SECOND FORM's CARD OF 'caracolelaw.RoundDoes'. -/
def roundDoesUptoCard : Claim7 := { stood := { row := roundDoesUptoRow, standIns := [], harness := (true, "64f8c6019f032dc35ec60b3fa5f7577b3365fca25d699b7906ed1bc11f1ba650"), looks := true }, kinds := [], alts := [], laidByText := true, laidKinds := [.data], laidTests := true, laidLooks := .later }
def RoundDoesUptoCardSaid : Prop := Claim7.holds Tryd.pinned (.plain (OpenSpec.upto roundDoesSpec)) roundDoesUptoCard

/-- THE SECOND FORM's CARD OF 'caracolelaw.RoundGoes'. -/
def roundGoesUptoCard : Claim7 := { stood := { row := roundGoesUptoRow, standIns := [], harness := (true, "64f8c6019f032dc35ec60b3fa5f7577b3365fca25d699b7906ed1bc11f1ba650"), looks := true }, kinds := [], alts := [], laidByText := true, laidKinds := [.data], laidTests := true, laidLooks := .later }
def RoundGoesUptoCardSaid : Prop := Claim7.holds Tryd.pinned (.plain (OpenSpec.upto roundGoesSpec)) roundGoesUptoCard

/-- THE SECOND FORM's CARD OF 'caracolelaw.RoundLast'. -/
def roundLastUptoCard : Claim7 := { stood := { row := roundLastUptoRow, standIns := [], harness := (true, "64f8c6019f032dc35ec60b3fa5f7577b3365fca25d699b7906ed1bc11f1ba650"), looks := true }, kinds := [], alts := [], laidByText := true, laidKinds := [.data], laidTests := true, laidLooks := .later }
def RoundLastUptoCardSaid : Prop := Claim7.holds Tryd.pinned (.plain (OpenSpec.upto roundLastSpec)) roundLastUptoCard

/-- THE SECOND FORM's CARD OF 'caracolelaw.RoundApart'. -/
def roundApartUptoCard : Claim7 := { stood := { row := roundApartUptoRow, standIns := [], harness := (true, "64f8c6019f032dc35ec60b3fa5f7577b3365fca25d699b7906ed1bc11f1ba650"), looks := true }, kinds := [], alts := [], laidByText := true, laidKinds := [.data], laidTests := true, laidLooks := .later }
def RoundApartUptoCardSaid : Prop := Claim7.holds Tryd.pinned (.plain (OpenSpec.upto roundApartSpec)) roundApartUptoCard

/-- THE SECOND FORM's CARD OF 'caracolelaw.RoundOver'. -/
def roundOverUptoCard : Claim7 := { stood := { row := roundOverUptoRow, standIns := [], harness := (true, "64f8c6019f032dc35ec60b3fa5f7577b3365fca25d699b7906ed1bc11f1ba650"), looks := true }, kinds := [], alts := [], laidByText := true, laidKinds := [.data], laidTests := true, laidLooks := .later }
def RoundOverUptoCardSaid : Prop := Claim7.holds Tryd.pinned (.plain (OpenSpec.upto roundOverSpec)) roundOverUptoCard

/-- THE SECOND FORM's CARD OF 'caracolelaw.CodecDoes'. -/
def codecDoesUptoCard : Claim7 := { stood := { row := codecDoesUptoRow, standIns := [], harness := (true, "64f8c6019f032dc35ec60b3fa5f7577b3365fca25d699b7906ed1bc11f1ba650"), looks := true }, kinds := [], alts := [], laidByText := true, laidKinds := [.data], laidTests := true, laidLooks := .later }
def CodecDoesUptoCardSaid : Prop := Claim7.holds Tryd.pinned (.plain (OpenSpec.upto codecDoesSpec)) codecDoesUptoCard

/-- THE SECOND FORM's CARD OF 'caracolelaw.CodecBack'. -/
def codecBackUptoCard : Claim7 := { stood := { row := codecBackUptoRow, standIns := [], harness := (true, "64f8c6019f032dc35ec60b3fa5f7577b3365fca25d699b7906ed1bc11f1ba650"), looks := true }, kinds := [], alts := [], laidByText := true, laidKinds := [.data], laidTests := true, laidLooks := .later }
def CodecBackUptoCardSaid : Prop := Claim7.holds Tryd.pinned (.plain (OpenSpec.upto codecBackSpec)) codecBackUptoCard

/-- THE SECOND FORM's CARD OF 'caracolelaw.CodecCut'. -/
def codecCutUptoCard : Claim7 := { stood := { row := codecCutUptoRow, standIns := [], harness := (true, "64f8c6019f032dc35ec60b3fa5f7577b3365fca25d699b7906ed1bc11f1ba650"), looks := true }, kinds := [], alts := [], laidByText := true, laidKinds := [.data], laidTests := true, laidLooks := .later }
def CodecCutUptoCardSaid : Prop := Claim7.holds Tryd.pinned (.plain (OpenSpec.upto codecCutSpec)) codecCutUptoCard
end Rows
end Go.Proofs.YtnlfcmjfokpdlabDoor
