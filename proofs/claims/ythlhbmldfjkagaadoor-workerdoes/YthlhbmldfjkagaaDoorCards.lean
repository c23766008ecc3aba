/-
  DERIVED. GIVEN WITH THE SEED: THE CARDS: each row of YthlhbmldfjkagaaDoorRows.lean that lists a variable, with what it lists TIED to the program's text (the seventh form; the later family's looks); each row that meets fmt, with fmt's text TOLD by the authors' own Lean function (tested against real Go, not proved from fmt's source: count such statements apart). THE CARD IS WHAT COUNTS. Prove the row's statement (the work); the ties are given (YthlhbmldfjkagaaDoorTie.lean); close each card by the builder's one call (the guide's Derived/Test/ToyasCard.lean, 'card_holds'). Laid BY PROGRAM, IN A SANDBOX (cutbox-door.mjs). By AI agents, Wed Nov 11 2026. No macro, syntax, notation, axiom, sorry.
-/
import Derived.Test.YthlhbmldfjkagaaDoorRows
import GoSem.ClaimSeven
namespace Go.Proofs.YthlhbmldfjkagaaDoor
namespace Rows

/-- THE TIED CARD OF 'caracolelaw.CodeOne'. -/
def codeOneCard : Claim7 := { stood := { row := codeOneRow, standIns := [], harness := (true, "b7c8ecae6401699c455477c94e1726ff9016aa0f4c5bae53ee5abf0506853029"), looks := false }, kinds := [], alts := [], laidByText := true, laidKinds := [.data], laidTests := true, laidLooks := .later }
def CodeOneCardSaid : Prop := Claim7.holds Tryd.pinned (.plain (OpenSpec.ofChange codeOneSpec)) codeOneCard

/-- THE TIED CARD OF 'caracolelaw.SerialDoes'. -/
def serialDoesCard : Claim7 := { stood := { row := serialDoesRow, standIns := [], harness := (true, "b7c8ecae6401699c455477c94e1726ff9016aa0f4c5bae53ee5abf0506853029"), looks := false }, kinds := [], alts := [], laidByText := true, laidKinds := [.data], laidTests := true, laidLooks := .later }
def SerialDoesCardSaid : Prop := Claim7.holds Tryd.pinned (.plain (OpenSpec.ofChange serialDoesSpec)) serialDoesCard

/-- THE TIED CARD OF 'caracolelaw.SerialStops'. -/
def serialStopsCard : Claim7 := { stood := { row := serialStopsRow, standIns := [], harness := (true, "b7c8ecae6401699c455477c94e1726ff9016aa0f4c5bae53ee5abf0506853029"), looks := false }, kinds := [], alts := [], laidByText := true, laidKinds := [.data], laidTests := true, laidLooks := .later }
def SerialStopsCardSaid : Prop := Claim7.holds Tryd.pinned (.plain (OpenSpec.ofChange serialStopsSpec)) serialStopsCard

/-- THE TIED CARD OF 'caracolelaw.SerialParts'. -/
def serialPartsCard : Claim7 := { stood := { row := serialPartsRow, standIns := [], harness := (true, "b7c8ecae6401699c455477c94e1726ff9016aa0f4c5bae53ee5abf0506853029"), looks := false }, kinds := [], alts := [], laidByText := true, laidKinds := [.data], laidTests := true, laidLooks := .later }
def SerialPartsCardSaid : Prop := Claim7.holds Tryd.pinned (.plain (OpenSpec.ofChange serialPartsSpec)) serialPartsCard

/-- THE TIED CARD OF 'caracolelaw.SerialReads'. -/
def serialReadsCard : Claim7 := { stood := { row := serialReadsRow, standIns := [], harness := (true, "b7c8ecae6401699c455477c94e1726ff9016aa0f4c5bae53ee5abf0506853029"), looks := false }, kinds := [], alts := [], laidByText := true, laidKinds := [.data], laidTests := true, laidLooks := .later }
def SerialReadsCardSaid : Prop := Claim7.holds Tryd.pinned (.plain (OpenSpec.ofChange serialReadsSpec)) serialReadsCard

/-- THE TIED CARD OF 'caracolelaw.SerialTwice'. -/
def serialTwiceCard : Claim7 := { stood := { row := serialTwiceRow, standIns := [], harness := (true, "b7c8ecae6401699c455477c94e1726ff9016aa0f4c5bae53ee5abf0506853029"), looks := false }, kinds := [], alts := [], laidByText := true, laidKinds := [.data], laidTests := true, laidLooks := .later }
def SerialTwiceCardSaid : Prop := Claim7.holds Tryd.pinned (.plain (OpenSpec.ofChange serialTwiceSpec)) serialTwiceCard

/-- THE TIED CARD OF 'caracolelaw.TableDoes'. -/
def tableDoesCard : Claim7 := { stood := { row := tableDoesRow, standIns := [], harness := (true, "b7c8ecae6401699c455477c94e1726ff9016aa0f4c5bae53ee5abf0506853029"), looks := false }, kinds := [], alts := [], laidByText := true, laidKinds := [.data], laidTests := true, laidLooks := .later }
def TableDoesCardSaid : Prop := Claim7.holds Tryd.pinned (.plain (OpenSpec.ofChange tableDoesSpec)) tableDoesCard

/-- THE TIED CARD OF 'caracolelaw.TableOnce'. -/
def tableOnceCard : Claim7 := { stood := { row := tableOnceRow, standIns := [], harness := (true, "b7c8ecae6401699c455477c94e1726ff9016aa0f4c5bae53ee5abf0506853029"), looks := false }, kinds := [], alts := [], laidByText := true, laidKinds := [.data], laidTests := true, laidLooks := .later }
def TableOnceCardSaid : Prop := Claim7.holds Tryd.pinned (.plain (OpenSpec.ofChange tableOnceSpec)) tableOnceCard

/-- THE TIED CARD OF 'caracolelaw.TableFills'. -/
def tableFillsCard : Claim7 := { stood := { row := tableFillsRow, standIns := [], harness := (true, "b7c8ecae6401699c455477c94e1726ff9016aa0f4c5bae53ee5abf0506853029"), looks := false }, kinds := [], alts := [], laidByText := true, laidKinds := [.data], laidTests := true, laidLooks := .later }
def TableFillsCardSaid : Prop := Claim7.holds Tryd.pinned (.plain (OpenSpec.ofChange tableFillsSpec)) tableFillsCard

/-- THE TIED CARD OF 'caracolelaw.WorkerDoes'. -/
def workerDoesCard : Claim7 := { stood := { row := workerDoesRow, standIns := [], harness := (true, "b7c8ecae6401699c455477c94e1726ff9016aa0f4c5bae53ee5abf0506853029"), looks := false }, kinds := [], alts := [], laidByText := true, laidKinds := [.data], laidTests := true, laidLooks := .later }
def WorkerDoesCardSaid : Prop := Claim7.holds Tryd.pinned (.plain (OpenSpec.ofChange workerDoesSpec)) workerDoesCard

/-- THE SECOND FORM's CARD OF 'caracolelaw.CodeOne'. -/
def codeOneUptoCard : Claim7 := { stood := { row := codeOneUptoRow, standIns := [], harness := (true, "b7c8ecae6401699c455477c94e1726ff9016aa0f4c5bae53ee5abf0506853029"), looks := false }, kinds := [], alts := [], laidByText := true, laidKinds := [.data], laidTests := true, laidLooks := .later }
def CodeOneUptoCardSaid : Prop := Claim7.holds Tryd.pinned (.plain (OpenSpec.upto codeOneSpec)) codeOneUptoCard

/-- THE SECOND FORM's CARD OF 'caracolelaw.SerialDoes'. -/
def serialDoesUptoCard : Claim7 := { stood := { row := serialDoesUptoRow, standIns := [], harness := (true, "b7c8ecae6401699c455477c94e1726ff9016aa0f4c5bae53ee5abf0506853029"), looks := false }, kinds := [], alts := [], laidByText := true, laidKinds := [.data], laidTests := true, laidLooks := .later }
def SerialDoesUptoCardSaid : Prop := Claim7.holds Tryd.pinned (.plain (OpenSpec.upto serialDoesSpec)) serialDoesUptoCard

/-- THE SECOND FORM's CARD OF 'caracolelaw.SerialStops'. -/
def serialStopsUptoCard : Claim7 := { stood := { row := serialStopsUptoRow, standIns := [], harness := (true, "b7c8ecae6401699c455477c94e1726ff9016aa0f4c5bae53ee5abf0506853029"), looks := false }, kinds := [], alts := [], laidByText := true, laidKinds := [.data], laidTests := true, laidLooks := .later }
def SerialStopsUptoCardSaid : Prop := Claim7.holds Tryd.pinned (.plain (OpenSpec.upto serialStopsSpec)) serialStopsUptoCard

/-- THE SECOND FORM's CARD OF 'caracolelaw.SerialParts'. -/
def serialPartsUptoCard : Claim7 := { stood := { row := serialPartsUptoRow, standIns := [], harness := (true, "b7c8ecae6401699c455477c94e1726ff9016aa0f4c5bae53ee5abf0506853029"), looks := false }, kinds := [], alts := [], laidByText := true, laidKinds := [.data], laidTests := true, laidLooks := .later }
def SerialPartsUptoCardSaid : Prop := Claim7.holds Tryd.pinned (.plain (OpenSpec.upto serialPartsSpec)) serialPartsUptoCard

/-- THE SECOND FORM's CARD OF 'caracolelaw.SerialReads'. -/
def serialReadsUptoCard : Claim7 := { stood := { row := serialReadsUptoRow, standIns := [], harness := (true, "b7c8ecae6401699c455477c94e1726ff9016aa0f4c5bae53ee5abf0506853029"), looks := false }, kinds := [], alts := [], laidByText := true, laidKinds := [.data], laidTests := true, laidLooks := .later }
def SerialReadsUptoCardSaid : Prop := Claim7.holds Tryd.pinned (.plain (OpenSpec.upto serialReadsSpec)) serialReadsUptoCard

/-- THE SECOND FORM's CARD OF 'caracolelaw.SerialTwice'. -/
def serialTwiceUptoCard : Claim7 := { stood := { row := serialTwiceUptoRow, standIns := [], harness := (true, "b7c8ecae6401699c455477c94e1726ff9016aa0f4c5bae53ee5abf0506853029"), looks := false }, kinds := [], alts := [], laidByText := true, laidKinds := [.data], laidTests := true, laidLooks := .later }
def SerialTwiceUptoCardSaid : Prop := Claim7.holds Tryd.pinned (.plain (OpenSpec.upto serialTwiceSpec)) serialTwiceUptoCard

/-- THE SECOND FORM's CARD OF 'caracolelaw.TableDoes'. -/
def tableDoesUptoCard : Claim7 := { stood := { row := tableDoesUptoRow, standIns := [], harness := (true, "b7c8ecae6401699c455477c94e1726ff9016aa0f4c5bae53ee5abf0506853029"), looks := false }, kinds := [], alts := [], laidByText := true, laidKinds := [.data], laidTests := true, laidLooks := .later }
def TableDoesUptoCardSaid : Prop := Claim7.holds Tryd.pinned (.plain (OpenSpec.upto tableDoesSpec)) tableDoesUptoCard

/-- THE SECOND FORM's CARD OF 'caracolelaw.TableOnce'. -/
def tableOnceUptoCard : Claim7 := { stood := { row := tableOnceUptoRow, standIns := [], harness := (true, "b7c8ecae6401699c455477c94e1726ff9016aa0f4c5bae53ee5abf0506853029"), looks := false }, kinds := [], alts := [], laidByText := true, laidKinds := [.data], laidTests := true, laidLooks := .later }
def TableOnceUptoCardSaid : Prop := Claim7.holds Tryd.pinned (.plain (OpenSpec.upto tableOnceSpec)) tableOnceUptoCard

/-- THE SECOND FORM's CARD OF 'caracolelaw.TableFills'. -/
def tableFillsUptoCard : Claim7 := { stood := { row := tableFillsUptoRow, standIns := [], harness := (true, "b7c8ecae6401699c455477c94e1726ff9016aa0f4c5bae53ee5abf0506853029"), looks := false }, kinds := [], alts := [], laidByText := true, laidKinds := [.data], laidTests := true, laidLooks := .later }
def TableFillsUptoCardSaid : Prop := Claim7.holds Tryd.pinned (.plain (OpenSpec.upto tableFillsSpec)) tableFillsUptoCard

/-- THE SECOND FORM's CARD OF 'caracolelaw.WorkerDoes'. -/
def workerDoesUptoCard : Claim7 := { stood := { row := workerDoesUptoRow, standIns := [], harness := (true, "b7c8ecae6401699c455477c94e1726ff9016aa0f4c5bae53ee5abf0506853029"), looks := false }, kinds := [], alts := [], laidByText := true, laidKinds := [.data], laidTests := true, laidLooks := .later }
def WorkerDoesUptoCardSaid : Prop := Claim7.holds Tryd.pinned (.plain (OpenSpec.upto workerDoesSpec)) workerDoesUptoCard
end Rows
end Go.Proofs.YthlhbmldfjkagaaDoor
