/-
  DERIVED. GIVEN WITH THE SEED: THE CARDS: each row of YtjkffknipbddoabDoorRows.lean that lists a variable, with what it lists TIED to the program's text (the seventh form; the later family's looks); each row that meets fmt, with fmt's text TOLD by the authors' own Lean function (tested against real Go, not proved from fmt's source: count such statements apart). THE CARD IS WHAT COUNTS. Prove the row's statement (the work); the ties are given (YtjkffknipbddoabDoorTie.lean); close each card by the builder's one call (the guide's Derived/Test/ToyasCard.lean, 'card_holds'). Laid BY PROGRAM, IN A SANDBOX (cutbox-door.mjs). By AI agents, Wed Nov 11 2026. No macro, syntax, notation, axiom, sorry.
-/
import Derived.Test.YtjkffknipbddoabDoorRows
import GoSem.ClaimSeven
namespace Go.Proofs.YtjkffknipbddoabDoor
namespace Rows

/-- THE TIED CARD OF 'caracolelaw.WorkerWaits'. -/
def workerWaitsCard : Claim7 := { stood := { row := workerWaitsRow, standIns := [], harness := (true, "a81abcfdb5866860b672670e85f650278f6587264f9e76c2642d6f9618f17718"), looks := false }, kinds := [], alts := [], laidByText := true, laidKinds := [.data], laidTests := true, laidLooks := .later }
def WorkerWaitsCardSaid : Prop := Claim7.holds Tryd.pinned (.plain (OpenSpec.ofChange workerWaitsSpec)) workerWaitsCard

/-- THE TIED CARD OF 'caracolelaw.WorkerAlone'. -/
def workerAloneCard : Claim7 := { stood := { row := workerAloneRow, standIns := [], harness := (true, "a81abcfdb5866860b672670e85f650278f6587264f9e76c2642d6f9618f17718"), looks := false }, kinds := [], alts := [], laidByText := true, laidKinds := [.data], laidTests := true, laidLooks := .later }
def WorkerAloneCardSaid : Prop := Claim7.holds Tryd.pinned (.plain (OpenSpec.ofChange workerAloneSpec)) workerAloneCard

/-- THE TIED CARD OF 'caracolelaw.WorkerOver'. -/
def workerOverCard : Claim7 := { stood := { row := workerOverRow, standIns := [], harness := (true, "a81abcfdb5866860b672670e85f650278f6587264f9e76c2642d6f9618f17718"), looks := false }, kinds := [], alts := [], laidByText := true, laidKinds := [.data], laidTests := true, laidLooks := .later }
def WorkerOverCardSaid : Prop := Claim7.holds Tryd.pinned (.plain (OpenSpec.ofChange workerOverSpec)) workerOverCard

/-- THE SECOND FORM's CARD OF 'caracolelaw.WorkerWaits'. -/
def workerWaitsUptoCard : Claim7 := { stood := { row := workerWaitsUptoRow, standIns := [], harness := (true, "a81abcfdb5866860b672670e85f650278f6587264f9e76c2642d6f9618f17718"), looks := false }, kinds := [], alts := [], laidByText := true, laidKinds := [.data], laidTests := true, laidLooks := .later }
def WorkerWaitsUptoCardSaid : Prop := Claim7.holds Tryd.pinned (.plain (OpenSpec.upto workerWaitsSpec)) workerWaitsUptoCard

/-- THE SECOND FORM's CARD OF 'caracolelaw.WorkerAlone'. -/
def workerAloneUptoCard : Claim7 := { stood := { row := workerAloneUptoRow, standIns := [], harness := (true, "a81abcfdb5866860b672670e85f650278f6587264f9e76c2642d6f9618f17718"), looks := false }, kinds := [], alts := [], laidByText := true, laidKinds := [.data], laidTests := true, laidLooks := .later }
def WorkerAloneUptoCardSaid : Prop := Claim7.holds Tryd.pinned (.plain (OpenSpec.upto workerAloneSpec)) workerAloneUptoCard

/-- THE SECOND FORM's CARD OF 'caracolelaw.WorkerOver'. -/
def workerOverUptoCard : Claim7 := { stood := { row := workerOverUptoRow, standIns := [], harness := (true, "a81abcfdb5866860b672670e85f650278f6587264f9e76c2642d6f9618f17718"), looks := false }, kinds := [], alts := [], laidByText := true, laidKinds := [.data], laidTests := true, laidLooks := .later }
def WorkerOverUptoCardSaid : Prop := Claim7.holds Tryd.pinned (.plain (OpenSpec.upto workerOverSpec)) workerOverUptoCard
end Rows
end Go.Proofs.YtjkffknipbddoabDoor
