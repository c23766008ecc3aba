/-
  DERIVED. GIVEN WITH THE SEED: THE CARDS: each row of YtokjigebjcgdjacDoorRows.lean that lists a variable, with what it lists TIED to the program's text (the seventh form; the later family's looks); each row that meets fmt, with fmt's text TOLD by the authors' own Lean function (tested against real Go, not proved from fmt's source: count such statements apart). THE CARD IS WHAT COUNTS. Prove the row's statement (the work); the ties are given (YtokjigebjcgdjacDoorTie.lean); close each card by the builder's one call (the guide's Derived/Test/ToyasCard.lean, 'card_holds'). Laid BY PROGRAM, IN A SANDBOX (cutbox-door.mjs). By AI agents, Wed Nov 11 2026. No macro, syntax, notation, axiom, sorry.
-/
import Derived.Test.YtokjigebjcgdjacDoorRows
import GoSem.ClaimSeven
namespace Go.Proofs.YtokjigebjcgdjacDoor
namespace Rows

/-- THE TIED CARD OF 'caracolelaw.CodecJoins'. -/
def codecJoinsCard : Claim7 := { stood := { row := codecJoinsRow, standIns := [], harness := (true, "362caf32456e1acaec27f80243697c6dafb3b4121c0f71aa6671801e78c0967e"), looks := true }, kinds := [], alts := [], laidByText := true, laidKinds := [.data], laidTests := true, laidLooks := .later }
def CodecJoinsCardSaid : Prop := Claim7.holds Tryd.pinned (.plain (OpenSpec.ofChange codecJoinsSpec)) codecJoinsCard

/-- THE TIED CARD OF 'caracolelaw.LogDoes'. -/
def logDoesCard : Claim7 := { stood := { row := logDoesRow, standIns := [], harness := (true, "362caf32456e1acaec27f80243697c6dafb3b4121c0f71aa6671801e78c0967e"), looks := true }, kinds := [], alts := [], laidByText := true, laidKinds := [.data], laidTests := true, laidLooks := .later }
def LogDoesCardSaid : Prop := Claim7.holds Tryd.pinned (.plain (OpenSpec.ofChange logDoesSpec)) logDoesCard

/-- THE TIED CARD OF 'caracolelaw.LogSure'. -/
def logSureCard : Claim7 := { stood := { row := logSureRow, standIns := [], harness := (true, "362caf32456e1acaec27f80243697c6dafb3b4121c0f71aa6671801e78c0967e"), looks := true }, kinds := [], alts := [], laidByText := true, laidKinds := [.data], laidTests := true, laidLooks := .later }
def LogSureCardSaid : Prop := Claim7.holds Tryd.pinned (.plain (OpenSpec.ofChange logSureSpec)) logSureCard

/-- THE TIED CARD OF 'caracolelaw.LogOpens'. -/
def logOpensCard : Claim7 := { stood := { row := logOpensRow, standIns := [], harness := (true, "362caf32456e1acaec27f80243697c6dafb3b4121c0f71aa6671801e78c0967e"), looks := true }, kinds := [], alts := [], laidByText := true, laidKinds := [.data], laidTests := true, laidLooks := .later }
def LogOpensCardSaid : Prop := Claim7.holds Tryd.pinned (.plain (OpenSpec.ofChange logOpensSpec)) logOpensCard

/-- THE TIED CARD OF 'caracolelaw.LogRefuses'. -/
def logRefusesCard : Claim7 := { stood := { row := logRefusesRow, standIns := [], harness := (true, "362caf32456e1acaec27f80243697c6dafb3b4121c0f71aa6671801e78c0967e"), looks := true }, kinds := [], alts := [], laidByText := true, laidKinds := [.data], laidTests := true, laidLooks := .later }
def LogRefusesCardSaid : Prop := Claim7.holds Tryd.pinned (.plain (OpenSpec.ofChange logRefusesSpec)) logRefusesCard

/-- THE SECOND FORM's CARD OF 'caracolelaw.CodecJoins'. -/
def codecJoinsUptoCard : Claim7 := { stood := { row := codecJoinsUptoRow, standIns := [], harness := (true, "362caf32456e1acaec27f80243697c6dafb3b4121c0f71aa6671801e78c0967e"), looks := true }, kinds := [], alts := [], laidByText := true, laidKinds := [.data], laidTests := true, laidLooks := .later }
def CodecJoinsUptoCardSaid : Prop := Claim7.holds Tryd.pinned (.plain (OpenSpec.upto codecJoinsSpec)) codecJoinsUptoCard

/-- THE SECOND FORM's CARD OF 'caracolelaw.LogDoes'. -/
def logDoesUptoCard : Claim7 := { stood := { row := logDoesUptoRow, standIns := [], harness := (true, "362caf32456e1acaec27f80243697c6dafb3b4121c0f71aa6671801e78c0967e"), looks := true }, kinds := [], alts := [], laidByText := true, laidKinds := [.data], laidTests := true, laidLooks := .later }
def LogDoesUptoCardSaid : Prop := Claim7.holds Tryd.pinned (.plain (OpenSpec.upto logDoesSpec)) logDoesUptoCard

/-- THE SECOND FORM's CARD OF 'caracolelaw.LogSure'. -/
def logSureUptoCard : Claim7 := { stood := { row := logSureUptoRow, standIns := [], harness := (true, "362caf32456e1acaec27f80243697c6dafb3b4121c0f71aa6671801e78c0967e"), looks := true }, kinds := [], alts := [], laidByText := true, laidKinds := [.data], laidTests := true, laidLooks := .later }
def LogSureUptoCardSaid : Prop := Claim7.holds Tryd.pinned (.plain (OpenSpec.upto logSureSpec)) logSureUptoCard

/-- THE SECOND FORM's CARD OF 'caracolelaw.LogOpens'. -/
def logOpensUptoCard : Claim7 := { stood := { row := logOpensUptoRow, standIns := [], harness := (true, "362caf32456e1acaec27f80243697c6dafb3b4121c0f71aa6671801e78c0967e"), looks := true }, kinds := [], alts := [], laidByText := true, laidKinds := [.data], laidTests := true, laidLooks := .later }
def LogOpensUptoCardSaid : Prop := Claim7.holds Tryd.pinned (.plain (OpenSpec.upto logOpensSpec)) logOpensUptoCard

/-- THE SECOND FORM's CARD OF 'caracolelaw.LogRefuses'. -/
def logRefusesUptoCard : Claim7 := { stood := { row := logRefusesUptoRow, standIns := [], harness := (true, "362caf32456e1acaec27f80243697c6dafb3b4121c0f71aa6671801e78c0967e"), looks := true }, kinds := [], alts := [], laidByText := true, laidKinds := [.data], laidTests := true, laidLooks := .later }
def LogRefusesUptoCardSaid : Prop := Claim7.holds Tryd.pinned (.plain (OpenSpec.upto logRefusesSpec)) logRefusesUptoCard
end Rows
end Go.Proofs.YtokjigebjcgdjacDoor
