/-
  DERIVED. GIVEN WITH THE SEED: THE CARDS: each row of YtdohockbmphhfacDoorRows.lean that lists a variable, with what it lists TIED to the program's text (the seventh form; the later family's looks); each row that meets fmt, with fmt's text TOLD by the authors' own Lean function (tested against real Go, not proved from fmt's source: count such statements apart). THE CARD IS WHAT COUNTS. Prove the row's statement (the work); the ties are given (YtdohockbmphhfacDoorTie.lean); close each card by the builder's one call (the guide's Derived/Test/ToyasCard.lean, 'card_holds'). Laid BY PROGRAM, IN A SANDBOX (cutbox-door.mjs). By AI agents, Wed Nov 11 2026. No macro, syntax, notation, axiom, sorry.
-/
import Derived.Test.YtdohockbmphhfacDoorRows
import GoSem.ClaimSeven
namespace Go.Proofs.YtdohockbmphhfacDoor
namespace Rows

/-- THE TIED CARD OF 'caracolelaw.CodecJoins'. -/
def codecJoinsCard : Claim7 := { stood := { row := codecJoinsRow, standIns := [], harness := (true, "725c16a3824ebca5a7e5293e799c12b7e60bfeec923e5ab3c761f6a984889681"), looks := true }, kinds := [], alts := [], laidByText := true, laidKinds := [.data], laidTests := true, laidLooks := .later }
def CodecJoinsCardSaid : Prop := Claim7.holds Tryd.pinned (.plain (OpenSpec.ofChange codecJoinsSpec)) codecJoinsCard

/-- THE TIED CARD OF 'caracolelaw.LogDoes'. -/
def logDoesCard : Claim7 := { stood := { row := logDoesRow, standIns := [], harness := (true, "725c16a3824ebca5a7e5293e799c12b7e60bfeec923e5ab3c761f6a984889681"), looks := true }, kinds := [], alts := [], laidByText := true, laidKinds := [.data], laidTests := true, laidLooks := .later }
def LogDoesCardSaid : Prop := Claim7.holds Tryd.pinned (.plain (OpenSpec.ofChange logDoesSpec)) logDoesCard

/-- THE TIED CARD OF 'caracolelaw.LogSure'. -/
def logSureCard : Claim7 := { stood := { row := logSureRow, standIns := [], harness := (true, "725c16a3824ebca5a7e5293e799c12b7e60bfeec923e5ab3c761f6a984889681"), looks := true }, kinds := [], alts := [], laidByText := true, laidKinds := [.data], laidTests := true, laidLooks := .later }
def LogSureCardSaid : Prop := Claim7.holds Tryd.pinned (.plain (OpenSpec.ofChange logSureSpec)) logSureCard

/-- THE TIED CARD OF 'caracolelaw.LogOpens'. -/
def logOpensCard : Claim7 := { stood := { row := logOpensRow, standIns := [], harness := (true, "725c16a3824ebca5a7e5293e799c12b7e60bfeec923e5ab3c761f6a984889681"), looks := true }, kinds := [], alts := [], laidByText := true, laidKinds := [.data], laidTests := true, laidLooks := .later }
def LogOpensCardSaid : Prop := Claim7.holds Tryd.pinned (.plain (OpenSpec.ofChange logOpensSpec)) logOpensCard

/-- THE TIED CARD OF 'caracolelaw.LogRefuses'. -/
def logRefusesCard : Claim7 := { stood := { row := logRefusesRow, standIns := [], harness := (true, "725c16a3824ebca5a7e5293e799c12b7e60bfeec923e5ab3c761f6a984889681"), looks := true }, kinds := [], alts := [], laidByText := true, laidKinds := [.data], laidTests := true, laidLooks := .later }
def LogRefusesCardSaid : Prop := Claim7.holds Tryd.pinned (.plain (OpenSpec.ofChange logRefusesSpec)) logRefusesCard

/-- THE TIED CARD OF 'caracolelaw.StoreDoes'. -/
def storeDoesCard : Claim7 := { stood := { row := storeDoesRow, standIns := [], harness := (true, "725c16a3824ebca5a7e5293e799c12b7e60bfeec923e5ab3c761f6a984889681"), looks := true }, kinds := [], alts := [], laidByText := true, laidKinds := [.data], laidTests := true, laidLooks := .later }
def StoreDoesCardSaid : Prop := Claim7.holds Tryd.pinned (.plain (OpenSpec.ofChange storeDoesSpec)) storeDoesCard

/-- THE TIED CARD OF 'caracolelaw.StoreStays'. -/
def storeStaysCard : Claim7 := { stood := { row := storeStaysRow, standIns := [], harness := (true, "725c16a3824ebca5a7e5293e799c12b7e60bfeec923e5ab3c761f6a984889681"), looks := true }, kinds := [], alts := [], laidByText := true, laidKinds := [.data], laidTests := true, laidLooks := .later }
def StoreStaysCardSaid : Prop := Claim7.holds Tryd.pinned (.plain (OpenSpec.ofChange storeStaysSpec)) storeStaysCard

/-- THE TIED CARD OF 'caracolelaw.StorePicks'. -/
def storePicksCard : Claim7 := { stood := { row := storePicksRow, standIns := [], harness := (true, "725c16a3824ebca5a7e5293e799c12b7e60bfeec923e5ab3c761f6a984889681"), looks := true }, kinds := [], alts := [], laidByText := true, laidKinds := [.data], laidTests := true, laidLooks := .later }
def StorePicksCardSaid : Prop := Claim7.holds Tryd.pinned (.plain (OpenSpec.ofChange storePicksSpec)) storePicksCard

/-- THE TIED CARD OF 'caracolelaw.StoreCrash'. -/
def storeCrashCard : Claim7 := { stood := { row := storeCrashRow, standIns := [], harness := (true, "725c16a3824ebca5a7e5293e799c12b7e60bfeec923e5ab3c761f6a984889681"), looks := true }, kinds := [], alts := [], laidByText := true, laidKinds := [.data], laidTests := true, laidLooks := .later }
def StoreCrashCardSaid : Prop := Claim7.holds Tryd.pinned (.plain (OpenSpec.ofChange storeCrashSpec)) storeCrashCard

/-- THE TIED CARD OF 'caracolelaw.StoreRefuses'. -/
def storeRefusesCard : Claim7 := { stood := { row := storeRefusesRow, standIns := [], harness := (true, "725c16a3824ebca5a7e5293e799c12b7e60bfeec923e5ab3c761f6a984889681"), looks := true }, kinds := [], alts := [], laidByText := true, laidKinds := [.data], laidTests := true, laidLooks := .later }
def StoreRefusesCardSaid : Prop := Claim7.holds Tryd.pinned (.plain (OpenSpec.ofChange storeRefusesSpec)) storeRefusesCard

/-- THE TIED CARD OF 'caracolelaw.TextDoes'. -/
def textDoesCard : Claim7 := { stood := { row := textDoesRow, standIns := [], harness := (true, "725c16a3824ebca5a7e5293e799c12b7e60bfeec923e5ab3c761f6a984889681"), looks := true }, kinds := [], alts := [], laidByText := true, laidKinds := [.data, .data, .data, .data, .sentinel, .sentinel, .data, .data, .data], laidTests := true, laidLooks := .later }
def TextDoesCardSaid : Prop := Claim7.holds Tryd.pinned (.plain (OpenSpec.ofChange textDoesSpec)) textDoesCard

/-- THE TIED CARD OF 'caracolelaw.TextBack'. -/
def textBackCard : Claim7 := { stood := { row := textBackRow, standIns := [], harness := (true, "725c16a3824ebca5a7e5293e799c12b7e60bfeec923e5ab3c761f6a984889681"), looks := true }, kinds := [], alts := [], laidByText := true, laidKinds := [.data, .data, .data, .data, .sentinel, .sentinel, .data], laidTests := true, laidLooks := .later }
def TextBackCardSaid : Prop := Claim7.holds Tryd.pinned (.plain (OpenSpec.ofChange textBackSpec)) textBackCard

/-- THE SECOND FORM's CARD OF 'caracolelaw.CodecJoins'. -/
def codecJoinsUptoCard : Claim7 := { stood := { row := codecJoinsUptoRow, standIns := [], harness := (true, "725c16a3824ebca5a7e5293e799c12b7e60bfeec923e5ab3c761f6a984889681"), looks := true }, kinds := [], alts := [], laidByText := true, laidKinds := [.data], laidTests := true, laidLooks := .later }
def CodecJoinsUptoCardSaid : Prop := Claim7.holds Tryd.pinned (.plain (OpenSpec.upto codecJoinsSpec)) codecJoinsUptoCard

/-- THE SECOND FORM's CARD OF 'caracolelaw.LogDoes'. -/
def logDoesUptoCard : Claim7 := { stood := { row := logDoesUptoRow, standIns := [], harness := (true, "725c16a3824ebca5a7e5293e799c12b7e60bfeec923e5ab3c761f6a984889681"), looks := true }, kinds := [], alts := [], laidByText := true, laidKinds := [.data], laidTests := true, laidLooks := .later }
def LogDoesUptoCardSaid : Prop := Claim7.holds Tryd.pinned (.plain (OpenSpec.upto logDoesSpec)) logDoesUptoCard

/-- THE SECOND FORM's CARD OF 'caracolelaw.LogSure'. -/
def logSureUptoCard : Claim7 := { stood := { row := logSureUptoRow, standIns := [], harness := (true, "725c16a3824ebca5a7e5293e799c12b7e60bfeec923e5ab3c761f6a984889681"), looks := true }, kinds := [], alts := [], laidByText := true, laidKinds := [.data], laidTests := true, laidLooks := .later }
def LogSureUptoCardSaid : Prop := Claim7.holds Tryd.pinned (.plain (OpenSpec.upto logSureSpec)) logSureUptoCard

/-- THE SECOND FORM's CARD OF 'caracolelaw.LogOpens'. -/
def logOpensUptoCard : Claim7 := { stood := { row := logOpensUptoRow, standIns := [], harness := (true, "725c16a3824ebca5a7e5293e799c12b7e60bfeec923e5ab3c761f6a984889681"), looks := true }, kinds := [], alts := [], laidByText := true, laidKinds := [.data], laidTests := true, laidLooks := .later }
def LogOpensUptoCardSaid : Prop := Claim7.holds Tryd.pinned (.plain (OpenSpec.upto logOpensSpec)) logOpensUptoCard

/-- THE SECOND FORM's CARD OF 'caracolelaw.LogRefuses'. -/
def logRefusesUptoCard : Claim7 := { stood := { row := logRefusesUptoRow, standIns := [], harness := (true, "725c16a3824ebca5a7e5293e799c12b7e60bfeec923e5ab3c761f6a984889681"), looks := true }, kinds := [], alts := [], laidByText := true, laidKinds := [.data], laidTests := true, laidLooks := .later }
def LogRefusesUptoCardSaid : Prop := Claim7.holds Tryd.pinned (.plain (OpenSpec.upto logRefusesSpec)) logRefusesUptoCard

/-- THE SECOND FORM's CARD OF 'caracolelaw.StoreDoes'. -/
def storeDoesUptoCard : Claim7 := { stood := { row := storeDoesUptoRow, standIns := [], harness := (true, "725c16a3824ebca5a7e5293e799c12b7e60bfeec923e5ab3c761f6a984889681"), looks := true }, kinds := [], alts := [], laidByText := true, laidKinds := [.data], laidTests := true, laidLooks := .later }
def StoreDoesUptoCardSaid : Prop := Claim7.holds Tryd.pinned (.plain (OpenSpec.upto storeDoesSpec)) storeDoesUptoCard

/-- THE SECOND FORM's CARD OF 'caracolelaw.StoreStays'. -/
def storeStaysUptoCard : Claim7 := { stood := { row := storeStaysUptoRow, standIns := [], harness := (true, "725c16a3824ebca5a7e5293e799c12b7e60bfeec923e5ab3c761f6a984889681"), looks := true }, kinds := [], alts := [], laidByText := true, laidKinds := [.data], laidTests := true, laidLooks := .later }
def StoreStaysUptoCardSaid : Prop := Claim7.holds Tryd.pinned (.plain (OpenSpec.upto storeStaysSpec)) storeStaysUptoCard

/-- THE SECOND FORM's CARD OF 'caracolelaw.StorePicks'. -/
def storePicksUptoCard : Claim7 := { stood := { row := storePicksUptoRow, standIns := [], harness := (true, "725c16a3824ebca5a7e5293e799c12b7e60bfeec923e5ab3c761f6a984889681"), looks := true }, kinds := [], alts := [], laidByText := true, laidKinds := [.data], laidTests := true, laidLooks := .later }
def StorePicksUptoCardSaid : Prop := Claim7.holds Tryd.pinned (.plain (OpenSpec.upto storePicksSpec)) storePicksUptoCard

/-- THE SECOND FORM's CARD OF 'caracolelaw.StoreCrash'. -/
def storeCrashUptoCard : Claim7 := { stood := { row := storeCrashUptoRow, standIns := [], harness := (true, "725c16a3824ebca5a7e5293e799c12b7e60bfeec923e5ab3c761f6a984889681"), looks := true }, kinds := [], alts := [], laidByText := true, laidKinds := [.data], laidTests := true, laidLooks := .later }
def StoreCrashUptoCardSaid : Prop := Claim7.holds Tryd.pinned (.plain (OpenSpec.upto storeCrashSpec)) storeCrashUptoCard

/-- THE SECOND FORM's CARD OF 'caracolelaw.StoreRefuses'. -/
def storeRefusesUptoCard : Claim7 := { stood := { row := storeRefusesUptoRow, standIns := [], harness := (true, "725c16a3824ebca5a7e5293e799c12b7e60bfeec923e5ab3c761f6a984889681"), looks := true }, kinds := [], alts := [], laidByText := true, laidKinds := [.data], laidTests := true, laidLooks := .later }
def StoreRefusesUptoCardSaid : Prop := Claim7.holds Tryd.pinned (.plain (OpenSpec.upto storeRefusesSpec)) storeRefusesUptoCard

/-- THE SECOND FORM's CARD OF 'caracolelaw.TextDoes'. -/
def textDoesUptoCard : Claim7 := { stood := { row := textDoesUptoRow, standIns := [], harness := (true, "725c16a3824ebca5a7e5293e799c12b7e60bfeec923e5ab3c761f6a984889681"), looks := true }, kinds := [], alts := [], laidByText := true, laidKinds := [.data, .data, .data, .data, .sentinel, .sentinel, .data, .data, .data], laidTests := true, laidLooks := .later }
def TextDoesUptoCardSaid : Prop := Claim7.holds Tryd.pinned (.plain (OpenSpec.upto textDoesSpec)) textDoesUptoCard

/-- THE SECOND FORM's CARD OF 'caracolelaw.TextBack'. -/
def textBackUptoCard : Claim7 := { stood := { row := textBackUptoRow, standIns := [], harness := (true, "725c16a3824ebca5a7e5293e799c12b7e60bfeec923e5ab3c761f6a984889681"), looks := true }, kinds := [], alts := [], laidByText := true, laidKinds := [.data, .data, .data, .data, .sentinel, .sentinel, .data], laidTests := true, laidLooks := .later }
def TextBackUptoCardSaid : Prop := Claim7.holds Tryd.pinned (.plain (OpenSpec.upto textBackSpec)) textBackUptoCard
end Rows
end Go.Proofs.YtdohockbmphhfacDoor
