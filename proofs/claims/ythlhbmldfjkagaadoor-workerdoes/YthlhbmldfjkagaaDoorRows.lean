/-
  NARROWER THAN 'FOR EVERY INPUT', by the rows' own cells (each row's printed sentence says how): CodeOne: laid · SerialDoes: laid · SerialStops: laid · SerialParts: laid · SerialReads: laid · SerialTwice: laid · TableDoes: laid · TableOnce: laid · TableFills: laid · WorkerDoes: laid.
  DERIVED. THE GIVEN ROWS OF THIS SEAT. 10 by the template 'for every input the law returns true; each argument reads behind the call as it read before'; 0 by the template 'total and deterministic' (their statements: YthlhbmldfjkagaaDoorTotals.lean).
  GIVEN WITH THE SEED: the statements are not yours to turn. If you find one false, say at which input.
  Laid BY PROGRAM, IN A SANDBOX (cutbox-rows.mjs): the forced cells as the released guide's own fill.sh prints them over the translation 108274461aa98451… (all of the seat's roots in one cut). By AI agents, Wed Nov 11 2026. No macro, syntax, notation, axiom, sorry.
-/
import Derived.Test.YthlhbmldfjkagaaDoorChecked
import GoSem.Claim
import GoSem.ClaimJoined
import GoSem.ClaimMapViews
import Derived.JoinedTies
import Derived.KernelRfl
namespace Go.Proofs.YthlhbmldfjkagaaDoor
/- THE CELL 'sum', in the pinned program and in every row, IS THE sha256 OF THE DUMP (.gsa) THAT YthlhbmldfjkagaaDoorProg.lean LOADS. Nothing in Lean hashes anything: it is a label: what it is worth is what the hold of that sum in a sandbox is worth. -/
noncomputable def Tryd.pinned : Pinned := { name := "ythlhbmldfjkagaadoor", sum := "108274461aa98451e936f4e5b43d6a7601766e8d3373e284f5c724c543c759cc", checked := Tryd.checked }
namespace Rows
def none {H : Type} : Left H := { results := [], args := [] }

/- WHAT THE LISTED PACKAGE-LEVEL VARIABLES READ AS WHEN THE CALL BEGINS. Each datum BY PROGRAM (the guide's laid-datum.mjs) off the statement by which the dump's own 'gosem.cut.vars' lays the variable. In a bare row this is a premise. The card (YthlhbmldfjkagaaDoorCards.lean) ties it to the program's text. -/
def laid_caracole_code_limits {H : Type} : DataW H := .agg [.agg [.lit (.int .i64 0), .lit (.int .i64 0), .lit (.int .i64 0)], .agg [.lit (.int .i64 4), .lit (.int .i64 0), .lit (.int .i64 0)], .agg [.lit (.int .i64 4), .lit (.int .i64 10), .lit (.int .i64 0)], .agg [.lit (.int .i64 4), .lit (.int .i64 4), .lit (.int .i64 4)], .agg [.lit (.int .i64 4), .lit (.int .i64 4), .lit (.int .i64 4)], .agg [.lit (.int .i64 4), .lit (.int .i64 4), .lit (.int .i64 4)], .agg [.lit (.int .i64 4), .lit (.int .i64 4), .lit (.int .i64 4)], .agg [.lit (.int .i64 10), .lit (.int .i64 4), .lit (.int .i64 0)], .agg [.lit (.int .i64 4), .lit (.int .i64 0), .lit (.int .i64 0)], .agg [.lit (.int .i64 4), .lit (.int .i64 14), .lit (.int .i64 0)]]

/-- 'caracolelaw.CodeOne': WHATEVER THE INPUT: true; the input reads as it did. -/
def codeOneSpec : ChangeSpec := { name := "codeOne", fn := fun _ => fun
  | [d1, d2] => { results := [.lit (.bool true)], args := [d1, d2] }
  | _ => none }
def codeOneRow : OpenClaim := { program := "ythlhbmldfjkagaadoor", sum := "108274461aa98451e936f4e5b43d6a7601766e8d3373e284f5c724c543c759cc", func := "caracole/caracolelaw.CodeOne", spec := "codeOne", named := ["caracole/code.limits"], apart := false, laid := [("caracole/code.limits", laid_caracole_code_limits)] }
def CodeOneSaid : Prop := codeOneRow.holds Tryd.pinned (OpenSpec.ofChange codeOneSpec)

/-- ITS FALSE NEIGHBOUR: 'it returns false'. Refute it at one input. -/
def codeOneWrong : ChangeSpec := { name := "codeOne", fn := fun _ => fun
  | [d1, d2] => { results := [.lit (.bool false)], args := [d1, d2] }
  | _ => none }
def CodeOneWrongFalsely : Prop := codeOneRow.holds Tryd.pinned (OpenSpec.ofChange codeOneWrong)

/-- 'caracolelaw.SerialDoes': WHATEVER THE INPUT: true; the input reads as it did. -/
def serialDoesSpec : ChangeSpec := { name := "serialDoes", fn := fun _ => fun
  | [d1, d2, d3, d4, d5] => { results := [.lit (.bool true)], args := [d1, d2, d3, d4, d5] }
  | _ => none }
def serialDoesRow : OpenClaim := { program := "ythlhbmldfjkagaadoor", sum := "108274461aa98451e936f4e5b43d6a7601766e8d3373e284f5c724c543c759cc", func := "caracole/caracolelaw.SerialDoes", spec := "serialDoes", named := ["caracole/code.limits"], apart := false, laid := [("caracole/code.limits", laid_caracole_code_limits)] }
def SerialDoesSaid : Prop := serialDoesRow.holds Tryd.pinned (OpenSpec.ofChange serialDoesSpec)

/-- ITS FALSE NEIGHBOUR: 'it returns false'. Refute it at one input. -/
def serialDoesWrong : ChangeSpec := { name := "serialDoes", fn := fun _ => fun
  | [d1, d2, d3, d4, d5] => { results := [.lit (.bool false)], args := [d1, d2, d3, d4, d5] }
  | _ => none }
def SerialDoesWrongFalsely : Prop := serialDoesRow.holds Tryd.pinned (OpenSpec.ofChange serialDoesWrong)

/-- 'caracolelaw.SerialStops': WHATEVER THE INPUT: true; the input reads as it did. -/
def serialStopsSpec : ChangeSpec := { name := "serialStops", fn := fun _ => fun
  | [d1, d2] => { results := [.lit (.bool true)], args := [d1, d2] }
  | _ => none }
def serialStopsRow : OpenClaim := { program := "ythlhbmldfjkagaadoor", sum := "108274461aa98451e936f4e5b43d6a7601766e8d3373e284f5c724c543c759cc", func := "caracole/caracolelaw.SerialStops", spec := "serialStops", named := ["caracole/code.limits"], apart := false, laid := [("caracole/code.limits", laid_caracole_code_limits)] }
def SerialStopsSaid : Prop := serialStopsRow.holds Tryd.pinned (OpenSpec.ofChange serialStopsSpec)

/-- ITS FALSE NEIGHBOUR: 'it returns false'. Refute it at one input. -/
def serialStopsWrong : ChangeSpec := { name := "serialStops", fn := fun _ => fun
  | [d1, d2] => { results := [.lit (.bool false)], args := [d1, d2] }
  | _ => none }
def SerialStopsWrongFalsely : Prop := serialStopsRow.holds Tryd.pinned (OpenSpec.ofChange serialStopsWrong)

/-- 'caracolelaw.SerialParts': WHATEVER THE INPUT: true; the input reads as it did. -/
def serialPartsSpec : ChangeSpec := { name := "serialParts", fn := fun _ => fun
  | [d1, d2, d3] => { results := [.lit (.bool true)], args := [d1, d2, d3] }
  | _ => none }
def serialPartsRow : OpenClaim := { program := "ythlhbmldfjkagaadoor", sum := "108274461aa98451e936f4e5b43d6a7601766e8d3373e284f5c724c543c759cc", func := "caracole/caracolelaw.SerialParts", spec := "serialParts", named := ["caracole/code.limits"], apart := false, laid := [("caracole/code.limits", laid_caracole_code_limits)] }
def SerialPartsSaid : Prop := serialPartsRow.holds Tryd.pinned (OpenSpec.ofChange serialPartsSpec)

/-- ITS FALSE NEIGHBOUR: 'it returns false'. Refute it at one input. -/
def serialPartsWrong : ChangeSpec := { name := "serialParts", fn := fun _ => fun
  | [d1, d2, d3] => { results := [.lit (.bool false)], args := [d1, d2, d3] }
  | _ => none }
def SerialPartsWrongFalsely : Prop := serialPartsRow.holds Tryd.pinned (OpenSpec.ofChange serialPartsWrong)

/-- 'caracolelaw.SerialReads': WHATEVER THE INPUT: true; the input reads as it did. -/
def serialReadsSpec : ChangeSpec := { name := "serialReads", fn := fun _ => fun
  | [d1, d2, d3] => { results := [.lit (.bool true)], args := [d1, d2, d3] }
  | _ => none }
def serialReadsRow : OpenClaim := { program := "ythlhbmldfjkagaadoor", sum := "108274461aa98451e936f4e5b43d6a7601766e8d3373e284f5c724c543c759cc", func := "caracole/caracolelaw.SerialReads", spec := "serialReads", named := ["caracole/code.limits"], apart := false, laid := [("caracole/code.limits", laid_caracole_code_limits)] }
def SerialReadsSaid : Prop := serialReadsRow.holds Tryd.pinned (OpenSpec.ofChange serialReadsSpec)

/-- ITS FALSE NEIGHBOUR: 'it returns false'. Refute it at one input. -/
def serialReadsWrong : ChangeSpec := { name := "serialReads", fn := fun _ => fun
  | [d1, d2, d3] => { results := [.lit (.bool false)], args := [d1, d2, d3] }
  | _ => none }
def SerialReadsWrongFalsely : Prop := serialReadsRow.holds Tryd.pinned (OpenSpec.ofChange serialReadsWrong)

/-- 'caracolelaw.SerialTwice': WHATEVER THE INPUT: true; the input reads as it did. -/
def serialTwiceSpec : ChangeSpec := { name := "serialTwice", fn := fun _ => fun
  | [d1, d2] => { results := [.lit (.bool true)], args := [d1, d2] }
  | _ => none }
def serialTwiceRow : OpenClaim := { program := "ythlhbmldfjkagaadoor", sum := "108274461aa98451e936f4e5b43d6a7601766e8d3373e284f5c724c543c759cc", func := "caracole/caracolelaw.SerialTwice", spec := "serialTwice", named := ["caracole/code.limits"], apart := false, laid := [("caracole/code.limits", laid_caracole_code_limits)] }
def SerialTwiceSaid : Prop := serialTwiceRow.holds Tryd.pinned (OpenSpec.ofChange serialTwiceSpec)

/-- ITS FALSE NEIGHBOUR: 'it returns false'. Refute it at one input. -/
def serialTwiceWrong : ChangeSpec := { name := "serialTwice", fn := fun _ => fun
  | [d1, d2] => { results := [.lit (.bool false)], args := [d1, d2] }
  | _ => none }
def SerialTwiceWrongFalsely : Prop := serialTwiceRow.holds Tryd.pinned (OpenSpec.ofChange serialTwiceWrong)

/-- 'caracolelaw.TableDoes': WHATEVER THE INPUT: true; the input reads as it did. -/
def tableDoesSpec : ChangeSpec := { name := "tableDoes", fn := fun _ => fun
  | [d1, d2, d3, d4, d5] => { results := [.lit (.bool true)], args := [d1, d2, d3, d4, d5] }
  | _ => none }
def tableDoesRow : OpenClaim := { program := "ythlhbmldfjkagaadoor", sum := "108274461aa98451e936f4e5b43d6a7601766e8d3373e284f5c724c543c759cc", func := "caracole/caracolelaw.TableDoes", spec := "tableDoes", unfollowed := true, recurses := true, named := ["caracole/code.limits"], apart := false, laid := [("caracole/code.limits", laid_caracole_code_limits)] }
def TableDoesSaid : Prop := tableDoesRow.holds Tryd.pinned (OpenSpec.ofChange tableDoesSpec)

/-- ITS FALSE NEIGHBOUR: 'it returns false'. Refute it at one input. -/
def tableDoesWrong : ChangeSpec := { name := "tableDoes", fn := fun _ => fun
  | [d1, d2, d3, d4, d5] => { results := [.lit (.bool false)], args := [d1, d2, d3, d4, d5] }
  | _ => none }
def TableDoesWrongFalsely : Prop := tableDoesRow.holds Tryd.pinned (OpenSpec.ofChange tableDoesWrong)

/-- 'caracolelaw.TableOnce': WHATEVER THE INPUT: true; the input reads as it did. -/
def tableOnceSpec : ChangeSpec := { name := "tableOnce", fn := fun _ => fun
  | [d1, d2, d3, d4, d5] => { results := [.lit (.bool true)], args := [d1, d2, d3, d4, d5] }
  | _ => none }
def tableOnceRow : OpenClaim := { program := "ythlhbmldfjkagaadoor", sum := "108274461aa98451e936f4e5b43d6a7601766e8d3373e284f5c724c543c759cc", func := "caracole/caracolelaw.TableOnce", spec := "tableOnce", unfollowed := true, recurses := true, named := ["caracole/code.limits"], apart := false, laid := [("caracole/code.limits", laid_caracole_code_limits)] }
def TableOnceSaid : Prop := tableOnceRow.holds Tryd.pinned (OpenSpec.ofChange tableOnceSpec)

/-- ITS FALSE NEIGHBOUR: 'it returns false'. Refute it at one input. -/
def tableOnceWrong : ChangeSpec := { name := "tableOnce", fn := fun _ => fun
  | [d1, d2, d3, d4, d5] => { results := [.lit (.bool false)], args := [d1, d2, d3, d4, d5] }
  | _ => none }
def TableOnceWrongFalsely : Prop := tableOnceRow.holds Tryd.pinned (OpenSpec.ofChange tableOnceWrong)

/-- 'caracolelaw.TableFills': WHATEVER THE INPUT: true; the input reads as it did. -/
def tableFillsSpec : ChangeSpec := { name := "tableFills", fn := fun _ => fun
  | [d1, d2, d3] => { results := [.lit (.bool true)], args := [d1, d2, d3] }
  | _ => none }
def tableFillsRow : OpenClaim := { program := "ythlhbmldfjkagaadoor", sum := "108274461aa98451e936f4e5b43d6a7601766e8d3373e284f5c724c543c759cc", func := "caracole/caracolelaw.TableFills", spec := "tableFills", unfollowed := true, recurses := true, named := ["caracole/code.limits"], apart := false, laid := [("caracole/code.limits", laid_caracole_code_limits)] }
def TableFillsSaid : Prop := tableFillsRow.holds Tryd.pinned (OpenSpec.ofChange tableFillsSpec)

/-- ITS FALSE NEIGHBOUR: 'it returns false'. Refute it at one input. -/
def tableFillsWrong : ChangeSpec := { name := "tableFills", fn := fun _ => fun
  | [d1, d2, d3] => { results := [.lit (.bool false)], args := [d1, d2, d3] }
  | _ => none }
def TableFillsWrongFalsely : Prop := tableFillsRow.holds Tryd.pinned (OpenSpec.ofChange tableFillsWrong)

/-- 'caracolelaw.WorkerDoes': WHATEVER THE INPUT: true; the input reads as it did. -/
def workerDoesSpec : ChangeSpec := { name := "workerDoes", fn := fun _ => fun
  | [d1, d2, d3, d4] => { results := [.lit (.bool true)], args := [d1, d2, d3, d4] }
  | _ => none }
def workerDoesRow : OpenClaim := { program := "ythlhbmldfjkagaadoor", sum := "108274461aa98451e936f4e5b43d6a7601766e8d3373e284f5c724c543c759cc", func := "caracole/caracolelaw.WorkerDoes", spec := "workerDoes", unfollowed := true, recurses := true, named := ["caracole/code.limits"], apart := false, laid := [("caracole/code.limits", laid_caracole_code_limits)] }
def WorkerDoesSaid : Prop := workerDoesRow.holds Tryd.pinned (OpenSpec.ofChange workerDoesSpec)

/-- ITS FALSE NEIGHBOUR: 'it returns false'. Refute it at one input. -/
def workerDoesWrong : ChangeSpec := { name := "workerDoes", fn := fun _ => fun
  | [d1, d2, d3, d4] => { results := [.lit (.bool false)], args := [d1, d2, d3, d4] }
  | _ => none }
def WorkerDoesWrongFalsely : Prop := workerDoesRow.holds Tryd.pinned (OpenSpec.ofChange workerDoesWrong)

/- THE SECOND FORM. 'bulk': how many values and letters a reading holds, each counted each time it is reached (what is shared counts as often as it is met; a slice's spare places count too). A statement '..UptoSaid' is the law's where the arguments, and the package variables that the reading takes, are together of bulk at most 1048576: NARROWER than '..Said'. Prove '..Said' where nothing that the law and all that it calls make is longer than what came in: it says more and counts as full. Else prove '..UptoSaid'. A law counts once. -/
mutual
def uptoBulk {H : Type} : DataW H → Nat
  | .lit (.string bytes) => bytes.length + 1
  | .lit _ => 1
  | .nil => 1
  | .ptr d => uptoBulk d + 1
  | .slice elems spare => uptoBulkAll elems + uptoBulkAll spare + 1
  | .agg parts => uptoBulkAll parts + 1
  | .iface _ d => uptoBulk d + 1
  | .map entries => uptoBulkEntries entries + 1
  | .held _ => 1
def uptoBulkAll {H : Type} : List (DataW H) → Nat
  | [] => 0
  | d :: r => uptoBulk d + uptoBulkAll r
def uptoBulkEntries {H : Type} : List (Lit × DataW H) → Nat
  | [] => 0
  | x :: r => uptoBulkEntry x + uptoBulkEntries r
def uptoBulkEntry {H : Type} : Lit × DataW H → Nat
  | (.string bytes, d) => bytes.length + uptoBulk d + 1
  | (_, d) => uptoBulk d + 1
 end
def uptoSmall : (H : Type) → List (DataW H) → Bool := fun _ ds => decide (uptoBulkAll ds ≤ 1048576)
def OpenSpec.upto (s : _root_.Go.ChangeSpec) : _root_.Go.OpenSpec := { _root_.Go.OpenSpec.ofChange s with cond := some uptoSmall }

/-- 'caracolelaw.CodeOne', WHERE WHAT IT READS IS OF BULK AT MOST 1048576: true; the input reads as it did. -/
def codeOneUptoRow : OpenClaim := { program := "ythlhbmldfjkagaadoor", sum := "108274461aa98451e936f4e5b43d6a7601766e8d3373e284f5c724c543c759cc", func := "caracole/caracolelaw.CodeOne", spec := "codeOne", named := ["caracole/code.limits"], apart := false, laid := [("caracole/code.limits", laid_caracole_code_limits)], narrowed := true }
def CodeOneUptoSaid : Prop := codeOneUptoRow.holds Tryd.pinned (OpenSpec.upto codeOneSpec)

/-- 'caracolelaw.SerialDoes', WHERE WHAT IT READS IS OF BULK AT MOST 1048576: true; the input reads as it did. -/
def serialDoesUptoRow : OpenClaim := { program := "ythlhbmldfjkagaadoor", sum := "108274461aa98451e936f4e5b43d6a7601766e8d3373e284f5c724c543c759cc", func := "caracole/caracolelaw.SerialDoes", spec := "serialDoes", named := ["caracole/code.limits"], apart := false, laid := [("caracole/code.limits", laid_caracole_code_limits)], narrowed := true }
def SerialDoesUptoSaid : Prop := serialDoesUptoRow.holds Tryd.pinned (OpenSpec.upto serialDoesSpec)

/-- 'caracolelaw.SerialStops', WHERE WHAT IT READS IS OF BULK AT MOST 1048576: true; the input reads as it did. -/
def serialStopsUptoRow : OpenClaim := { program := "ythlhbmldfjkagaadoor", sum := "108274461aa98451e936f4e5b43d6a7601766e8d3373e284f5c724c543c759cc", func := "caracole/caracolelaw.SerialStops", spec := "serialStops", named := ["caracole/code.limits"], apart := false, laid := [("caracole/code.limits", laid_caracole_code_limits)], narrowed := true }
def SerialStopsUptoSaid : Prop := serialStopsUptoRow.holds Tryd.pinned (OpenSpec.upto serialStopsSpec)

/-- 'caracolelaw.SerialParts', WHERE WHAT IT READS IS OF BULK AT MOST 1048576: true; the input reads as it did. -/
def serialPartsUptoRow : OpenClaim := { program := "ythlhbmldfjkagaadoor", sum := "108274461aa98451e936f4e5b43d6a7601766e8d3373e284f5c724c543c759cc", func := "caracole/caracolelaw.SerialParts", spec := "serialParts", named := ["caracole/code.limits"], apart := false, laid := [("caracole/code.limits", laid_caracole_code_limits)], narrowed := true }
def SerialPartsUptoSaid : Prop := serialPartsUptoRow.holds Tryd.pinned (OpenSpec.upto serialPartsSpec)

/-- 'caracolelaw.SerialReads', WHERE WHAT IT READS IS OF BULK AT MOST 1048576: true; the input reads as it did. -/
def serialReadsUptoRow : OpenClaim := { program := "ythlhbmldfjkagaadoor", sum := "108274461aa98451e936f4e5b43d6a7601766e8d3373e284f5c724c543c759cc", func := "caracole/caracolelaw.SerialReads", spec := "serialReads", named := ["caracole/code.limits"], apart := false, laid := [("caracole/code.limits", laid_caracole_code_limits)], narrowed := true }
def SerialReadsUptoSaid : Prop := serialReadsUptoRow.holds Tryd.pinned (OpenSpec.upto serialReadsSpec)

/-- 'caracolelaw.SerialTwice', WHERE WHAT IT READS IS OF BULK AT MOST 1048576: true; the input reads as it did. -/
def serialTwiceUptoRow : OpenClaim := { program := "ythlhbmldfjkagaadoor", sum := "108274461aa98451e936f4e5b43d6a7601766e8d3373e284f5c724c543c759cc", func := "caracole/caracolelaw.SerialTwice", spec := "serialTwice", named := ["caracole/code.limits"], apart := false, laid := [("caracole/code.limits", laid_caracole_code_limits)], narrowed := true }
def SerialTwiceUptoSaid : Prop := serialTwiceUptoRow.holds Tryd.pinned (OpenSpec.upto serialTwiceSpec)

/-- 'caracolelaw.TableDoes', WHERE WHAT IT READS IS OF BULK AT MOST 1048576: true; the input reads as it did. -/
def tableDoesUptoRow : OpenClaim := { program := "ythlhbmldfjkagaadoor", sum := "108274461aa98451e936f4e5b43d6a7601766e8d3373e284f5c724c543c759cc", func := "caracole/caracolelaw.TableDoes", spec := "tableDoes", unfollowed := true, recurses := true, named := ["caracole/code.limits"], apart := false, laid := [("caracole/code.limits", laid_caracole_code_limits)], narrowed := true }
def TableDoesUptoSaid : Prop := tableDoesUptoRow.holds Tryd.pinned (OpenSpec.upto tableDoesSpec)

/-- 'caracolelaw.TableOnce', WHERE WHAT IT READS IS OF BULK AT MOST 1048576: true; the input reads as it did. -/
def tableOnceUptoRow : OpenClaim := { program := "ythlhbmldfjkagaadoor", sum := "108274461aa98451e936f4e5b43d6a7601766e8d3373e284f5c724c543c759cc", func := "caracole/caracolelaw.TableOnce", spec := "tableOnce", unfollowed := true, recurses := true, named := ["caracole/code.limits"], apart := false, laid := [("caracole/code.limits", laid_caracole_code_limits)], narrowed := true }
def TableOnceUptoSaid : Prop := tableOnceUptoRow.holds Tryd.pinned (OpenSpec.upto tableOnceSpec)

/-- 'caracolelaw.TableFills', WHERE WHAT IT READS IS OF BULK AT MOST 1048576: true; the input reads as it did. -/
def tableFillsUptoRow : OpenClaim := { program := "ythlhbmldfjkagaadoor", sum := "108274461aa98451e936f4e5b43d6a7601766e8d3373e284f5c724c543c759cc", func := "caracole/caracolelaw.TableFills", spec := "tableFills", unfollowed := true, recurses := true, named := ["caracole/code.limits"], apart := false, laid := [("caracole/code.limits", laid_caracole_code_limits)], narrowed := true }
def TableFillsUptoSaid : Prop := tableFillsUptoRow.holds Tryd.pinned (OpenSpec.upto tableFillsSpec)

/-- 'caracolelaw.WorkerDoes', WHERE WHAT IT READS IS OF BULK AT MOST 1048576: true; the input reads as it did. -/
def workerDoesUptoRow : OpenClaim := { program := "ythlhbmldfjkagaadoor", sum := "108274461aa98451e936f4e5b43d6a7601766e8d3373e284f5c724c543c759cc", func := "caracole/caracolelaw.WorkerDoes", spec := "workerDoes", unfollowed := true, recurses := true, named := ["caracole/code.limits"], apart := false, laid := [("caracole/code.limits", laid_caracole_code_limits)], narrowed := true }
def WorkerDoesUptoSaid : Prop := workerDoesUptoRow.holds Tryd.pinned (OpenSpec.upto workerDoesSpec)

end Rows
end Go.Proofs.YthlhbmldfjkagaaDoor
