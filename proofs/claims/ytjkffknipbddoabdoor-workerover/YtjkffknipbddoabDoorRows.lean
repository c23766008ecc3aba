/-
  NARROWER THAN 'FOR EVERY INPUT', by the rows' own cells (each row's printed sentence says how): WorkerWaits: laid · WorkerAlone: laid · WorkerOver: laid.
  DERIVED. THE GIVEN ROWS OF THIS SEAT. 3 by the template 'for every input the law returns true; each argument reads behind the call as it read before'; 0 by the template 'total and deterministic' (their statements: YtjkffknipbddoabDoorTotals.lean).
  GIVEN WITH THE SEED: the statements are not yours to turn. If you find one false, say at which input.
  Laid BY PROGRAM, IN A SANDBOX (cutbox-rows.mjs): the forced cells as the released guide's own fill.sh prints them over the translation 2d17493b0fc0cef3… (all of the seat's roots in one cut). By AI agents, Wed Nov 11 2026. No macro, syntax, notation, axiom, sorry.
-/
import Derived.Test.YtjkffknipbddoabDoorChecked
import GoSem.Claim
import GoSem.ClaimJoined
import GoSem.ClaimMapViews
import Derived.JoinedTies
import Derived.KernelRfl
namespace Go.Proofs.YtjkffknipbddoabDoor
/- THE CELL 'sum', in the pinned program and in every row, IS THE sha256 OF THE DUMP (.gsa) THAT YtjkffknipbddoabDoorProg.lean LOADS. Nothing in Lean hashes anything: it is a label: what it is worth is what the hold of that sum in a sandbox is worth. -/
noncomputable def Tryd.pinned : Pinned := { name := "ytjkffknipbddoabdoor", sum := "2d17493b0fc0cef35eb6bbddde76bd6343bf055cbd53ac20156645260164442d", checked := Tryd.checked }
namespace Rows
def none {H : Type} : Left H := { results := [], args := [] }

/- WHAT THE LISTED PACKAGE-LEVEL VARIABLES READ AS WHEN THE CALL BEGINS. Each datum BY PROGRAM (the guide's laid-datum.mjs) off the statement by which the dump's own 'gosem.cut.vars' lays the variable. In a bare row this is a premise. The card (YtjkffknipbddoabDoorCards.lean) ties it to the program's text. -/
def laid_caracole_code_limits {H : Type} : DataW H := .agg [.agg [.lit (.int .i64 0), .lit (.int .i64 0), .lit (.int .i64 0)], .agg [.lit (.int .i64 4), .lit (.int .i64 0), .lit (.int .i64 0)], .agg [.lit (.int .i64 4), .lit (.int .i64 10), .lit (.int .i64 0)], .agg [.lit (.int .i64 4), .lit (.int .i64 4), .lit (.int .i64 4)], .agg [.lit (.int .i64 4), .lit (.int .i64 4), .lit (.int .i64 4)], .agg [.lit (.int .i64 4), .lit (.int .i64 4), .lit (.int .i64 4)], .agg [.lit (.int .i64 4), .lit (.int .i64 4), .lit (.int .i64 4)], .agg [.lit (.int .i64 10), .lit (.int .i64 4), .lit (.int .i64 0)], .agg [.lit (.int .i64 4), .lit (.int .i64 0), .lit (.int .i64 0)], .agg [.lit (.int .i64 4), .lit (.int .i64 14), .lit (.int .i64 0)]]

/-- 'caracolelaw.WorkerWaits': WHATEVER THE INPUT: true; the input reads as it did. -/
def workerWaitsSpec : ChangeSpec := { name := "workerWaits", fn := fun _ => fun
  | [d1, d2, d3] => { results := [.lit (.bool true)], args := [d1, d2, d3] }
  | _ => none }
def workerWaitsRow : OpenClaim := { program := "ytjkffknipbddoabdoor", sum := "2d17493b0fc0cef35eb6bbddde76bd6343bf055cbd53ac20156645260164442d", func := "caracole/caracolelaw.WorkerWaits", spec := "workerWaits", unfollowed := true, recurses := true, named := ["caracole/code.limits"], apart := false, laid := [("caracole/code.limits", laid_caracole_code_limits)] }
def WorkerWaitsSaid : Prop := workerWaitsRow.holds Tryd.pinned (OpenSpec.ofChange workerWaitsSpec)

/-- ITS FALSE NEIGHBOUR: 'it returns false'. Refute it at one input. -/
def workerWaitsWrong : ChangeSpec := { name := "workerWaits", fn := fun _ => fun
  | [d1, d2, d3] => { results := [.lit (.bool false)], args := [d1, d2, d3] }
  | _ => none }
def WorkerWaitsWrongFalsely : Prop := workerWaitsRow.holds Tryd.pinned (OpenSpec.ofChange workerWaitsWrong)

/-- 'caracolelaw.WorkerAlone': WHATEVER THE INPUT: true; the input reads as it did. -/
def workerAloneSpec : ChangeSpec := { name := "workerAlone", fn := fun _ => fun
  | [d1, d2] => { results := [.lit (.bool true)], args := [d1, d2] }
  | _ => none }
def workerAloneRow : OpenClaim := { program := "ytjkffknipbddoabdoor", sum := "2d17493b0fc0cef35eb6bbddde76bd6343bf055cbd53ac20156645260164442d", func := "caracole/caracolelaw.WorkerAlone", spec := "workerAlone", unfollowed := true, recurses := true, named := ["caracole/code.limits"], apart := false, laid := [("caracole/code.limits", laid_caracole_code_limits)] }
def WorkerAloneSaid : Prop := workerAloneRow.holds Tryd.pinned (OpenSpec.ofChange workerAloneSpec)

/-- ITS FALSE NEIGHBOUR: 'it returns false'. Refute it at one input. -/
def workerAloneWrong : ChangeSpec := { name := "workerAlone", fn := fun _ => fun
  | [d1, d2] => { results := [.lit (.bool false)], args := [d1, d2] }
  | _ => none }
def WorkerAloneWrongFalsely : Prop := workerAloneRow.holds Tryd.pinned (OpenSpec.ofChange workerAloneWrong)

/-- 'caracolelaw.WorkerOver': WHATEVER THE INPUT: true; the input reads as it did. -/
def workerOverSpec : ChangeSpec := { name := "workerOver", fn := fun _ => fun
  | [d1, d2, d3] => { results := [.lit (.bool true)], args := [d1, d2, d3] }
  | _ => none }
def workerOverRow : OpenClaim := { program := "ytjkffknipbddoabdoor", sum := "2d17493b0fc0cef35eb6bbddde76bd6343bf055cbd53ac20156645260164442d", func := "caracole/caracolelaw.WorkerOver", spec := "workerOver", unfollowed := true, recurses := true, named := ["caracole/code.limits"], apart := false, laid := [("caracole/code.limits", laid_caracole_code_limits)] }
def WorkerOverSaid : Prop := workerOverRow.holds Tryd.pinned (OpenSpec.ofChange workerOverSpec)

/-- ITS FALSE NEIGHBOUR: 'it returns false'. Refute it at one input. -/
def workerOverWrong : ChangeSpec := { name := "workerOver", fn := fun _ => fun
  | [d1, d2, d3] => { results := [.lit (.bool false)], args := [d1, d2, d3] }
  | _ => none }
def WorkerOverWrongFalsely : Prop := workerOverRow.holds Tryd.pinned (OpenSpec.ofChange workerOverWrong)

/- THE SECOND FORM. 'bulk': how many values and letters a reading holds, each counted each time it is reached (what is shared counts as often as it is met; a slice's spare places count too). A statement '..UptoSaid' is the law's where the arguments, and the package variables that the reading takes, are together of bulk at most 1048576: NARROWER than '..Said'. Prove '..Said' where nothing that the law and all that it calls make is longer than what came in: it says more and counts as full. Else prove '..UptoSaid'. A law counts once. -/
mutual
def uptoBulk {H : Type} : DataW H → Nat
  | .lit (.string bytes) => bytes.length + 1
  | .lit _ => 1
  | .nil => 1
  | .ptr d => uptoBulk d + 1
  | .slice elems spare => uptoBulkAll elems + uptoBulkAll spare + 1
  | .agg parts => uptoBulkAll parts + 1
  | .iface _ d => uptoBulk d + 1
  | .map entries => uptoBulkEntries entries + 1
  | .held _ => 1
def uptoBulkAll {H : Type} : List (DataW H) → Nat
  | [] => 0
  | d :: r => uptoBulk d + uptoBulkAll r
def uptoBulkEntries {H : Type} : List (Lit × DataW H) → Nat
  | [] => 0
  | x :: r => uptoBulkEntry x + uptoBulkEntries r
def uptoBulkEntry {H : Type} : Lit × DataW H → Nat
  | (.string bytes, d) => bytes.length + uptoBulk d + 1
  | (_, d) => uptoBulk d + 1
 end
def uptoSmall : (H : Type) → List (DataW H) → Bool := fun _ ds => decide (uptoBulkAll ds ≤ 1048576)
def OpenSpec.upto (s : _root_.Go.ChangeSpec) : _root_.Go.OpenSpec := { _root_.Go.OpenSpec.ofChange s with cond := some uptoSmall }

/-- 'caracolelaw.WorkerWaits', WHERE WHAT IT READS IS OF BULK AT MOST 1048576: true; the input reads as it did. -/
def workerWaitsUptoRow : OpenClaim := { program := "ytjkffknipbddoabdoor", sum := "2d17493b0fc0cef35eb6bbddde76bd6343bf055cbd53ac20156645260164442d", func := "caracole/caracolelaw.WorkerWaits", spec := "workerWaits", unfollowed := true, recurses := true, named := ["caracole/code.limits"], apart := false, laid := [("caracole/code.limits", laid_caracole_code_limits)], narrowed := true }
def WorkerWaitsUptoSaid : Prop := workerWaitsUptoRow.holds Tryd.pinned (OpenSpec.upto workerWaitsSpec)

/-- 'caracolelaw.WorkerAlone', WHERE WHAT IT READS IS OF BULK AT MOST 1048576: true; the input reads as it did. -/
def workerAloneUptoRow : OpenClaim := { program := "ytjkffknipbddoabdoor", sum := "2d17493b0fc0cef35eb6bbddde76bd6343bf055cbd53ac20156645260164442d", func := "caracole/caracolelaw.WorkerAlone", spec := "workerAlone", unfollowed := true, recurses := true, named := ["caracole/code.limits"], apart := false, laid := [("caracole/code.limits", laid_caracole_code_limits)], narrowed := true }
def WorkerAloneUptoSaid : Prop := workerAloneUptoRow.holds Tryd.pinned (OpenSpec.upto workerAloneSpec)

/-- 'caracolelaw.WorkerOver', WHERE WHAT IT READS IS OF BULK AT MOST 1048576: true; the input reads as it did. -/
def workerOverUptoRow : OpenClaim := { program := "ytjkffknipbddoabdoor", sum := "2d17493b0fc0cef35eb6bbddde76bd6343bf055cbd53ac20156645260164442d", func := "caracole/caracolelaw.WorkerOver", spec := "workerOver", unfollowed := true, recurses := true, named := ["caracole/code.limits"], apart := false, laid := [("caracole/code.limits", laid_caracole_code_limits)], narrowed := true }
def WorkerOverUptoSaid : Prop := workerOverUptoRow.holds Tryd.pinned (OpenSpec.upto workerOverSpec)

end Rows
end Go.Proofs.YtjkffknipbddoabDoor
