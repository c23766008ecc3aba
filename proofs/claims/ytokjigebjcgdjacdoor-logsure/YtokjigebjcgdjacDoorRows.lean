/-
  NARROWER THAN 'FOR EVERY INPUT', by the rows' own cells (each row's printed sentence says how): CodecJoins: laid · LogDoes: laid · LogSure: laid · LogOpens: laid · LogRefuses: laid.
  DERIVED. THE GIVEN ROWS OF THIS SEAT. 5 by the template 'for every input the law returns true; each argument reads behind the call as it read before'; 0 by the template 'total and deterministic' (their statements: YtokjigebjcgdjacDoorTotals.lean).
  GIVEN WITH THE SEED: the statements are not yours to turn. If you find one false, say at which input.
  Laid BY PROGRAM, IN A SANDBOX (cutbox-rows.mjs): the forced cells as the released guide's own fill.sh prints them over the translation e05aa01ab6d32f43… (all of the seat's roots in one cut). By AI agents, Wed Nov 11 2026. No macro, syntax, notation, axiom, sorry.
-/
import Derived.Test.YtokjigebjcgdjacDoorChecked
import GoSem.Claim
import GoSem.ClaimJoined
import GoSem.ClaimMapViews
import Derived.JoinedTies
import Derived.KernelRfl
namespace Go.Proofs.YtokjigebjcgdjacDoor
/- THE CELL 'sum', in the pinned program and in every row, IS THE sha256 OF THE DUMP (.gsa) THAT YtokjigebjcgdjacDoorProg.lean LOADS. Nothing in Lean hashes anything: it is a label: what it is worth is what the hold of that sum in a sandbox is worth. -/
noncomputable def Tryd.pinned : Pinned := { name := "ytokjigebjcgdjacdoor", sum := "e05aa01ab6d32f437041de2216e9d4f68ad76671c63e37598c4fcafe71facdb6", checked := Tryd.checked }
namespace Rows
def none {H : Type} : Left H := { results := [], args := [] }

/- WHAT THE LISTED PACKAGE-LEVEL VARIABLES READ AS WHEN THE CALL BEGINS. Each datum BY PROGRAM (the guide's laid-datum.mjs) off the statement by which the dump's own 'gosem.cut.vars' lays the variable. In a bare row this is a premise. The card (YtokjigebjcgdjacDoorCards.lean) ties it to the program's text. -/
def laid_caracole_code_limits {H : Type} : DataW H := .agg [.agg [.lit (.int .i64 0), .lit (.int .i64 0), .lit (.int .i64 0)], .agg [.lit (.int .i64 4), .lit (.int .i64 0), .lit (.int .i64 0)], .agg [.lit (.int .i64 4), .lit (.int .i64 10), .lit (.int .i64 0)], .agg [.lit (.int .i64 4), .lit (.int .i64 4), .lit (.int .i64 4)], .agg [.lit (.int .i64 4), .lit (.int .i64 4), .lit (.int .i64 4)], .agg [.lit (.int .i64 4), .lit (.int .i64 4), .lit (.int .i64 4)], .agg [.lit (.int .i64 4), .lit (.int .i64 4), .lit (.int .i64 4)], .agg [.lit (.int .i64 10), .lit (.int .i64 4), .lit (.int .i64 0)], .agg [.lit (.int .i64 4), .lit (.int .i64 0), .lit (.int .i64 0)], .agg [.lit (.int .i64 4), .lit (.int .i64 14), .lit (.int .i64 0)]]

/-- 'caracolelaw.CodecJoins': WHATEVER THE INPUT: true; the input reads as it did. -/
def codecJoinsSpec : ChangeSpec := { name := "codecJoins", fn := fun _ => fun
  | [d1, d2] => { results := [.lit (.bool true)], args := [d1, d2] }
  | _ => none }
def codecJoinsRow : OpenClaim := { program := "ytokjigebjcgdjacdoor", sum := "e05aa01ab6d32f437041de2216e9d4f68ad76671c63e37598c4fcafe71facdb6", func := "caracole/caracolelaw.CodecJoins", spec := "codecJoins", unfollowed := true, recurses := true, named := ["caracole/code.limits"], apart := false, laid := [("caracole/code.limits", laid_caracole_code_limits)] }
def CodecJoinsSaid : Prop := codecJoinsRow.holds Tryd.pinned (OpenSpec.ofChange codecJoinsSpec)

/-- ITS FALSE NEIGHBOUR: 'it returns false'. Refute it at one input. -/
def codecJoinsWrong : ChangeSpec := { name := "codecJoins", fn := fun _ => fun
  | [d1, d2] => { results := [.lit (.bool false)], args := [d1, d2] }
  | _ => none }
def CodecJoinsWrongFalsely : Prop := codecJoinsRow.holds Tryd.pinned (OpenSpec.ofChange codecJoinsWrong)

/-- 'caracolelaw.LogDoes': WHATEVER THE INPUT: true; the input reads as it did. -/
def logDoesSpec : ChangeSpec := { name := "logDoes", fn := fun _ => fun
  | [d1, d2, d3] => { results := [.lit (.bool true)], args := [d1, d2, d3] }
  | _ => none }
def logDoesRow : OpenClaim := { program := "ytokjigebjcgdjacdoor", sum := "e05aa01ab6d32f437041de2216e9d4f68ad76671c63e37598c4fcafe71facdb6", func := "caracole/caracolelaw.LogDoes", spec := "logDoes", unfollowed := true, recurses := true, named := ["caracole/code.limits"], apart := false, laid := [("caracole/code.limits", laid_caracole_code_limits)] }
def LogDoesSaid : Prop := logDoesRow.holds Tryd.pinned (OpenSpec.ofChange logDoesSpec)

/-- ITS FALSE NEIGHBOUR: 'it returns false'. Refute it at one input. -/
def logDoesWrong : ChangeSpec := { name := "logDoes", fn := fun _ => fun
  | [d1, d2, d3] => { results := [.lit (.bool false)], args := [d1, d2, d3] }
  | _ => none }
def LogDoesWrongFalsely : Prop := logDoesRow.holds Tryd.pinned (OpenSpec.ofChange logDoesWrong)

/-- 'caracolelaw.LogSure': WHATEVER THE INPUT: true; the input reads as it did. -/
def logSureSpec : ChangeSpec := { name := "logSure", fn := fun _ => fun
  | [d1, d2, d3] => { results := [.lit (.bool true)], args := [d1, d2, d3] }
  | _ => none }
def logSureRow : OpenClaim := { program := "ytokjigebjcgdjacdoor", sum := "e05aa01ab6d32f437041de2216e9d4f68ad76671c63e37598c4fcafe71facdb6", func := "caracole/caracolelaw.LogSure", spec := "logSure", unfollowed := true, recurses := true, named := ["caracole/code.limits"], apart := false, laid := [("caracole/code.limits", laid_caracole_code_limits)] }
def LogSureSaid : Prop := logSureRow.holds Tryd.pinned (OpenSpec.ofChange logSureSpec)

/-- ITS FALSE NEIGHBOUR: 'it returns false'. Refute it at one input. -/
def logSureWrong : ChangeSpec := { name := "logSure", fn := fun _ => fun
  | [d1, d2, d3] => { results := [.lit (.bool false)], args := [d1, d2, d3] }
  | _ => none }
def LogSureWrongFalsely : Prop := logSureRow.holds Tryd.pinned (OpenSpec.ofChange logSureWrong)

/-- 'caracolelaw.LogOpens': WHATEVER THE INPUT: true; the input reads as it did. -/
def logOpensSpec : ChangeSpec := { name := "logOpens", fn := fun _ => fun
  | [d1, d2, d3] => { results := [.lit (.bool true)], args := [d1, d2, d3] }
  | _ => none }
def logOpensRow : OpenClaim := { program := "ytokjigebjcgdjacdoor", sum := "e05aa01ab6d32f437041de2216e9d4f68ad76671c63e37598c4fcafe71facdb6", func := "caracole/caracolelaw.LogOpens", spec := "logOpens", unfollowed := true, recurses := true, named := ["caracole/code.limits"], apart := false, laid := [("caracole/code.limits", laid_caracole_code_limits)] }
def LogOpensSaid : Prop := logOpensRow.holds Tryd.pinned (OpenSpec.ofChange logOpensSpec)

/-- ITS FALSE NEIGHBOUR: 'it returns false'. Refute it at one input. -/
def logOpensWrong : ChangeSpec := { name := "logOpens", fn := fun _ => fun
  | [d1, d2, d3] => { results := [.lit (.bool false)], args := [d1, d2, d3] }
  | _ => none }
def LogOpensWrongFalsely : Prop := logOpensRow.holds Tryd.pinned (OpenSpec.ofChange logOpensWrong)

/-- 'caracolelaw.LogRefuses': WHATEVER THE INPUT: true; the input reads as it did. -/
def logRefusesSpec : ChangeSpec := { name := "logRefuses", fn := fun _ => fun
  | [d1, d2] => { results := [.lit (.bool true)], args := [d1, d2] }
  | _ => none }
def logRefusesRow : OpenClaim := { program := "ytokjigebjcgdjacdoor", sum := "e05aa01ab6d32f437041de2216e9d4f68ad76671c63e37598c4fcafe71facdb6", func := "caracole/caracolelaw.LogRefuses", spec := "logRefuses", unfollowed := true, recurses := true, named := ["caracole/code.limits"], apart := false, laid := [("caracole/code.limits", laid_caracole_code_limits)] }
def LogRefusesSaid : Prop := logRefusesRow.holds Tryd.pinned (OpenSpec.ofChange logRefusesSpec)

/-- ITS FALSE NEIGHBOUR: 'it returns false'. Refute it at one input. -/
def logRefusesWrong : ChangeSpec := { name := "logRefuses", fn := fun _ => fun
  | [d1, d2] => { results := [.lit (.bool false)], args := [d1, d2] }
  | _ => none }
def LogRefusesWrongFalsely : Prop := logRefusesRow.holds Tryd.pinned (OpenSpec.ofChange logRefusesWrong)

/- THE SECOND FORM. 'bulk': how many values and letters a reading holds, each counted each time it is reached (what is shared counts as often as it is met; a slice's spare places count too). A statement '..UptoSaid' is the law's where the arguments, and the package variables that the reading takes, are together of bulk at most 1048576: NARROWER than '..Said'. Prove '..Said' where nothing that the law and all that it calls make is longer than what came in: it says more and counts as full. Else prove '..UptoSaid'. A law counts once. -/
mutual
def uptoBulk {H : Type} : DataW H → Nat
  | .lit (.string bytes) => bytes.length + 1
  | .lit _ => 1
  | .nil => 1
  | .ptr d => uptoBulk d + 1
  | .slice elems spare => uptoBulkAll elems + uptoBulkAll spare + 1
  | .agg parts => uptoBulkAll parts + 1
  | .iface _ d => uptoBulk d + 1
  | .map entries => uptoBulkEntries entries + 1
  | .held _ => 1
def uptoBulkAll {H : Type} : List (DataW H) → Nat
  | [] => 0
  | d :: r => uptoBulk d + uptoBulkAll r
def uptoBulkEntries {H : Type} : List (Lit × DataW H) → Nat
  | [] => 0
  | x :: r => uptoBulkEntry x + uptoBulkEntries r
def uptoBulkEntry {H : Type} : Lit × DataW H → Nat
  | (.string bytes, d) => bytes.length + uptoBulk d + 1
  | (_, d) => uptoBulk d + 1
 end
def uptoSmall : (H : Type) → List (DataW H) → Bool := fun _ ds => decide (uptoBulkAll ds ≤ 1048576)
def OpenSpec.upto (s : _root_.Go.ChangeSpec) : _root_.Go.OpenSpec := { _root_.Go.OpenSpec.ofChange s with cond := some uptoSmall }

/-- 'caracolelaw.CodecJoins', WHERE WHAT IT READS IS OF BULK AT MOST 1048576: true; the input reads as it did. -/
def codecJoinsUptoRow : OpenClaim := { program := "ytokjigebjcgdjacdoor", sum := "e05aa01ab6d32f437041de2216e9d4f68ad76671c63e37598c4fcafe71facdb6", func := "caracole/caracolelaw.CodecJoins", spec := "codecJoins", unfollowed := true, recurses := true, named := ["caracole/code.limits"], apart := false, laid := [("caracole/code.limits", laid_caracole_code_limits)], narrowed := true }
def CodecJoinsUptoSaid : Prop := codecJoinsUptoRow.holds Tryd.pinned (OpenSpec.upto codecJoinsSpec)

/-- 'caracolelaw.LogDoes', WHERE WHAT IT READS IS OF BULK AT MOST 1048576: true; the input reads as it did. -/
def logDoesUptoRow : OpenClaim := { program := "ytokjigebjcgdjacdoor", sum := "e05aa01ab6d32f437041de2216e9d4f68ad76671c63e37598c4fcafe71facdb6", func := "caracole/caracolelaw.LogDoes", spec := "logDoes", unfollowed := true, recurses := true, named := ["caracole/code.limits"], apart := false, laid := [("caracole/code.limits", laid_caracole_code_limits)], narrowed := true }
def LogDoesUptoSaid : Prop := logDoesUptoRow.holds Tryd.pinned (OpenSpec.upto logDoesSpec)

/-- 'caracolelaw.LogSure', WHERE WHAT IT READS IS OF BULK AT MOST 1048576: true; the input reads as it did. -/
def logSureUptoRow : OpenClaim := { program := "ytokjigebjcgdjacdoor", sum := "e05aa01ab6d32f437041de2216e9d4f68ad76671c63e37598c4fcafe71facdb6", func := "caracole/caracolelaw.LogSure", spec := "logSure", unfollowed := true, recurses := true, named := ["caracole/code.limits"], apart := false, laid := [("caracole/code.limits", laid_caracole_code_limits)], narrowed := true }
def LogSureUptoSaid : Prop := logSureUptoRow.holds Tryd.pinned (OpenSpec.upto logSureSpec)

/-- 'caracolelaw.LogOpens', WHERE WHAT IT READS IS OF BULK AT MOST 1048576: true; the input reads as it did. -/
def logOpensUptoRow : OpenClaim := { program := "ytokjigebjcgdjacdoor", sum := "e05aa01ab6d32f437041de2216e9d4f68ad76671c63e37598c4fcafe71facdb6", func := "caracole/caracolelaw.LogOpens", spec := "logOpens", unfollowed := true, recurses := true, named := ["caracole/code.limits"], apart := false, laid := [("caracole/code.limits", laid_caracole_code_limits)], narrowed := true }
def LogOpensUptoSaid : Prop := logOpensUptoRow.holds Tryd.pinned (OpenSpec.upto logOpensSpec)

/-- 'caracolelaw.LogRefuses', WHERE WHAT IT READS IS OF BULK AT MOST 1048576: true; the input reads as it did. -/
def logRefusesUptoRow : OpenClaim := { program := "ytokjigebjcgdjacdoor", sum := "e05aa01ab6d32f437041de2216e9d4f68ad76671c63e37598c4fcafe71facdb6", func := "caracole/caracolelaw.LogRefuses", spec := "logRefuses", unfollowed := true, recurses := true, named := ["caracole/code.limits"], apart := false, laid := [("caracole/code.limits", laid_caracole_code_limits)], narrowed := true }
def LogRefusesUptoSaid : Prop := logRefusesUptoRow.holds Tryd.pinned (OpenSpec.upto logRefusesSpec)

end Rows
end Go.Proofs.YtokjigebjcgdjacDoor
