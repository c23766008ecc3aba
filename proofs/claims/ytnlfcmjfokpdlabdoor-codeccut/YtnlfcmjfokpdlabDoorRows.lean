/-
  NARROWER THAN 'FOR EVERY INPUT', by the rows' own cells (each row's printed sentence says how): WorkerWaits: laid · WorkerAlone: laid · WorkerOver: laid · RoundSame: laid · RoundDoes: laid · RoundGoes: laid · RoundLast: laid · RoundApart: laid · RoundOver: laid · CodecDoes: laid · CodecBack: laid · CodecCut: laid.
  DERIVED. THE GIVEN ROWS OF THIS SEAT. 12 by the template 'for every input the law returns true; each argument reads behind the call as it read before'; 0 by the template 'total and deterministic' (their statements: YtnlfcmjfokpdlabDoorTotals.lean).
  GIVEN WITH THE SEED: the statements are not yours to turn. If you find one false, say at which input.
  Laid BY PROGRAM, IN A SANDBOX (cutbox-rows.mjs): the forced cells as the released guide's own fill.sh prints them over the translation 6a3bdc31f0a1f93d… (all of the seat's roots in one cut). By AI agents, Wed Nov 11 2026. No macro, syntax, notation, axiom, sorry.
-/
import Derived.Test.YtnlfcmjfokpdlabDoorChecked
import GoSem.Claim
import GoSem.ClaimJoined
import GoSem.ClaimMapViews
import Derived.JoinedTies
import Derived.KernelRfl
namespace Go.Proofs.YtnlfcmjfokpdlabDoor
/- THE CELL 'sum', in the pinned program and in every row, IS THE sha256 OF THE DUMP (.gsa) THAT YtnlfcmjfokpdlabDoorProg.lean LOADS. Nothing in Lean hashes anything: it is a label: what it is worth is what the hold of that sum in a sandbox is worth. -/
noncomputable def Tryd.pinned : Pinned := { name := "ytnlfcmjfokpdlabdoor", sum := "6a3bdc31f0a1f93dfc450d98221cf6b801f438a9629021f589bc56c76eb2f425", checked := Tryd.checked }
namespace Rows
def none {H : Type} : Left H := { results := [], args := [] }

/- WHAT THE LISTED PACKAGE-LEVEL VARIABLES READ AS WHEN THE CALL BEGINS. Each datum BY PROGRAM (the guide's laid-datum.mjs) off the statement by which the dump's own 'gosem.cut.vars' lays the variable. In a bare row this is a premise. The card (YtnlfcmjfokpdlabDoorCards.lean) ties it to the program's text. -/
def laid_caracole_code_limits {H : Type} : DataW H := .agg [.agg [.lit (.int .i64 0), .lit (.int .i64 0), .lit (.int .i64 0)], .agg [.lit (.int .i64 4), .lit (.int .i64 0), .lit (.int .i64 0)], .agg [.lit (.int .i64 4), .lit (.int .i64 10), .lit (.int .i64 0)], .agg [.lit (.int .i64 4), .lit (.int .i64 4), .lit (.int .i64 4)], .agg [.lit (.int .i64 4), .lit (.int .i64 4), .lit (.int .i64 4)], .agg [.lit (.int .i64 4), .lit (.int .i64 4), .lit (.int .i64 4)], .agg [.lit (.int .i64 4), .lit (.int .i64 4), .lit (.int .i64 4)], .agg [.lit (.int .i64 10), .lit (.int .i64 4), .lit (.int .i64 0)], .agg [.lit (.int .i64 4), .lit (.int .i64 0), .lit (.int .i64 0)], .agg [.lit (.int .i64 4), .lit (.int .i64 14), .lit (.int .i64 0)]]

/-- 'caracolelaw.WorkerWaits': WHATEVER THE INPUT: true; the input reads as it did. -/
def workerWaitsSpec : ChangeSpec := { name := "workerWaits", fn := fun _ => fun
  | [d1, d2, d3] => { results := [.lit (.bool true)], args := [d1, d2, d3] }
  | _ => none }
def workerWaitsRow : OpenClaim := { program := "ytnlfcmjfokpdlabdoor", sum := "6a3bdc31f0a1f93dfc450d98221cf6b801f438a9629021f589bc56c76eb2f425", func := "caracole/caracolelaw.WorkerWaits", spec := "workerWaits", unfollowed := true, recurses := true, named := ["caracole/code.limits"], apart := false, laid := [("caracole/code.limits", laid_caracole_code_limits)] }
def WorkerWaitsSaid : Prop := workerWaitsRow.holds Tryd.pinned (OpenSpec.ofChange workerWaitsSpec)

/-- ITS FALSE NEIGHBOUR: 'it returns false'. Refute it at one input. -/
def workerWaitsWrong : ChangeSpec := { name := "workerWaits", fn := fun _ => fun
  | [d1, d2, d3] => { results := [.lit (.bool false)], args := [d1, d2, d3] }
  | _ => none }
def WorkerWaitsWrongFalsely : Prop := workerWaitsRow.holds Tryd.pinned (OpenSpec.ofChange workerWaitsWrong)

/-- 'caracolelaw.WorkerAlone': WHATEVER THE INPUT: true; the input reads as it did. -/
def workerAloneSpec : ChangeSpec := { name := "workerAlone", fn := fun _ => fun
  | [d1, d2] => { results := [.lit (.bool true)], args := [d1, d2] }
  | _ => none }
def workerAloneRow : OpenClaim := { program := "ytnlfcmjfokpdlabdoor", sum := "6a3bdc31f0a1f93dfc450d98221cf6b801f438a9629021f589bc56c76eb2f425", func := "caracole/caracolelaw.WorkerAlone", spec := "workerAlone", unfollowed := true, recurses := true, named := ["caracole/code.limits"], apart := false, laid := [("caracole/code.limits", laid_caracole_code_limits)] }
def WorkerAloneSaid : Prop := workerAloneRow.holds Tryd.pinned (OpenSpec.ofChange workerAloneSpec)

/-- ITS FALSE NEIGHBOUR: 'it returns false'. Refute it at one input. -/
def workerAloneWrong : ChangeSpec := { name := "workerAlone", fn := fun _ => fun
  | [d1, d2] => { results := [.lit (.bool false)], args := [d1, d2] }
  | _ => none }
def WorkerAloneWrongFalsely : Prop := workerAloneRow.holds Tryd.pinned (OpenSpec.ofChange workerAloneWrong)

/-- 'caracolelaw.WorkerOver': WHATEVER THE INPUT: true; the input reads as it did. -/
def workerOverSpec : ChangeSpec := { name := "workerOver", fn := fun _ => fun
  | [d1, d2, d3] => { results := [.lit (.bool true)], args := [d1, d2, d3] }
  | _ => none }
def workerOverRow : OpenClaim := { program := "ytnlfcmjfokpdlabdoor", sum := "6a3bdc31f0a1f93dfc450d98221cf6b801f438a9629021f589bc56c76eb2f425", func := "caracole/caracolelaw.WorkerOver", spec := "workerOver", unfollowed := true, recurses := true, named := ["caracole/code.limits"], apart := false, laid := [("caracole/code.limits", laid_caracole_code_limits)] }
def WorkerOverSaid : Prop := workerOverRow.holds Tryd.pinned (OpenSpec.ofChange workerOverSpec)

/-- ITS FALSE NEIGHBOUR: 'it returns false'. Refute it at one input. -/
def workerOverWrong : ChangeSpec := { name := "workerOver", fn := fun _ => fun
  | [d1, d2, d3] => { results := [.lit (.bool false)], args := [d1, d2, d3] }
  | _ => none }
def WorkerOverWrongFalsely : Prop := workerOverRow.holds Tryd.pinned (OpenSpec.ofChange workerOverWrong)

/-- 'caracolelaw.RoundSame': WHATEVER THE INPUT: true; the input reads as it did. -/
def roundSameSpec : ChangeSpec := { name := "roundSame", fn := fun _ => fun
  | [d1, d2, d3] => { results := [.lit (.bool true)], args := [d1, d2, d3] }
  | _ => none }
def roundSameRow : OpenClaim := { program := "ytnlfcmjfokpdlabdoor", sum := "6a3bdc31f0a1f93dfc450d98221cf6b801f438a9629021f589bc56c76eb2f425", func := "caracole/caracolelaw.RoundSame", spec := "roundSame", unfollowed := true, recurses := true, named := ["caracole/code.limits"], apart := false, laid := [("caracole/code.limits", laid_caracole_code_limits)] }
def RoundSameSaid : Prop := roundSameRow.holds Tryd.pinned (OpenSpec.ofChange roundSameSpec)

/-- ITS FALSE NEIGHBOUR: 'it returns false'. Refute it at one input. -/
def roundSameWrong : ChangeSpec := { name := "roundSame", fn := fun _ => fun
  | [d1, d2, d3] => { results := [.lit (.bool false)], args := [d1, d2, d3] }
  | _ => none }
def RoundSameWrongFalsely : Prop := roundSameRow.holds Tryd.pinned (OpenSpec.ofChange roundSameWrong)

/-- 'caracolelaw.RoundDoes': WHATEVER THE INPUT: true; the input reads as it did. -/
def roundDoesSpec : ChangeSpec := { name := "roundDoes", fn := fun _ => fun
  | [d1, d2, d3, d4] => { results := [.lit (.bool true)], args := [d1, d2, d3, d4] }
  | _ => none }
def roundDoesRow : OpenClaim := { program := "ytnlfcmjfokpdlabdoor", sum := "6a3bdc31f0a1f93dfc450d98221cf6b801f438a9629021f589bc56c76eb2f425", func := "caracole/caracolelaw.RoundDoes", spec := "roundDoes", unfollowed := true, recurses := true, named := ["caracole/code.limits"], apart := false, laid := [("caracole/code.limits", laid_caracole_code_limits)] }
def RoundDoesSaid : Prop := roundDoesRow.holds Tryd.pinned (OpenSpec.ofChange roundDoesSpec)

/-- ITS FALSE NEIGHBOUR: 'it returns false'. Refute it at one input. -/
def roundDoesWrong : ChangeSpec := { name := "roundDoes", fn := fun _ => fun
  | [d1, d2, d3, d4] => { results := [.lit (.bool false)], args := [d1, d2, d3, d4] }
  | _ => none }
def RoundDoesWrongFalsely : Prop := roundDoesRow.holds Tryd.pinned (OpenSpec.ofChange roundDoesWrong)

/-- 'caracolelaw.RoundGoes': WHATEVER THE INPUT: true; the input reads as it did. -/
def roundGoesSpec : ChangeSpec := { name := "roundGoes", fn := fun _ => fun
  | [d1, d2, d3] => { results := [.lit (.bool true)], args := [d1, d2, d3] }
  | _ => none }
def roundGoesRow : OpenClaim := { program := "ytnlfcmjfokpdlabdoor", sum := "6a3bdc31f0a1f93dfc450d98221cf6b801f438a9629021f589bc56c76eb2f425", func := "caracole/caracolelaw.RoundGoes", spec := "roundGoes", unfollowed := true, recurses := true, named := ["caracole/code.limits"], apart := false, laid := [("caracole/code.limits", laid_caracole_code_limits)] }
def RoundGoesSaid : Prop := roundGoesRow.holds Tryd.pinned (OpenSpec.ofChange roundGoesSpec)

/-- ITS FALSE NEIGHBOUR: 'it returns false'. Refute it at one input. -/
def roundGoesWrong : ChangeSpec := { name := "roundGoes", fn := fun _ => fun
  | [d1, d2, d3] => { results := [.lit (.bool false)], args := [d1, d2, d3] }
  | _ => none }
def RoundGoesWrongFalsely : Prop := roundGoesRow.holds Tryd.pinned (OpenSpec.ofChange roundGoesWrong)

/-- 'caracolelaw.RoundLast': WHATEVER THE INPUT: true; the input reads as it did. -/
def roundLastSpec : ChangeSpec := { name := "roundLast", fn := fun _ => fun
  | [d1, d2, d3, d4] => { results := [.lit (.bool true)], args := [d1, d2, d3, d4] }
  | _ => none }
def roundLastRow : OpenClaim := { program := "ytnlfcmjfokpdlabdoor", sum := "6a3bdc31f0a1f93dfc450d98221cf6b801f438a9629021f589bc56c76eb2f425", func := "caracole/caracolelaw.RoundLast", spec := "roundLast", unfollowed := true, recurses := true, named := ["caracole/code.limits"], apart := false, laid := [("caracole/code.limits", laid_caracole_code_limits)] }
def RoundLastSaid : Prop := roundLastRow.holds Tryd.pinned (OpenSpec.ofChange roundLastSpec)

/-- ITS FALSE NEIGHBOUR: 'it returns false'. Refute it at one input. -/
def roundLastWrong : ChangeSpec := { name := "roundLast", fn := fun _ => fun
  | [d1, d2, d3, d4] => { results := [.lit (.bool false)], args := [d1, d2, d3, d4] }
  | _ => none }
def RoundLastWrongFalsely : Prop := roundLastRow.holds Tryd.pinned (OpenSpec.ofChange roundLastWrong)

/-- 'caracolelaw.RoundApart': WHATEVER THE INPUT: true; the input reads as it did. -/
def roundApartSpec : ChangeSpec := { name := "roundApart", fn := fun _ => fun
  | [d1, d2, d3, d4] => { results := [.lit (.bool true)], args := [d1, d2, d3, d4] }
  | _ => none }
def roundApartRow : OpenClaim := { program := "ytnlfcmjfokpdlabdoor", sum := "6a3bdc31f0a1f93dfc450d98221cf6b801f438a9629021f589bc56c76eb2f425", func := "caracole/caracolelaw.RoundApart", spec := "roundApart", unfollowed := true, recurses := true, named := ["caracole/code.limits"], apart := false, laid := [("caracole/code.limits", laid_caracole_code_limits)] }
def RoundApartSaid : Prop := roundApartRow.holds Tryd.pinned (OpenSpec.ofChange roundApartSpec)

/-- ITS FALSE NEIGHBOUR: 'it returns false'. Refute it at one input. -/
def roundApartWrong : ChangeSpec := { name := "roundApart", fn := fun _ => fun
  | [d1, d2, d3, d4] => { results := [.lit (.bool false)], args := [d1, d2, d3, d4] }
  | _ => none }
def RoundApartWrongFalsely : Prop := roundApartRow.holds Tryd.pinned (OpenSpec.ofChange roundApartWrong)

/-- 'caracolelaw.RoundOver': WHATEVER THE INPUT: true; the input reads as it did. -/
def roundOverSpec : ChangeSpec := { name := "roundOver", fn := fun _ => fun
  | [d1, d2, d3, d4] => { results := [.lit (.bool true)], args := [d1, d2, d3, d4] }
  | _ => none }
def roundOverRow : OpenClaim := { program := "ytnlfcmjfokpdlabdoor", sum := "6a3bdc31f0a1f93dfc450d98221cf6b801f438a9629021f589bc56c76eb2f425", func := "caracole/caracolelaw.RoundOver", spec := "roundOver", unfollowed := true, recurses := true, named := ["caracole/code.limits"], apart := false, laid := [("caracole/code.limits", laid_caracole_code_limits)] }
def RoundOverSaid : Prop := roundOverRow.holds Tryd.pinned (OpenSpec.ofChange roundOverSpec)

/-- ITS FALSE NEIGHBOUR: 'it returns false'. Refute it at one input. -/
def roundOverWrong : ChangeSpec := { name := "roundOver", fn := fun _ => fun
  | [d1, d2, d3, d4] => { results := [.lit (.bool false)], args := [d1, d2, d3, d4] }
  | _ => none }
def RoundOverWrongFalsely : Prop := roundOverRow.holds Tryd.pinned (OpenSpec.ofChange roundOverWrong)

/-- 'caracolelaw.CodecDoes': WHATEVER THE INPUT: true; the input reads as it did. -/
def codecDoesSpec : ChangeSpec := { name := "codecDoes", fn := fun _ => fun
  | [d1, d2] => { results := [.lit (.bool true)], args := [d1, d2] }
  | _ => none }
def codecDoesRow : OpenClaim := { program := "ytnlfcmjfokpdlabdoor", sum := "6a3bdc31f0a1f93dfc450d98221cf6b801f438a9629021f589bc56c76eb2f425", func := "caracole/caracolelaw.CodecDoes", spec := "codecDoes", unfollowed := true, recurses := true, named := ["caracole/code.limits"], apart := false, laid := [("caracole/code.limits", laid_caracole_code_limits)] }
def CodecDoesSaid : Prop := codecDoesRow.holds Tryd.pinned (OpenSpec.ofChange codecDoesSpec)

/-- ITS FALSE NEIGHBOUR: 'it returns false'. Refute it at one input. -/
def codecDoesWrong : ChangeSpec := { name := "codecDoes", fn := fun _ => fun
  | [d1, d2] => { results := [.lit (.bool false)], args := [d1, d2] }
  | _ => none }
def CodecDoesWrongFalsely : Prop := codecDoesRow.holds Tryd.pinned (OpenSpec.ofChange codecDoesWrong)

/-- 'caracolelaw.CodecBack': WHATEVER THE INPUT: true; the input reads as it did. -/
def codecBackSpec : ChangeSpec := { name := "codecBack", fn := fun _ => fun
  | [d1, d2, d3] => { results := [.lit (.bool true)], args := [d1, d2, d3] }
  | _ => none }
def codecBackRow : OpenClaim := { program := "ytnlfcmjfokpdlabdoor", sum := "6a3bdc31f0a1f93dfc450d98221cf6b801f438a9629021f589bc56c76eb2f425", func := "caracole/caracolelaw.CodecBack", spec := "codecBack", unfollowed := true, recurses := true, named := ["caracole/code.limits"], apart := false, laid := [("caracole/code.limits", laid_caracole_code_limits)] }
def CodecBackSaid : Prop := codecBackRow.holds Tryd.pinned (OpenSpec.ofChange codecBackSpec)

/-- ITS FALSE NEIGHBOUR: 'it returns false'. Refute it at one input. -/
def codecBackWrong : ChangeSpec := { name := "codecBack", fn := fun _ => fun
  | [d1, d2, d3] => { results := [.lit (.bool false)], args := [d1, d2, d3] }
  | _ => none }
def CodecBackWrongFalsely : Prop := codecBackRow.holds Tryd.pinned (OpenSpec.ofChange codecBackWrong)

/-- 'caracolelaw.CodecCut': WHATEVER THE INPUT: true; the input reads as it did. -/
def codecCutSpec : ChangeSpec := { name := "codecCut", fn := fun _ => fun
  | [d1, d2] => { results := [.lit (.bool true)], args := [d1, d2] }
  | _ => none }
def codecCutRow : OpenClaim := { program := "ytnlfcmjfokpdlabdoor", sum := "6a3bdc31f0a1f93dfc450d98221cf6b801f438a9629021f589bc56c76eb2f425", func := "caracole/caracolelaw.CodecCut", spec := "codecCut", unfollowed := true, recurses := true, named := ["caracole/code.limits"], apart := false, laid := [("caracole/code.limits", laid_caracole_code_limits)] }
def CodecCutSaid : Prop := codecCutRow.holds Tryd.pinned (OpenSpec.ofChange codecCutSpec)

/-- ITS FALSE NEIGHBOUR: 'it returns false'. Refute it at one input. -/
def codecCutWrong : ChangeSpec := { name := "codecCut", fn := fun _ => fun
  | [d1, d2] => { results := [.lit (.bool false)], args := [d1, d2] }
  | _ => none }
def CodecCutWrongFalsely : Prop := codecCutRow.holds Tryd.pinned (OpenSpec.ofChange codecCutWrong)

/- THE SECOND FORM. 'bulk': how many values and letters a reading holds, each counted each time it is reached (what is shared counts as often as it is met; a slice's spare places count too). A statement '..UptoSaid' is the law's where the arguments, and the package variables that the reading takes, are together of bulk at most 1048576: NARROWER than '..Said'. Prove '..Said' where nothing that the law and all that it calls make is longer than what came in: it says more and counts as full. Else prove '..UptoSaid'. A law counts once. -/
mutual
def uptoBulk {H : Type} : DataW H → Nat
  | .lit (.string bytes) => bytes.length + 1
  | .lit _ => 1
  | .nil => 1
  | .ptr d => uptoBulk d + 1
  | .slice elems spare => uptoBulkAll elems + uptoBulkAll spare + 1
  | .agg parts => uptoBulkAll parts + 1
  | .iface _ d => uptoBulk d + 1
  | .map entries => uptoBulkEntries entries + 1
  | .held _ => 1
def uptoBulkAll {H : Type} : List (DataW H) → Nat
  | [] => 0
  | d :: r => uptoBulk d + uptoBulkAll r
def uptoBulkEntries {H : Type} : List (Lit × DataW H) → Nat
  | [] => 0
  | x :: r => uptoBulkEntry x + uptoBulkEntries r
def uptoBulkEntry {H : Type} : Lit × DataW H → Nat
  | (.string bytes, d) => bytes.length + uptoBulk d + 1
  | (_, d) => uptoBulk d + 1
 end
def uptoSmall : (H : Type) → List (DataW H) → Bool := fun _ ds => decide (uptoBulkAll ds ≤ 1048576)
def OpenSpec.upto (s : _root_.Go.ChangeSpec) : _root_.Go.OpenSpec := { _root_.Go.OpenSpec.ofChange s with cond := some uptoSmall }

/-- 'caracolelaw.WorkerWaits', WHERE WHAT IT READS IS OF BULK AT MOST 1048576: true; the input reads as it did. -/
def workerWaitsUptoRow : OpenClaim := { program := "ytnlfcmjfokpdlabdoor", sum := "6a3bdc31f0a1f93dfc450d98221cf6b801f438a9629021f589bc56c76eb2f425", func := "caracole/caracolelaw.WorkerWaits", spec := "workerWaits", unfollowed := true, recurses := true, named := ["caracole/code.limits"], apart := false, laid := [("caracole/code.limits", laid_caracole_code_limits)], narrowed := true }
def WorkerWaitsUptoSaid : Prop := workerWaitsUptoRow.holds Tryd.pinned (OpenSpec.upto workerWaitsSpec)

/-- 'caracolelaw.WorkerAlone', WHERE WHAT IT READS IS OF BULK AT MOST 1048576: true; the input reads as it did. -/
def workerAloneUptoRow : OpenClaim := { program := "ytnlfcmjfokpdlabdoor", sum := "6a3bdc31f0a1f93dfc450d98221cf6b801f438a9629021f589bc56c76eb2f425", func := "caracole/caracolelaw.WorkerAlone", spec := "workerAlone", unfollowed := true, recurses := true, named := ["caracole/code.limits"], apart := false, laid := [("caracole/code.limits", laid_caracole_code_limits)], narrowed := true }
def WorkerAloneUptoSaid : Prop := workerAloneUptoRow.holds Tryd.pinned (OpenSpec.upto workerAloneSpec)

/-- 'caracolelaw.WorkerOver', WHERE WHAT IT READS IS OF BULK AT MOST 1048576: true; the input reads as it did. -/
def workerOverUptoRow : OpenClaim := { program := "ytnlfcmjfokpdlabdoor", sum := "6a3bdc31f0a1f93dfc450d98221cf6b801f438a9629021f589bc56c76eb2f425", func := "caracole/caracolelaw.WorkerOver", spec := "workerOver", unfollowed := true, recurses := true, named := ["caracole/code.limits"], apart := false, laid := [("caracole/code.limits", laid_caracole_code_limits)], narrowed := true }
def WorkerOverUptoSaid : Prop := workerOverUptoRow.holds Tryd.pinned (OpenSpec.upto workerOverSpec)

/-- 'caracolelaw.RoundSame', WHERE WHAT IT READS IS OF BULK AT MOST 1048576: true; the input reads as it did. -/
def roundSameUptoRow : OpenClaim := { program := "ytnlfcmjfokpdlabdoor", sum := "6a3bdc31f0a1f93dfc450d98221cf6b801f438a9629021f589bc56c76eb2f425", func := "caracole/caracolelaw.RoundSame", spec := "roundSame", unfollowed := true, recurses := true, named := ["caracole/code.limits"], apart := false, laid := [("caracole/code.limits", laid_caracole_code_limits)], narrowed := true }
def RoundSameUptoSaid : Prop := roundSameUptoRow.holds Tryd.pinned (OpenSpec.upto roundSameSpec)

/-- 'caracolelaw.RoundDoes', WHERE WHAT IT READS IS OF BULK AT MOST 1048576: true; the input reads as it did. -/
def roundDoesUptoRow : OpenClaim := { program := "ytnlfcmjfokpdlabdoor", sum := "6a3bdc31f0a1f93dfc450d98221cf6b801f438a9629021f589bc56c76eb2f425", func := "caracole/caracolelaw.RoundDoes", spec := "roundDoes", unfollowed := true, recurses := true, named := ["caracole/code.limits"], apart := false, laid := [("caracole/code.limits", laid_caracole_code_limits)], narrowed := true }
def RoundDoesUptoSaid : Prop := roundDoesUptoRow.holds Tryd.pinned (OpenSpec.upto roundDoesSpec)

/-- 'caracolelaw.RoundGoes', WHERE WHAT IT READS IS OF BULK AT MOST 1048576: true; the input reads as it did. -/
def roundGoesUptoRow : OpenClaim := { program := "ytnlfcmjfokpdlabdoor", sum := "6a3bdc31f0a1f93dfc450d98221cf6b801f438a9629021f589bc56c76eb2f425", func := "caracole/caracolelaw.RoundGoes", spec := "roundGoes", unfollowed := true, recurses := true, named := ["caracole/code.limits"], apart := false, laid := [("caracole/code.limits", laid_caracole_code_limits)], narrowed := true }
def RoundGoesUptoSaid : Prop := roundGoesUptoRow.holds Tryd.pinned (OpenSpec.upto roundGoesSpec)

/-- 'caracolelaw.RoundLast', WHERE WHAT IT READS IS OF BULK AT MOST 1048576: true; the input reads as it did. -/
def roundLastUptoRow : OpenClaim := { program := "ytnlfcmjfokpdlabdoor", sum := "6a3bdc31f0a1f93dfc450d98221cf6b801f438a9629021f589bc56c76eb2f425", func := "caracole/caracolelaw.RoundLast", spec := "roundLast", unfollowed := true, recurses := true, named := ["caracole/code.limits"], apart := false, laid := [("caracole/code.limits", laid_caracole_code_limits)], narrowed := true }
def RoundLastUptoSaid : Prop := roundLastUptoRow.holds Tryd.pinned (OpenSpec.upto roundLastSpec)

/-- 'caracolelaw.RoundApart', WHERE WHAT IT READS IS OF BULK AT MOST 1048576: true; the input reads as it did. -/
def roundApartUptoRow : OpenClaim := { program := "ytnlfcmjfokpdlabdoor", sum := "6a3bdc31f0a1f93dfc450d98221cf6b801f438a9629021f589bc56c76eb2f425", func := "caracole/caracolelaw.RoundApart", spec := "roundApart", unfollowed := true, recurses := true, named := ["caracole/code.limits"], apart := false, laid := [("caracole/code.limits", laid_caracole_code_limits)], narrowed := true }
def RoundApartUptoSaid : Prop := roundApartUptoRow.holds Tryd.pinned (OpenSpec.upto roundApartSpec)

/-- 'caracolelaw.RoundOver', WHERE WHAT IT READS IS OF BULK AT MOST 1048576: true; the input reads as it did. -/
def roundOverUptoRow : OpenClaim := { program := "ytnlfcmjfokpdlabdoor", sum := "6a3bdc31f0a1f93dfc450d98221cf6b801f438a9629021f589bc56c76eb2f425", func := "caracole/caracolelaw.RoundOver", spec := "roundOver", unfollowed := true, recurses := true, named := ["caracole/code.limits"], apart := false, laid := [("caracole/code.limits", laid_caracole_code_limits)], narrowed := true }
def RoundOverUptoSaid : Prop := roundOverUptoRow.holds Tryd.pinned (OpenSpec.upto roundOverSpec)

/-- 'caracolelaw.CodecDoes', WHERE WHAT IT READS IS OF BULK AT MOST 1048576: true; the input reads as it did. -/
def codecDoesUptoRow : OpenClaim := { program := "ytnlfcmjfokpdlabdoor", sum := "6a3bdc31f0a1f93dfc450d98221cf6b801f438a9629021f589bc56c76eb2f425", func := "caracole/caracolelaw.CodecDoes", spec := "codecDoes", unfollowed := true, recurses := true, named := ["caracole/code.limits"], apart := false, laid := [("caracole/code.limits", laid_caracole_code_limits)], narrowed := true }
def CodecDoesUptoSaid : Prop := codecDoesUptoRow.holds Tryd.pinned (OpenSpec.upto codecDoesSpec)

/-- 'caracolelaw.CodecBack', WHERE WHAT IT READS IS OF BULK AT MOST 1048576: true; the input reads as it did. -/
def codecBackUptoRow : OpenClaim := { program := "ytnlfcmjfokpdlabdoor", sum := "6a3bdc31f0a1f93dfc450d98221cf6b801f438a9629021f589bc56c76eb2f425", func := "caracole/caracolelaw.CodecBack", spec := "codecBack", unfollowed := true, recurses := true, named := ["caracole/code.limits"], apart := false, laid := [("caracole/code.limits", laid_caracole_code_limits)], narrowed := true }
def CodecBackUptoSaid : Prop := codecBackUptoRow.holds Tryd.pinned (OpenSpec.upto codecBackSpec)

/-- 'caracolelaw.CodecCut', WHERE WHAT IT READS IS OF BULK AT MOST 1048576: true; the input reads as it did. -/
def codecCutUptoRow : OpenClaim := { program := "ytnlfcmjfokpdlabdoor", sum := "6a3bdc31f0a1f93dfc450d98221cf6b801f438a9629021f589bc56c76eb2f425", func := "caracole/caracolelaw.CodecCut", spec := "codecCut", unfollowed := true, recurses := true, named := ["caracole/code.limits"], apart := false, laid := [("caracole/code.limits", laid_caracole_code_limits)], narrowed := true }
def CodecCutUptoSaid : Prop := codecCutUptoRow.holds Tryd.pinned (OpenSpec.upto codecCutSpec)

end Rows
end Go.Proofs.YtnlfcmjfokpdlabDoor
