/-
  NARROWER THAN 'FOR EVERY INPUT', by the rows' own cells (each row's printed sentence says how): CodecJoins: laid · LogDoes: laid · LogSure: laid · LogOpens: laid · LogRefuses: laid · StoreDoes: laid · StoreStays: laid · StorePicks: laid · StoreCrash: laid · StoreRefuses: laid.
  DERIVED. THE GIVEN ROWS OF THIS SEAT. 10 by the template 'for every input the law returns true; each argument reads behind the call as it read before'; 0 by the template 'total and deterministic' (their statements: YtihfjmdjjeciiacDoorTotals.lean).
  GIVEN WITH THE SEED: the statements are not yours to turn. If you find one false, say at which input.
  Laid BY PROGRAM, IN A SANDBOX (cutbox-rows.mjs): the forced cells as the released guide's own fill.sh prints them over the translation 207ac86dca1c69da… (all of the seat's roots in one cut). By AI agents, Wed Nov 11 2026. No macro, syntax, notation, axiom, sorry.
-/
import Derived.Test.YtihfjmdjjeciiacDoorChecked
import GoSem.Claim
import GoSem.ClaimJoined
import GoSem.ClaimMapViews
import Derived.JoinedTies
import Derived.KernelRfl
namespace Go.Proofs.YtihfjmdjjeciiacDoor
/- THE CELL 'sum', in the pinned program and in every row, IS THE sha256 OF THE DUMP (.gsa) THAT YtihfjmdjjeciiacDoorProg.lean LOADS. Nothing in Lean hashes anything: it is a label: what it is worth is what the hold of that sum in a sandbox is worth. -/
noncomputable def Tryd.pinned : Pinned := { name := "ytihfjmdjjeciiacdoor", sum := "207ac86dca1c69da6d3f370d799e0e02fff05d3c2f74a1c6bf2bd8e8e876efbf", checked := Tryd.checked }
namespace Rows
def none {H : Type} : Left H := { results := [], args := [] }

/- WHAT THE LISTED PACKAGE-LEVEL VARIABLES READ AS WHEN THE CALL BEGINS. Each datum BY PROGRAM (the guide's laid-datum.mjs) off the statement by which the dump's own 'gosem.cut.vars' lays the variable. In a bare row this is a premise. The card (YtihfjmdjjeciiacDoorCards.lean) ties it to the program's text. -/
def laid_caracole_code_limits {H : Type} : DataW H := .agg [.agg [.lit (.int .i64 0), .lit (.int .i64 0), .lit (.int .i64 0)], .agg [.lit (.int .i64 4), .lit (.int .i64 0), .lit (.int .i64 0)], .agg [.lit (.int .i64 4), .lit (.int .i64 10), .lit (.int .i64 0)], .agg [.lit (.int .i64 4), .lit (.int .i64 4), .lit (.int .i64 4)], .agg [.lit (.int .i64 4), .lit (.int .i64 4), .lit (.int .i64 4)], .agg [.lit (.int .i64 4), .lit (.int .i64 4), .lit (.int .i64 4)], .agg [.lit (.int .i64 4), .lit (.int .i64 4), .lit (.int .i64 4)], .agg [.lit (.int .i64 10), .lit (.int .i64 4), .lit (.int .i64 0)], .agg [.lit (.int .i64 4), .lit (.int .i64 0), .lit (.int .i64 0)], .agg [.lit (.int .i64 4), .lit (.int .i64 14), .lit (.int .i64 0)]]

/-- 'caracolelaw.CodecJoins': WHATEVER THE INPUT: true; the input reads as it did. -/
def codecJoinsSpec : ChangeSpec := { name := "codecJoins", fn := fun _ => fun
  | [d1, d2] => { results := [.lit (.bool true)], args := [d1, d2] }
  | _ => none }
def codecJoinsRow : OpenClaim := { program := "ytihfjmdjjeciiacdoor", sum := "207ac86dca1c69da6d3f370d799e0e02fff05d3c2f74a1c6bf2bd8e8e876efbf", func := "caracole/caracolelaw.CodecJoins", spec := "codecJoins", unfollowed := true, recurses := true, named := ["caracole/code.limits"], apart := false, laid := [("caracole/code.limits", laid_caracole_code_limits)] }
def CodecJoinsSaid : Prop := codecJoinsRow.holds Tryd.pinned (OpenSpec.ofChange codecJoinsSpec)

/-- ITS FALSE NEIGHBOUR: 'it returns false'. Refute it at one input. -/
def codecJoinsWrong : ChangeSpec := { name := "codecJoins", fn := fun _ => fun
  | [d1, d2] => { results := [.lit (.bool false)], args := [d1, d2] }
  | _ => none }
def CodecJoinsWrongFalsely : Prop := codecJoinsRow.holds Tryd.pinned (OpenSpec.ofChange codecJoinsWrong)

/-- 'caracolelaw.LogDoes': WHATEVER THE INPUT: true; the input reads as it did. -/
def logDoesSpec : ChangeSpec := { name := "logDoes", fn := fun _ => fun
  | [d1, d2, d3] => { results := [.lit (.bool true)], args := [d1, d2, d3] }
  | _ => none }
def logDoesRow : OpenClaim := { program := "ytihfjmdjjeciiacdoor", sum := "207ac86dca1c69da6d3f370d799e0e02fff05d3c2f74a1c6bf2bd8e8e876efbf", func := "caracole/caracolelaw.LogDoes", spec := "logDoes", unfollowed := true, recurses := true, named := ["caracole/code.limits"], apart := false, laid := [("caracole/code.limits", laid_caracole_code_limits)] }
def LogDoesSaid : Prop := logDoesRow.holds Tryd.pinned (OpenSpec.ofChange logDoesSpec)

/-- ITS FALSE NEIGHBOUR: 'it returns false'. Refute it at one input. -/
def logDoesWrong : ChangeSpec := { name := "logDoes", fn := fun _ => fun
  | [d1, d2, d3] => { results := [.lit (.bool false)], args := [d1, d2, d3] }
  | _ => none }
def LogDoesWrongFalsely : Prop := logDoesRow.holds Tryd.pinned (OpenSpec.ofChange logDoesWrong)

/-- 'caracolelaw.LogSure': WHATEVER THE INPUT: true; the input reads as it did. -/
def logSureSpec : ChangeSpec := { name := "logSure", fn := fun _ => fun
  | [d1, d2, d3] => { results := [.lit (.bool true)], args := [d1, d2, d3] }
  | _ => none }
def logSureRow : OpenClaim := { program := "ytihfjmdjjeciiacdoor", sum := "207ac86dca1c69da6d3f370d799e0e02fff05d3c2f74a1c6bf2bd8e8e876efbf", func := "caracole/caracolelaw.LogSure", spec := "logSure", unfollowed := true, recurses := true, named := ["caracole/code.limits"], apart := false, laid := [("caracole/code.limits", laid_caracole_code_limits)] }
def LogSureSaid : Prop := logSureRow.holds Tryd.pinned (OpenSpec.ofChange logSureSpec)

/-- ITS FALSE NEIGHBOUR: 'it returns false'. Refute it at one input. -/
def logSureWrong : ChangeSpec := { name := "logSure", fn := fun _ => fun
  | [d1, d2, d3] => { results := [.lit (.bool false)], args := [d1, d2, d3] }
  | _ => none }
def LogSureWrongFalsely : Prop := logSureRow.holds Tryd.pinned (OpenSpec.ofChange logSureWrong)

/-- 'caracolelaw.LogOpens': WHATEVER THE INPUT: true; the input reads as it did. -/
def logOpensSpec : ChangeSpec := { name := "logOpens", fn := fun _ => fun
  | [d1, d2, d3] => { results := [.lit (.bool true)], args := [d1, d2, d3] }
  | _ => none }
def logOpensRow : OpenClaim := { program := "ytihfjmdjjeciiacdoor", sum := "207ac86dca1c69da6d3f370d799e0e02fff05d3c2f74a1c6bf2bd8e8e876efbf", func := "caracole/caracolelaw.LogOpens", spec := "logOpens", unfollowed := true, recurses := true, named := ["caracole/code.limits"], apart := false, laid := [("caracole/code.limits", laid_caracole_code_limits)] }
def LogOpensSaid : Prop := logOpensRow.holds Tryd.pinned (OpenSpec.ofChange logOpensSpec)

/-- ITS FALSE NEIGHBOUR: 'it returns false'. Refute it at one input. -/
def logOpensWrong : ChangeSpec := { name := "logOpens", fn := fun _ => fun
  | [d1, d2, d3] => { results := [.lit (.bool false)], args := [d1, d2, d3] }
  | _ => none }
def LogOpensWrongFalsely : Prop := logOpensRow.holds Tryd.pinned (OpenSpec.ofChange logOpensWrong)

/-- 'caracolelaw.LogRefuses': WHATEVER THE INPUT: true; the input reads as it did. -/
def logRefusesSpec : ChangeSpec := { name := "logRefuses", fn := fun _ => fun
  | [d1, d2] => { results := [.lit (.bool true)], args := [d1, d2] }
  | _ => none }
def logRefusesRow : OpenClaim := { program := "ytihfjmdjjeciiacdoor", sum := "207ac86dca1c69da6d3f370d799e0e02fff05d3c2f74a1c6bf2bd8e8e876efbf", func := "caracole/caracolelaw.LogRefuses", spec := "logRefuses", unfollowed := true, recurses := true, named := ["caracole/code.limits"], apart := false, laid := [("caracole/code.limits", laid_caracole_code_limits)] }
def LogRefusesSaid : Prop := logRefusesRow.holds Tryd.pinned (OpenSpec.ofChange logRefusesSpec)

/-- ITS FALSE NEIGHBOUR: 'it returns false'. Refute it at one input. -/
def logRefusesWrong : ChangeSpec := { name := "logRefuses", fn := fun _ => fun
  | [d1, d2] => { results := [.lit (.bool false)], args := [d1, d2] }
  | _ => none }
def LogRefusesWrongFalsely : Prop := logRefusesRow.holds Tryd.pinned (OpenSpec.ofChange logRefusesWrong)

/-- 'caracolelaw.StoreDoes': WHATEVER THE INPUT: true; the input reads as it did. -/
def storeDoesSpec : ChangeSpec := { name := "storeDoes", fn := fun _ => fun
  | [d1, d2] => { results := [.lit (.bool true)], args := [d1, d2] }
  | _ => none }
def storeDoesRow : OpenClaim := { program := "ytihfjmdjjeciiacdoor", sum := "207ac86dca1c69da6d3f370d799e0e02fff05d3c2f74a1c6bf2bd8e8e876efbf", func := "caracole/caracolelaw.StoreDoes", spec := "storeDoes", unfollowed := true, recurses := true, named := ["caracole/code.limits"], apart := false, laid := [("caracole/code.limits", laid_caracole_code_limits)] }
def StoreDoesSaid : Prop := storeDoesRow.holds Tryd.pinned (OpenSpec.ofChange storeDoesSpec)

/-- ITS FALSE NEIGHBOUR: 'it returns false'. Refute it at one input. -/
def storeDoesWrong : ChangeSpec := { name := "storeDoes", fn := fun _ => fun
  | [d1, d2] => { results := [.lit (.bool false)], args := [d1, d2] }
  | _ => none }
def StoreDoesWrongFalsely : Prop := storeDoesRow.holds Tryd.pinned (OpenSpec.ofChange storeDoesWrong)

/-- 'caracolelaw.StoreStays': WHATEVER THE INPUT: true; the input reads as it did. -/
def storeStaysSpec : ChangeSpec := { name := "storeStays", fn := fun _ => fun
  | [d] => { results := [.lit (.bool true)], args := [d] }
  | _ => none }
def storeStaysRow : OpenClaim := { program := "ytihfjmdjjeciiacdoor", sum := "207ac86dca1c69da6d3f370d799e0e02fff05d3c2f74a1c6bf2bd8e8e876efbf", func := "caracole/caracolelaw.StoreStays", spec := "storeStays", unfollowed := true, recurses := true, named := ["caracole/code.limits"], apart := false, laid := [("caracole/code.limits", laid_caracole_code_limits)] }
def StoreStaysSaid : Prop := storeStaysRow.holds Tryd.pinned (OpenSpec.ofChange storeStaysSpec)

/-- ITS FALSE NEIGHBOUR: 'it returns false'. Refute it at one input. -/
def storeStaysWrong : ChangeSpec := { name := "storeStays", fn := fun _ => fun
  | [d] => { results := [.lit (.bool false)], args := [d] }
  | _ => none }
def StoreStaysWrongFalsely : Prop := storeStaysRow.holds Tryd.pinned (OpenSpec.ofChange storeStaysWrong)

/-- 'caracolelaw.StorePicks': WHATEVER THE INPUT: true; the input reads as it did. -/
def storePicksSpec : ChangeSpec := { name := "storePicks", fn := fun _ => fun
  | [d1, d2] => { results := [.lit (.bool true)], args := [d1, d2] }
  | _ => none }
def storePicksRow : OpenClaim := { program := "ytihfjmdjjeciiacdoor", sum := "207ac86dca1c69da6d3f370d799e0e02fff05d3c2f74a1c6bf2bd8e8e876efbf", func := "caracole/caracolelaw.StorePicks", spec := "storePicks", unfollowed := true, recurses := true, named := ["caracole/code.limits"], apart := false, laid := [("caracole/code.limits", laid_caracole_code_limits)] }
def StorePicksSaid : Prop := storePicksRow.holds Tryd.pinned (OpenSpec.ofChange storePicksSpec)

/-- ITS FALSE NEIGHBOUR: 'it returns false'. Refute it at one input. -/
def storePicksWrong : ChangeSpec := { name := "storePicks", fn := fun _ => fun
  | [d1, d2] => { results := [.lit (.bool false)], args := [d1, d2] }
  | _ => none }
def StorePicksWrongFalsely : Prop := storePicksRow.holds Tryd.pinned (OpenSpec.ofChange storePicksWrong)

/-- 'caracolelaw.StoreCrash': WHATEVER THE INPUT: true; the input reads as it did. -/
def storeCrashSpec : ChangeSpec := { name := "storeCrash", fn := fun _ => fun
  | [d1, d2] => { results := [.lit (.bool true)], args := [d1, d2] }
  | _ => none }
def storeCrashRow : OpenClaim := { program := "ytihfjmdjjeciiacdoor", sum := "207ac86dca1c69da6d3f370d799e0e02fff05d3c2f74a1c6bf2bd8e8e876efbf", func := "caracole/caracolelaw.StoreCrash", spec := "storeCrash", unfollowed := true, recurses := true, named := ["caracole/code.limits"], apart := false, laid := [("caracole/code.limits", laid_caracole_code_limits)] }
def StoreCrashSaid : Prop := storeCrashRow.holds Tryd.pinned (OpenSpec.ofChange storeCrashSpec)

/-- ITS FALSE NEIGHBOUR: 'it returns false'. Refute it at one input. -/
def storeCrashWrong : ChangeSpec := { name := "storeCrash", fn := fun _ => fun
  | [d1, d2] => { results := [.lit (.bool false)], args := [d1, d2] }
  | _ => none }
def StoreCrashWrongFalsely : Prop := storeCrashRow.holds Tryd.pinned (OpenSpec.ofChange storeCrashWrong)

/-- 'caracolelaw.StoreRefuses': WHATEVER THE INPUT: true; the input reads as it did. -/
def storeRefusesSpec : ChangeSpec := { name := "storeRefuses", fn := fun _ => fun
  | [d] => { results := [.lit (.bool true)], args := [d] }
  | _ => none }
def storeRefusesRow : OpenClaim := { program := "ytihfjmdjjeciiacdoor", sum := "207ac86dca1c69da6d3f370d799e0e02fff05d3c2f74a1c6bf2bd8e8e876efbf", func := "caracole/caracolelaw.StoreRefuses", spec := "storeRefuses", unfollowed := true, recurses := true, named := ["caracole/code.limits"], apart := false, laid := [("caracole/code.limits", laid_caracole_code_limits)] }
def StoreRefusesSaid : Prop := storeRefusesRow.holds Tryd.pinned (OpenSpec.ofChange storeRefusesSpec)

/-- ITS FALSE NEIGHBOUR: 'it returns false'. Refute it at one input. -/
def storeRefusesWrong : ChangeSpec := { name := "storeRefuses", fn := fun _ => fun
  | [d] => { results := [.lit (.bool false)], args := [d] }
  | _ => none }
def StoreRefusesWrongFalsely : Prop := storeRefusesRow.holds Tryd.pinned (OpenSpec.ofChange storeRefusesWrong)

/- THE SECOND FORM. 'bulk': how many values and letters a reading holds, each counted each time it is reached (what is shared counts as often as it is met; a slice's spare places count too). A statement '..UptoSaid' is the law's where the arguments, and the package variables that the reading takes, are together of bulk at most 1048576: NARROWER than '..Said'. Prove '..Said' where nothing that the law and all that it calls make is longer than what came in: it says more and counts as full. Else prove '..UptoSaid'. A law counts once. -/
mutual
def uptoBulk {H : Type} : DataW H → Nat
  | .lit (.string bytes) => bytes.length + 1
  | .lit _ => 1
  | .nil => 1
  | .ptr d => uptoBulk d + 1
  | .slice elems spare => uptoBulkAll elems + uptoBulkAll spare + 1
  | .agg parts => uptoBulkAll parts + 1
  | .iface _ d => uptoBulk d + 1
  | .map entries => uptoBulkEntries entries + 1
  | .held _ => 1
def uptoBulkAll {H : Type} : List (DataW H) → Nat
  | [] => 0
  | d :: r => uptoBulk d + uptoBulkAll r
def uptoBulkEntries {H : Type} : List (Lit × DataW H) → Nat
  | [] => 0
  | x :: r => uptoBulkEntry x + uptoBulkEntries r
def uptoBulkEntry {H : Type} : Lit × DataW H → Nat
  | (.string bytes, d) => bytes.length + uptoBulk d + 1
  | (_, d) => uptoBulk d + 1
 end
def uptoSmall : (H : Type) → List (DataW H) → Bool := fun _ ds => decide (uptoBulkAll ds ≤ 1048576)
def OpenSpec.upto (s : _root_.Go.ChangeSpec) : _root_.Go.OpenSpec := { _root_.Go.OpenSpec.ofChange s with cond := some uptoSmall }

/-- 'caracolelaw.CodecJoins', WHERE WHAT IT READS IS OF BULK AT MOST 1048576: true; the input reads as it did. -/
def codecJoinsUptoRow : OpenClaim := { program := "ytihfjmdjjeciiacdoor", sum := "207ac86dca1c69da6d3f370d799e0e02fff05d3c2f74a1c6bf2bd8e8e876efbf", func := "caracole/caracolelaw.CodecJoins", spec := "codecJoins", unfollowed := true, recurses := true, named := ["caracole/code.limits"], apart := false, laid := [("caracole/code.limits", laid_caracole_code_limits)], narrowed := true }
def CodecJoinsUptoSaid : Prop := codecJoinsUptoRow.holds Tryd.pinned (OpenSpec.upto codecJoinsSpec)

/-- 'caracolelaw.LogDoes', WHERE WHAT IT READS IS OF BULK AT MOST 1048576: true; the input reads as it did. -/
def logDoesUptoRow : OpenClaim := { program := "ytihfjmdjjeciiacdoor", sum := "207ac86dca1c69da6d3f370d799e0e02fff05d3c2f74a1c6bf2bd8e8e876efbf", func := "caracole/caracolelaw.LogDoes", spec := "logDoes", unfollowed := true, recurses := true, named := ["caracole/code.limits"], apart := false, laid := [("caracole/code.limits", laid_caracole_code_limits)], narrowed := true }
def LogDoesUptoSaid : Prop := logDoesUptoRow.holds Tryd.pinned (OpenSpec.upto logDoesSpec)

/-- 'caracolelaw.LogSure', WHERE WHAT IT READS IS OF BULK AT MOST 1048576: true; the input reads as it did. -/
def logSureUptoRow : OpenClaim := { program := "ytihfjmdjjeciiacdoor", sum := "207ac86dca1c69da6d3f370d799e0e02fff05d3c2f74a1c6bf2bd8e8e876efbf", func := "caracole/caracolelaw.LogSure", spec := "logSure", unfollowed := true, recurses := true, named := ["caracole/code.limits"], apart := false, laid := [("caracole/code.limits", laid_caracole_code_limits)], narrowed := true }
def LogSureUptoSaid : Prop := logSureUptoRow.holds Tryd.pinned (OpenSpec.upto logSureSpec)

/-- 'caracolelaw.LogOpens', WHERE WHAT IT READS IS OF BULK AT MOST 1048576: true; the input reads as it did. -/
def logOpensUptoRow : OpenClaim := { program := "ytihfjmdjjeciiacdoor", sum := "207ac86dca1c69da6d3f370d799e0e02fff05d3c2f74a1c6bf2bd8e8e876efbf", func := "caracole/caracolelaw.LogOpens", spec := "logOpens", unfollowed := true, recurses := true, named := ["caracole/code.limits"], apart := false, laid := [("caracole/code.limits", laid_caracole_code_limits)], narrowed := true }
def LogOpensUptoSaid : Prop := logOpensUptoRow.holds Tryd.pinned (OpenSpec.upto logOpensSpec)

/-- 'caracolelaw.LogRefuses', WHERE WHAT IT READS IS OF BULK AT MOST 1048576: true; the input reads as it did. -/
def logRefusesUptoRow : OpenClaim := { program := "ytihfjmdjjeciiacdoor", sum := "207ac86dca1c69da6d3f370d799e0e02fff05d3c2f74a1c6bf2bd8e8e876efbf", func := "caracole/caracolelaw.LogRefuses", spec := "logRefuses", unfollowed := true, recurses := true, named := ["caracole/code.limits"], apart := false, laid := [("caracole/code.limits", laid_caracole_code_limits)], narrowed := true }
def LogRefusesUptoSaid : Prop := logRefusesUptoRow.holds Tryd.pinned (OpenSpec.upto logRefusesSpec)

/-- 'caracolelaw.StoreDoes', WHERE WHAT IT READS IS OF BULK AT MOST 1048576: true; the input reads as it did. -/
def storeDoesUptoRow : OpenClaim := { program := "ytihfjmdjjeciiacdoor", sum := "207ac86dca1c69da6d3f370d799e0e02fff05d3c2f74a1c6bf2bd8e8e876efbf", func := "caracole/caracolelaw.StoreDoes", spec := "storeDoes", unfollowed := true, recurses := true, named := ["caracole/code.limits"], apart := false, laid := [("caracole/code.limits", laid_caracole_code_limits)], narrowed := true }
def StoreDoesUptoSaid : Prop := storeDoesUptoRow.holds Tryd.pinned (OpenSpec.upto storeDoesSpec)

/-- 'caracolelaw.StoreStays', WHERE WHAT IT READS IS OF BULK AT MOST 1048576: true; the input reads as it did. -/
def storeStaysUptoRow : OpenClaim := { program := "ytihfjmdjjeciiacdoor", sum := "207ac86dca1c69da6d3f370d799e0e02fff05d3c2f74a1c6bf2bd8e8e876efbf", func := "caracole/caracolelaw.StoreStays", spec := "storeStays", unfollowed := true, recurses := true, named := ["caracole/code.limits"], apart := false, laid := [("caracole/code.limits", laid_caracole_code_limits)], narrowed := true }
def StoreStaysUptoSaid : Prop := storeStaysUptoRow.holds Tryd.pinned (OpenSpec.upto storeStaysSpec)

/-- 'caracolelaw.StorePicks', WHERE WHAT IT READS IS OF BULK AT MOST 1048576: true; the input reads as it did. -/
def storePicksUptoRow : OpenClaim := { program := "ytihfjmdjjeciiacdoor", sum := "207ac86dca1c69da6d3f370d799e0e02fff05d3c2f74a1c6bf2bd8e8e876efbf", func := "caracole/caracolelaw.StorePicks", spec := "storePicks", unfollowed := true, recurses := true, named := ["caracole/code.limits"], apart := false, laid := [("caracole/code.limits", laid_caracole_code_limits)], narrowed := true }
def StorePicksUptoSaid : Prop := storePicksUptoRow.holds Tryd.pinned (OpenSpec.upto storePicksSpec)

/-- 'caracolelaw.StoreCrash', WHERE WHAT IT READS IS OF BULK AT MOST 1048576: true; the input reads as it did. -/
def storeCrashUptoRow : OpenClaim := { program := "ytihfjmdjjeciiacdoor", sum := "207ac86dca1c69da6d3f370d799e0e02fff05d3c2f74a1c6bf2bd8e8e876efbf", func := "caracole/caracolelaw.StoreCrash", spec := "storeCrash", unfollowed := true, recurses := true, named := ["caracole/code.limits"], apart := false, laid := [("caracole/code.limits", laid_caracole_code_limits)], narrowed := true }
def StoreCrashUptoSaid : Prop := storeCrashUptoRow.holds Tryd.pinned (OpenSpec.upto storeCrashSpec)

/-- 'caracolelaw.StoreRefuses', WHERE WHAT IT READS IS OF BULK AT MOST 1048576: true; the input reads as it did. -/
def storeRefusesUptoRow : OpenClaim := { program := "ytihfjmdjjeciiacdoor", sum := "207ac86dca1c69da6d3f370d799e0e02fff05d3c2f74a1c6bf2bd8e8e876efbf", func := "caracole/caracolelaw.StoreRefuses", spec := "storeRefuses", unfollowed := true, recurses := true, named := ["caracole/code.limits"], apart := false, laid := [("caracole/code.limits", laid_caracole_code_limits)], narrowed := true }
def StoreRefusesUptoSaid : Prop := storeRefusesUptoRow.holds Tryd.pinned (OpenSpec.upto storeRefusesSpec)

end Rows
end Go.Proofs.YtihfjmdjjeciiacDoor
