/-
  NARROWER THAN 'FOR EVERY INPUT', by the rows' own cells (each row's printed sentence says how): CodecJoins: laid · LogDoes: laid · LogSure: laid · LogOpens: laid · LogRefuses: laid · StoreDoes: laid · StoreStays: laid · StorePicks: laid · StoreCrash: laid · StoreRefuses: laid · TextDoes: laid · TextBack: laid.
  DERIVED. THE GIVEN ROWS OF THIS SEAT. 12 by the template 'for every input the law returns true; each argument reads behind the call as it read before'; 0 by the template 'total and deterministic' (their statements: YtdohockbmphhfacDoorTotals.lean).
  GIVEN WITH THE SEED: the statements are not yours to turn. If you find one false, say at which input.
  Laid BY PROGRAM, IN A SANDBOX (cutbox-rows.mjs): the forced cells as the released guide's own fill.sh prints them over the translation 26ac4db900eeddb1… (all of the seat's roots in one cut). By AI agents, Wed Nov 11 2026. No macro, syntax, notation, axiom, sorry.
-/
import Derived.Test.YtdohockbmphhfacDoorChecked
import GoSem.Claim
import GoSem.ClaimJoined
import GoSem.ClaimMapViews
import Derived.JoinedTies
import Derived.KernelRfl
namespace Go.Proofs.YtdohockbmphhfacDoor
/- THE CELL 'sum', in the pinned program and in every row, IS THE sha256 OF THE DUMP (.gsa) THAT YtdohockbmphhfacDoorProg.lean LOADS. Nothing in Lean hashes anything: it is a label: what it is worth is what the hold of that sum in a sandbox is worth. -/
noncomputable def Tryd.pinned : Pinned := { name := "ytdohockbmphhfacdoor", sum := "26ac4db900eeddb19213b9546c6361f1d36a93913bce13a3be5a81f5caab3b95", checked := Tryd.checked }
namespace Rows
def none {H : Type} : Left H := { results := [], args := [] }

/- WHAT THE LISTED PACKAGE-LEVEL VARIABLES READ AS WHEN THE CALL BEGINS. Each datum BY PROGRAM (the guide's laid-datum.mjs) off the statement by which the dump's own 'gosem.cut.vars' lays the variable. In a bare row this is a premise. The card (YtdohockbmphhfacDoorCards.lean) ties it to the program's text. -/
def laid_caracole_code_limits {H : Type} : DataW H := .agg [.agg [.lit (.int .i64 0), .lit (.int .i64 0), .lit (.int .i64 0)], .agg [.lit (.int .i64 4), .lit (.int .i64 0), .lit (.int .i64 0)], .agg [.lit (.int .i64 4), .lit (.int .i64 10), .lit (.int .i64 0)], .agg [.lit (.int .i64 4), .lit (.int .i64 4), .lit (.int .i64 4)], .agg [.lit (.int .i64 4), .lit (.int .i64 4), .lit (.int .i64 4)], .agg [.lit (.int .i64 4), .lit (.int .i64 4), .lit (.int .i64 4)], .agg [.lit (.int .i64 4), .lit (.int .i64 4), .lit (.int .i64 4)], .agg [.lit (.int .i64 10), .lit (.int .i64 4), .lit (.int .i64 0)], .agg [.lit (.int .i64 4), .lit (.int .i64 0), .lit (.int .i64 0)], .agg [.lit (.int .i64 4), .lit (.int .i64 14), .lit (.int .i64 0)]]
def laid_math_bits_deBruijn32tab {H : Type} : DataW H := .agg [.lit (.int .u8 0), .lit (.int .u8 1), .lit (.int .u8 28), .lit (.int .u8 2), .lit (.int .u8 29), .lit (.int .u8 14), .lit (.int .u8 24), .lit (.int .u8 3), .lit (.int .u8 30), .lit (.int .u8 22), .lit (.int .u8 20), .lit (.int .u8 15), .lit (.int .u8 25), .lit (.int .u8 17), .lit (.int .u8 4), .lit (.int .u8 8), .lit (.int .u8 31), .lit (.int .u8 27), .lit (.int .u8 13), .lit (.int .u8 23), .lit (.int .u8 21), .lit (.int .u8 19), .lit (.int .u8 16), .lit (.int .u8 7), .lit (.int .u8 26), .lit (.int .u8 12), .lit (.int .u8 18), .lit (.int .u8 6), .lit (.int .u8 11), .lit (.int .u8 5), .lit (.int .u8 10), .lit (.int .u8 9)]
def laid_math_bits_deBruijn64tab {H : Type} : DataW H := .agg [.lit (.int .u8 0), .lit (.int .u8 1), .lit (.int .u8 56), .lit (.int .u8 2), .lit (.int .u8 57), .lit (.int .u8 49), .lit (.int .u8 28), .lit (.int .u8 3), .lit (.int .u8 61), .lit (.int .u8 58), .lit (.int .u8 42), .lit (.int .u8 50), .lit (.int .u8 38), .lit (.int .u8 29), .lit (.int .u8 17), .lit (.int .u8 4), .lit (.int .u8 62), .lit (.int .u8 47), .lit (.int .u8 59), .lit (.int .u8 36), .lit (.int .u8 45), .lit (.int .u8 43), .lit (.int .u8 51), .lit (.int .u8 22), .lit (.int .u8 53), .lit (.int .u8 39), .lit (.int .u8 33), .lit (.int .u8 30), .lit (.int .u8 24), .lit (.int .u8 18), .lit (.int .u8 12), .lit (.int .u8 5), .lit (.int .u8 63), .lit (.int .u8 55), .lit (.int .u8 48), .lit (.int .u8 27), .lit (.int .u8 60), .lit (.int .u8 41), .lit (.int .u8 37), .lit (.int .u8 16), .lit (.int .u8 46), .lit (.int .u8 35), .lit (.int .u8 44), .lit (.int .u8 21), .lit (.int .u8 52), .lit (.int .u8 32), .lit (.int .u8 23), .lit (.int .u8 11), .lit (.int .u8 54), .lit (.int .u8 26), .lit (.int .u8 40), .lit (.int .u8 15), .lit (.int .u8 34), .lit (.int .u8 20), .lit (.int .u8 31), .lit (.int .u8 10), .lit (.int .u8 25), .lit (.int .u8 14), .lit (.int .u8 19), .lit (.int .u8 9), .lit (.int .u8 13), .lit (.int .u8 8), .lit (.int .u8 7), .lit (.int .u8 6)]
def laid_internal_strconv_uint64pow10 {H : Type} : DataW H := .agg [.lit (.int .u64 1), .lit (.int .u64 10), .lit (.int .u64 100), .lit (.int .u64 1000), .lit (.int .u64 10000), .lit (.int .u64 100000), .lit (.int .u64 1000000), .lit (.int .u64 10000000), .lit (.int .u64 100000000), .lit (.int .u64 1000000000), .lit (.int .u64 10000000000), .lit (.int .u64 100000000000), .lit (.int .u64 1000000000000), .lit (.int .u64 10000000000000), .lit (.int .u64 100000000000000), .lit (.int .u64 1000000000000000), .lit (.int .u64 10000000000000000), .lit (.int .u64 100000000000000000), .lit (.int .u64 1000000000000000000), .lit (.int .u64 10000000000000000000)]
def laid_strconv_ErrRange {H : Type} : DataW H := .iface "*errors.errorString" (.ptr (.agg [.lit (.string [118, 97, 108, 117, 101, 32, 111, 117, 116, 32, 111, 102, 32, 114, 97, 110, 103, 101])]))
def laid_strconv_ErrSyntax {H : Type} : DataW H := .iface "*errors.errorString" (.ptr (.agg [.lit (.string [105, 110, 118, 97, 108, 105, 100, 32, 115, 121, 110, 116, 97, 120])]))
def laid_caracole_caracoleref_names {H : Type} : DataW H := .slice [.lit (.string []), .lit (.string [110, 117, 109]), .lit (.string [108, 111, 97, 100]), .lit (.string [97, 100, 100]), .lit (.string [115, 117, 98]), .lit (.string [109, 117, 108]), .lit (.string [108, 101, 115, 115]), .lit (.string [115, 116, 111, 114, 101]), .lit (.string [115, 116, 111, 112]), .lit (.string [115, 107, 105, 112])] []
def laid_caracole_caracoleref_counts {H : Type} : DataW H := .slice [.lit (.int .i64 0), .lit (.int .i64 2), .lit (.int .i64 2), .lit (.int .i64 3), .lit (.int .i64 3), .lit (.int .i64 3), .lit (.int .i64 3), .lit (.int .i64 2), .lit (.int .i64 1), .lit (.int .i64 2)] []
def laid_caracole_text_forms {H : Type} : DataW H := .agg [.agg [.lit (.string []), .lit (.int .i64 0)], .agg [.lit (.string [110, 117, 109]), .lit (.int .i64 2)], .agg [.lit (.string [108, 111, 97, 100]), .lit (.int .i64 2)], .agg [.lit (.string [97, 100, 100]), .lit (.int .i64 3)], .agg [.lit (.string [115, 117, 98]), .lit (.int .i64 3)], .agg [.lit (.string [109, 117, 108]), .lit (.int .i64 3)], .agg [.lit (.string [108, 101, 115, 115]), .lit (.int .i64 3)], .agg [.lit (.string [115, 116, 111, 114, 101]), .lit (.int .i64 2)], .agg [.lit (.string [115, 116, 111, 112]), .lit (.int .i64 1)], .agg [.lit (.string [115, 107, 105, 112]), .lit (.int .i64 2)]]

/-- 'caracolelaw.CodecJoins': WHATEVER THE INPUT: true; the input reads as it did. -/
def codecJoinsSpec : ChangeSpec := { name := "codecJoins", fn := fun _ => fun
  | [d1, d2] => { results := [.lit (.bool true)], args := [d1, d2] }
  | _ => none }
def codecJoinsRow : OpenClaim := { program := "ytdohockbmphhfacdoor", sum := "26ac4db900eeddb19213b9546c6361f1d36a93913bce13a3be5a81f5caab3b95", func := "caracole/caracolelaw.CodecJoins", spec := "codecJoins", unfollowed := true, recurses := true, named := ["caracole/code.limits"], apart := false, laid := [("caracole/code.limits", laid_caracole_code_limits)] }
def CodecJoinsSaid : Prop := codecJoinsRow.holds Tryd.pinned (OpenSpec.ofChange codecJoinsSpec)

/-- ITS FALSE NEIGHBOUR: 'it returns false'. Refute it at one input. -/
def codecJoinsWrong : ChangeSpec := { name := "codecJoins", fn := fun _ => fun
  | [d1, d2] => { results := [.lit (.bool false)], args := [d1, d2] }
  | _ => none }
def CodecJoinsWrongFalsely : Prop := codecJoinsRow.holds Tryd.pinned (OpenSpec.ofChange codecJoinsWrong)

/-- 'caracolelaw.LogDoes': WHATEVER THE INPUT: true; the input reads as it did. -/
def logDoesSpec : ChangeSpec := { name := "logDoes", fn := fun _ => fun
  | [d1, d2, d3] => { results := [.lit (.bool true)], args := [d1, d2, d3] }
  | _ => none }
def logDoesRow : OpenClaim := { program := "ytdohockbmphhfacdoor", sum := "26ac4db900eeddb19213b9546c6361f1d36a93913bce13a3be5a81f5caab3b95", func := "caracole/caracolelaw.LogDoes", spec := "logDoes", unfollowed := true, recurses := true, named := ["caracole/code.limits"], apart := false, laid := [("caracole/code.limits", laid_caracole_code_limits)] }
def LogDoesSaid : Prop := logDoesRow.holds Tryd.pinned (OpenSpec.ofChange logDoesSpec)

/-- ITS FALSE NEIGHBOUR: 'it returns false'. Refute it at one input. -/
def logDoesWrong : ChangeSpec := { name := "logDoes", fn := fun _ => fun
  | [d1, d2, d3] => { results := [.lit (.bool false)], args := [d1, d2, d3] }
  | _ => none }
def LogDoesWrongFalsely : Prop := logDoesRow.holds Tryd.pinned (OpenSpec.ofChange logDoesWrong)

/-- 'caracolelaw.LogSure': WHATEVER THE INPUT: true; the input reads as it did. -/
def logSureSpec : ChangeSpec := { name := "logSure", fn := fun _ => fun
  | [d1, d2, d3] => { results := [.lit (.bool true)], args := [d1, d2, d3] }
  | _ => none }
def logSureRow : OpenClaim := { program := "ytdohockbmphhfacdoor", sum := "26ac4db900eeddb19213b9546c6361f1d36a93913bce13a3be5a81f5caab3b95", func := "caracole/caracolelaw.LogSure", spec := "logSure", unfollowed := true, recurses := true, named := ["caracole/code.limits"], apart := false, laid := [("caracole/code.limits", laid_caracole_code_limits)] }
def LogSureSaid : Prop := logSureRow.holds Tryd.pinned (OpenSpec.ofChange logSureSpec)

/-- ITS FALSE NEIGHBOUR: 'it returns false'. Refute it at one input. -/
def logSureWrong : ChangeSpec := { name := "logSure", fn := fun _ => fun
  | [d1, d2, d3] => { results := [.lit (.bool false)], args := [d1, d2, d3] }
  | _ => none }
def LogSureWrongFalsely : Prop := logSureRow.holds Tryd.pinned (OpenSpec.ofChange logSureWrong)

/-- 'caracolelaw.LogOpens': WHATEVER THE INPUT: true; the input reads as it did. -/
def logOpensSpec : ChangeSpec := { name := "logOpens", fn := fun _ => fun
  | [d1, d2, d3] => { results := [.lit (.bool true)], args := [d1, d2, d3] }
  | _ => none }
def logOpensRow : OpenClaim := { program := "ytdohockbmphhfacdoor", sum := "26ac4db900eeddb19213b9546c6361f1d36a93913bce13a3be5a81f5caab3b95", func := "caracole/caracolelaw.LogOpens", spec := "logOpens", unfollowed := true, recurses := true, named := ["caracole/code.limits"], apart := false, laid := [("caracole/code.limits", laid_caracole_code_limits)] }
def LogOpensSaid : Prop := logOpensRow.holds Tryd.pinned (OpenSpec.ofChange logOpensSpec)

/-- ITS FALSE NEIGHBOUR: 'it returns false'. Refute it at one input. -/
def logOpensWrong : ChangeSpec := { name := "logOpens", fn := fun _ => fun
  | [d1, d2, d3] => { results := [.lit (.bool false)], args := [d1, d2, d3] }
  | _ => none }
def LogOpensWrongFalsely : Prop := logOpensRow.holds Tryd.pinned (OpenSpec.ofChange logOpensWrong)

/-- 'caracolelaw.LogRefuses': WHATEVER THE INPUT: true; the input reads as it did. -/
def logRefusesSpec : ChangeSpec := { name := "logRefuses", fn := fun _ => fun
  | [d1, d2] => { results := [.lit (.bool true)], args := [d1, d2] }
  | _ => none }
def logRefusesRow : OpenClaim := { program := "ytdohockbmphhfacdoor", sum := "26ac4db900eeddb19213b9546c6361f1d36a93913bce13a3be5a81f5caab3b95", func := "caracole/caracolelaw.LogRefuses", spec := "logRefuses", unfollowed := true, recurses := true, named := ["caracole/code.limits"], apart := false, laid := [("caracole/code.limits", laid_caracole_code_limits)] }
def LogRefusesSaid : Prop := logRefusesRow.holds Tryd.pinned (OpenSpec.ofChange logRefusesSpec)

/-- ITS FALSE NEIGHBOUR: 'it returns false'. Refute it at one input. -/
def logRefusesWrong : ChangeSpec := { name := "logRefuses", fn := fun _ => fun
  | [d1, d2] => { results := [.lit (.bool false)], args := [d1, d2] }
  | _ => none }
def LogRefusesWrongFalsely : Prop := logRefusesRow.holds Tryd.pinned (OpenSpec.ofChange logRefusesWrong)

/-- 'caracolelaw.StoreDoes': WHATEVER THE INPUT: true; the input reads as it did. -/
def storeDoesSpec : ChangeSpec := { name := "storeDoes", fn := fun _ => fun
  | [d1, d2] => { results := [.lit (.bool true)], args := [d1, d2] }
  | _ => none }
def storeDoesRow : OpenClaim := { program := "ytdohockbmphhfacdoor", sum := "26ac4db900eeddb19213b9546c6361f1d36a93913bce13a3be5a81f5caab3b95", func := "caracole/caracolelaw.StoreDoes", spec := "storeDoes", unfollowed := true, recurses := true, named := ["caracole/code.limits"], apart := false, laid := [("caracole/code.limits", laid_caracole_code_limits)] }
def StoreDoesSaid : Prop := storeDoesRow.holds Tryd.pinned (OpenSpec.ofChange storeDoesSpec)

/-- ITS FALSE NEIGHBOUR: 'it returns false'. Refute it at one input. -/
def storeDoesWrong : ChangeSpec := { name := "storeDoes", fn := fun _ => fun
  | [d1, d2] => { results := [.lit (.bool false)], args := [d1, d2] }
  | _ => none }
def StoreDoesWrongFalsely : Prop := storeDoesRow.holds Tryd.pinned (OpenSpec.ofChange storeDoesWrong)

/-- 'caracolelaw.StoreStays': WHATEVER THE INPUT: true; the input reads as it did. -/
def storeStaysSpec : ChangeSpec := { name := "storeStays", fn := fun _ => fun
  | [d] => { results := [.lit (.bool true)], args := [d] }
  | _ => none }
def storeStaysRow : OpenClaim := { program := "ytdohockbmphhfacdoor", sum := "26ac4db900eeddb19213b9546c6361f1d36a93913bce13a3be5a81f5caab3b95", func := "caracole/caracolelaw.StoreStays", spec := "storeStays", unfollowed := true, recurses := true, named := ["caracole/code.limits"], apart := false, laid := [("caracole/code.limits", laid_caracole_code_limits)] }
def StoreStaysSaid : Prop := storeStaysRow.holds Tryd.pinned (OpenSpec.ofChange storeStaysSpec)

/-- ITS FALSE NEIGHBOUR: 'it returns false'. Refute it at one input. -/
def storeStaysWrong : ChangeSpec := { name := "storeStays", fn := fun _ => fun
  | [d] => { results := [.lit (.bool false)], args := [d] }
  | _ => none }
def StoreStaysWrongFalsely : Prop := storeStaysRow.holds Tryd.pinned (OpenSpec.ofChange storeStaysWrong)

/-- 'caracolelaw.StorePicks': WHATEVER THE INPUT: true; the input reads as it did. -/
def storePicksSpec : ChangeSpec := { name := "storePicks", fn := fun _ => fun
  | [d1, d2] => { results := [.lit (.bool true)], args := [d1, d2] }
  | _ => none }
def storePicksRow : OpenClaim := { program := "ytdohockbmphhfacdoor", sum := "26ac4db900eeddb19213b9546c6361f1d36a93913bce13a3be5a81f5caab3b95", func := "caracole/caracolelaw.StorePicks", spec := "storePicks", unfollowed := true, recurses := true, named := ["caracole/code.limits"], apart := false, laid := [("caracole/code.limits", laid_caracole_code_limits)] }
def StorePicksSaid : Prop := storePicksRow.holds Tryd.pinned (OpenSpec.ofChange storePicksSpec)

/-- ITS FALSE NEIGHBOUR: 'it returns false'. Refute it at one input. -/
def storePicksWrong : ChangeSpec := { name := "storePicks", fn := fun _ => fun
  | [d1, d2] => { results := [.lit (.bool false)], args := [d1, d2] }
  | _ => none }
def StorePicksWrongFalsely : Prop := storePicksRow.holds Tryd.pinned (OpenSpec.ofChange storePicksWrong)

/-- 'caracolelaw.StoreCrash': WHATEVER THE INPUT: true; the input reads as it did. -/
def storeCrashSpec : ChangeSpec := { name := "storeCrash", fn := fun _ => fun
  | [d1, d2] => { results := [.lit (.bool true)], args := [d1, d2] }
  | _ => none }
def storeCrashRow : OpenClaim := { program := "ytdohockbmphhfacdoor", sum := "26ac4db900eeddb19213b9546c6361f1d36a93913bce13a3be5a81f5caab3b95", func := "caracole/caracolelaw.StoreCrash", spec := "storeCrash", unfollowed := true, recurses := true, named := ["caracole/code.limits"], apart := false, laid := [("caracole/code.limits", laid_caracole_code_limits)] }
def StoreCrashSaid : Prop := storeCrashRow.holds Tryd.pinned (OpenSpec.ofChange storeCrashSpec)

/-- ITS FALSE NEIGHBOUR: 'it returns false'. Refute it at one input. -/
def storeCrashWrong : ChangeSpec := { name := "storeCrash", fn := fun _ => fun
  | [d1, d2] => { results := [.lit (.bool false)], args := [d1, d2] }
  | _ => none }
def StoreCrashWrongFalsely : Prop := storeCrashRow.holds Tryd.pinned (OpenSpec.ofChange storeCrashWrong)

/-- 'caracolelaw.StoreRefuses': WHATEVER THE INPUT: true; the input reads as it did. -/
def storeRefusesSpec : ChangeSpec := { name := "storeRefuses", fn := fun _ => fun
  | [d] => { results := [.lit (.bool true)], args := [d] }
  | _ => none }
def storeRefusesRow : OpenClaim := { program := "ytdohockbmphhfacdoor", sum := "26ac4db900eeddb19213b9546c6361f1d36a93913bce13a3be5a81f5caab3b95", func := "caracole/caracolelaw.StoreRefuses", spec := "storeRefuses", unfollowed := true, recurses := true, named := ["caracole/code.limits"], apart := false, laid := [("caracole/code.limits", laid_caracole_code_limits)] }
def StoreRefusesSaid : Prop := storeRefusesRow.holds Tryd.pinned (OpenSpec.ofChange storeRefusesSpec)

/-- ITS FALSE NEIGHBOUR: 'it returns false'. Refute it at one input. -/
def storeRefusesWrong : ChangeSpec := { name := "storeRefuses", fn := fun _ => fun
  | [d] => { results := [.lit (.bool false)], args := [d] }
  | _ => none }
def StoreRefusesWrongFalsely : Prop := storeRefusesRow.holds Tryd.pinned (OpenSpec.ofChange storeRefusesWrong)

/-- 'caracolelaw.TextDoes': WHATEVER THE INPUT: true; the input reads as it did. -/
def textDoesSpec : ChangeSpec := { name := "textDoes", fn := fun _ => fun
  | [d1, d2] => { results := [.lit (.bool true)], args := [d1, d2] }
  | _ => none }
def textDoesRow : OpenClaim := { program := "ytdohockbmphhfacdoor", sum := "26ac4db900eeddb19213b9546c6361f1d36a93913bce13a3be5a81f5caab3b95", func := "caracole/caracolelaw.TextDoes", spec := "textDoes", inPlace := ["internal/bytealg.IndexByteString", "internal/bytealg.IndexString", "internal/abi.NoEscape"], unfollowed := true, recurses := true, named := ["internal/bytealg.MaxLen", "caracole/text.forms", "strconv.ErrSyntax", "strconv.ErrRange", "internal/strconv.uint64pow10", "math/bits.deBruijn32tab", "math/bits.deBruijn64tab", "caracole/code.limits", "caracole/caracoleref.names", "caracole/caracoleref.counts"], apart := false, laid := [("math/bits.deBruijn32tab", laid_math_bits_deBruijn32tab), ("math/bits.deBruijn64tab", laid_math_bits_deBruijn64tab), ("internal/strconv.uint64pow10", laid_internal_strconv_uint64pow10), ("caracole/code.limits", laid_caracole_code_limits), ("strconv.ErrRange", laid_strconv_ErrRange), ("strconv.ErrSyntax", laid_strconv_ErrSyntax), ("caracole/caracoleref.names", laid_caracole_caracoleref_names), ("caracole/caracoleref.counts", laid_caracole_caracoleref_counts), ("caracole/text.forms", laid_caracole_text_forms)] }
def TextDoesSaid : Prop := textDoesRow.holds Tryd.pinned (OpenSpec.ofChange textDoesSpec)

/-- ITS FALSE NEIGHBOUR: 'it returns false'. Refute it at one input. -/
def textDoesWrong : ChangeSpec := { name := "textDoes", fn := fun _ => fun
  | [d1, d2] => { results := [.lit (.bool false)], args := [d1, d2] }
  | _ => none }
def TextDoesWrongFalsely : Prop := textDoesRow.holds Tryd.pinned (OpenSpec.ofChange textDoesWrong)

/-- 'caracolelaw.TextBack': WHATEVER THE INPUT: true; the input reads as it did. -/
def textBackSpec : ChangeSpec := { name := "textBack", fn := fun _ => fun
  | [d1, d2, d3] => { results := [.lit (.bool true)], args := [d1, d2, d3] }
  | _ => none }
def textBackRow : OpenClaim := { program := "ytdohockbmphhfacdoor", sum := "26ac4db900eeddb19213b9546c6361f1d36a93913bce13a3be5a81f5caab3b95", func := "caracole/caracolelaw.TextBack", spec := "textBack", inPlace := ["internal/bytealg.IndexByteString", "internal/bytealg.IndexString", "internal/abi.NoEscape"], unfollowed := true, recurses := true, named := ["internal/bytealg.MaxLen", "caracole/text.forms", "strconv.ErrSyntax", "strconv.ErrRange", "internal/strconv.uint64pow10", "math/bits.deBruijn32tab", "math/bits.deBruijn64tab", "caracole/code.limits"], apart := false, laid := [("math/bits.deBruijn32tab", laid_math_bits_deBruijn32tab), ("math/bits.deBruijn64tab", laid_math_bits_deBruijn64tab), ("internal/strconv.uint64pow10", laid_internal_strconv_uint64pow10), ("caracole/code.limits", laid_caracole_code_limits), ("strconv.ErrRange", laid_strconv_ErrRange), ("strconv.ErrSyntax", laid_strconv_ErrSyntax), ("caracole/text.forms", laid_caracole_text_forms)] }
def TextBackSaid : Prop := textBackRow.holds Tryd.pinned (OpenSpec.ofChange textBackSpec)

/-- ITS FALSE NEIGHBOUR: 'it returns false'. Refute it at one input. -/
def textBackWrong : ChangeSpec := { name := "textBack", fn := fun _ => fun
  | [d1, d2, d3] => { results := [.lit (.bool false)], args := [d1, d2, d3] }
  | _ => none }
def TextBackWrongFalsely : Prop := textBackRow.holds Tryd.pinned (OpenSpec.ofChange textBackWrong)

/- THE SECOND FORM. 'bulk': how many values and letters a reading holds, each counted each time it is reached (what is shared counts as often as it is met; a slice's spare places count too). A statement '..UptoSaid' is the law's where the arguments, and the package variables that the reading takes, are together of bulk at most 1048576: NARROWER than '..Said'. Prove '..Said' where nothing that the law and all that it calls make is longer than what came in: it says more and counts as full. Else prove '..UptoSaid'. A law counts once. -/
mutual
def uptoBulk {H : Type} : DataW H → Nat
  | .lit (.string bytes) => bytes.length + 1
  | .lit _ => 1
  | .nil => 1
  | .ptr d => uptoBulk d + 1
  | .slice elems spare => uptoBulkAll elems + uptoBulkAll spare + 1
  | .agg parts => uptoBulkAll parts + 1
  | .iface _ d => uptoBulk d + 1
  | .map entries => uptoBulkEntries entries + 1
  | .held _ => 1
def uptoBulkAll {H : Type} : List (DataW H) → Nat
  | [] => 0
  | d :: r => uptoBulk d + uptoBulkAll r
def uptoBulkEntries {H : Type} : List (Lit × DataW H) → Nat
  | [] => 0
  | x :: r => uptoBulkEntry x + uptoBulkEntries r
def uptoBulkEntry {H : Type} : Lit × DataW H → Nat
  | (.string bytes, d) => bytes.length + uptoBulk d + 1
  | (_, d) => uptoBulk d + 1
 end
def uptoSmall : (H : Type) → List (DataW H) → Bool := fun _ ds => decide (uptoBulkAll ds ≤ 1048576)
def OpenSpec.upto (s : _root_.Go.ChangeSpec) : _root_.Go.OpenSpec := { _root_.Go.OpenSpec.ofChange s with cond := some uptoSmall }

/-- 'caracolelaw.CodecJoins', WHERE WHAT IT READS IS OF BULK AT MOST 1048576: true; the input reads as it did. -/
def codecJoinsUptoRow : OpenClaim := { program := "ytdohockbmphhfacdoor", sum := "26ac4db900eeddb19213b9546c6361f1d36a93913bce13a3be5a81f5caab3b95", func := "caracole/caracolelaw.CodecJoins", spec := "codecJoins", unfollowed := true, recurses := true, named := ["caracole/code.limits"], apart := false, laid := [("caracole/code.limits", laid_caracole_code_limits)], narrowed := true }
def CodecJoinsUptoSaid : Prop := codecJoinsUptoRow.holds Tryd.pinned (OpenSpec.upto codecJoinsSpec)

/-- 'caracolelaw.LogDoes', WHERE WHAT IT READS IS OF BULK AT MOST 1048576: true; the input reads as it did. -/
def logDoesUptoRow : OpenClaim := { program := "ytdohockbmphhfacdoor", sum := "26ac4db900eeddb19213b9546c6361f1d36a93913bce13a3be5a81f5caab3b95", func := "caracole/caracolelaw.LogDoes", spec := "logDoes", unfollowed := true, recurses := true, named := ["caracole/code.limits"], apart := false, laid := [("caracole/code.limits", laid_caracole_code_limits)], narrowed := true }
def LogDoesUptoSaid : Prop := logDoesUptoRow.holds Tryd.pinned (OpenSpec.upto logDoesSpec)

/-- 'caracolelaw.LogSure', WHERE WHAT IT READS IS OF BULK AT MOST 1048576: true; the input reads as it did. -/
def logSureUptoRow : OpenClaim := { program := "ytdohockbmphhfacdoor", sum := "26ac4db900eeddb19213b9546c6361f1d36a93913bce13a3be5a81f5caab3b95", func := "caracole/caracolelaw.LogSure", spec := "logSure", unfollowed := true, recurses := true, named := ["caracole/code.limits"], apart := false, laid := [("caracole/code.limits", laid_caracole_code_limits)], narrowed := true }
def LogSureUptoSaid : Prop := logSureUptoRow.holds Tryd.pinned (OpenSpec.upto logSureSpec)

/-- 'caracolelaw.LogOpens', WHERE WHAT IT READS IS OF BULK AT MOST 1048576: true; the input reads as it did. -/
def logOpensUptoRow : OpenClaim := { program := "ytdohockbmphhfacdoor", sum := "26ac4db900eeddb19213b9546c6361f1d36a93913bce13a3be5a81f5caab3b95", func := "caracole/caracolelaw.LogOpens", spec := "logOpens", unfollowed := true, recurses := true, named := ["caracole/code.limits"], apart := false, laid := [("caracole/code.limits", laid_caracole_code_limits)], narrowed := true }
def LogOpensUptoSaid : Prop := logOpensUptoRow.holds Tryd.pinned (OpenSpec.upto logOpensSpec)

/-- 'caracolelaw.LogRefuses', WHERE WHAT IT READS IS OF BULK AT MOST 1048576: true; the input reads as it did. -/
def logRefusesUptoRow : OpenClaim := { program := "ytdohockbmphhfacdoor", sum := "26ac4db900eeddb19213b9546c6361f1d36a93913bce13a3be5a81f5caab3b95", func := "caracole/caracolelaw.LogRefuses", spec := "logRefuses", unfollowed := true, recurses := true, named := ["caracole/code.limits"], apart := false, laid := [("caracole/code.limits", laid_caracole_code_limits)], narrowed := true }
def LogRefusesUptoSaid : Prop := logRefusesUptoRow.holds Tryd.pinned (OpenSpec.upto logRefusesSpec)

/-- 'caracolelaw.StoreDoes', WHERE WHAT IT READS IS OF BULK AT MOST 1048576: true; the input reads as it did. -/
def storeDoesUptoRow : OpenClaim := { program := "ytdohockbmphhfacdoor", sum := "26ac4db900eeddb19213b9546c6361f1d36a93913bce13a3be5a81f5caab3b95", func := "caracole/caracolelaw.StoreDoes", spec := "storeDoes", unfollowed := true, recurses := true, named := ["caracole/code.limits"], apart := false, laid := [("caracole/code.limits", laid_caracole_code_limits)], narrowed := true }
def StoreDoesUptoSaid : Prop := storeDoesUptoRow.holds Tryd.pinned (OpenSpec.upto storeDoesSpec)

/-- 'caracolelaw.StoreStays', WHERE WHAT IT READS IS OF BULK AT MOST 1048576: true; the input reads as it did. -/
def storeStaysUptoRow : OpenClaim := { program := "ytdohockbmphhfacdoor", sum := "26ac4db900eeddb19213b9546c6361f1d36a93913bce13a3be5a81f5caab3b95", func := "caracole/caracolelaw.StoreStays", spec := "storeStays", unfollowed := true, recurses := true, named := ["caracole/code.limits"], apart := false, laid := [("caracole/code.limits", laid_caracole_code_limits)], narrowed := true }
def StoreStaysUptoSaid : Prop := storeStaysUptoRow.holds Tryd.pinned (OpenSpec.upto storeStaysSpec)

/-- 'caracolelaw.StorePicks', WHERE WHAT IT READS IS OF BULK AT MOST 1048576: true; the input reads as it did. -/
def storePicksUptoRow : OpenClaim := { program := "ytdohockbmphhfacdoor", sum := "26ac4db900eeddb19213b9546c6361f1d36a93913bce13a3be5a81f5caab3b95", func := "caracole/caracolelaw.StorePicks", spec := "storePicks", unfollowed := true, recurses := true, named := ["caracole/code.limits"], apart := false, laid := [("caracole/code.limits", laid_caracole_code_limits)], narrowed := true }
def StorePicksUptoSaid : Prop := storePicksUptoRow.holds Tryd.pinned (OpenSpec.upto storePicksSpec)

/-- 'caracolelaw.StoreCrash', WHERE WHAT IT READS IS OF BULK AT MOST 1048576: true; the input reads as it did. -/
def storeCrashUptoRow : OpenClaim := { program := "ytdohockbmphhfacdoor", sum := "26ac4db900eeddb19213b9546c6361f1d36a93913bce13a3be5a81f5caab3b95", func := "caracole/caracolelaw.StoreCrash", spec := "storeCrash", unfollowed := true, recurses := true, named := ["caracole/code.limits"], apart := false, laid := [("caracole/code.limits", laid_caracole_code_limits)], narrowed := true }
def StoreCrashUptoSaid : Prop := storeCrashUptoRow.holds Tryd.pinned (OpenSpec.upto storeCrashSpec)

/-- 'caracolelaw.StoreRefuses', WHERE WHAT IT READS IS OF BULK AT MOST 1048576: true; the input reads as it did. -/
def storeRefusesUptoRow : OpenClaim := { program := "ytdohockbmphhfacdoor", sum := "26ac4db900eeddb19213b9546c6361f1d36a93913bce13a3be5a81f5caab3b95", func := "caracole/caracolelaw.StoreRefuses", spec := "storeRefuses", unfollowed := true, recurses := true, named := ["caracole/code.limits"], apart := false, laid := [("caracole/code.limits", laid_caracole_code_limits)], narrowed := true }
def StoreRefusesUptoSaid : Prop := storeRefusesUptoRow.holds Tryd.pinned (OpenSpec.upto storeRefusesSpec)

/-- 'caracolelaw.TextDoes', WHERE WHAT IT READS IS OF BULK AT MOST 1048576: true; the input reads as it did. -/
def textDoesUptoRow : OpenClaim := { program := "ytdohockbmphhfacdoor", sum := "26ac4db900eeddb19213b9546c6361f1d36a93913bce13a3be5a81f5caab3b95", func := "caracole/caracolelaw.TextDoes", spec := "textDoes", inPlace := ["internal/bytealg.IndexByteString", "internal/bytealg.IndexString", "internal/abi.NoEscape"], unfollowed := true, recurses := true, named := ["internal/bytealg.MaxLen", "caracole/text.forms", "strconv.ErrSyntax", "strconv.ErrRange", "internal/strconv.uint64pow10", "math/bits.deBruijn32tab", "math/bits.deBruijn64tab", "caracole/code.limits", "caracole/caracoleref.names", "caracole/caracoleref.counts"], apart := false, laid := [("math/bits.deBruijn32tab", laid_math_bits_deBruijn32tab), ("math/bits.deBruijn64tab", laid_math_bits_deBruijn64tab), ("internal/strconv.uint64pow10", laid_internal_strconv_uint64pow10), ("caracole/code.limits", laid_caracole_code_limits), ("strconv.ErrRange", laid_strconv_ErrRange), ("strconv.ErrSyntax", laid_strconv_ErrSyntax), ("caracole/caracoleref.names", laid_caracole_caracoleref_names), ("caracole/caracoleref.counts", laid_caracole_caracoleref_counts), ("caracole/text.forms", laid_caracole_text_forms)], narrowed := true }
def TextDoesUptoSaid : Prop := textDoesUptoRow.holds Tryd.pinned (OpenSpec.upto textDoesSpec)

/-- 'caracolelaw.TextBack', WHERE WHAT IT READS IS OF BULK AT MOST 1048576: true; the input reads as it did. -/
def textBackUptoRow : OpenClaim := { program := "ytdohockbmphhfacdoor", sum := "26ac4db900eeddb19213b9546c6361f1d36a93913bce13a3be5a81f5caab3b95", func := "caracole/caracolelaw.TextBack", spec := "textBack", inPlace := ["internal/bytealg.IndexByteString", "internal/bytealg.IndexString", "internal/abi.NoEscape"], unfollowed := true, recurses := true, named := ["internal/bytealg.MaxLen", "caracole/text.forms", "strconv.ErrSyntax", "strconv.ErrRange", "internal/strconv.uint64pow10", "math/bits.deBruijn32tab", "math/bits.deBruijn64tab", "caracole/code.limits"], apart := false, laid := [("math/bits.deBruijn32tab", laid_math_bits_deBruijn32tab), ("math/bits.deBruijn64tab", laid_math_bits_deBruijn64tab), ("internal/strconv.uint64pow10", laid_internal_strconv_uint64pow10), ("caracole/code.limits", laid_caracole_code_limits), ("strconv.ErrRange", laid_strconv_ErrRange), ("strconv.ErrSyntax", laid_strconv_ErrSyntax), ("caracole/text.forms", laid_caracole_text_forms)], narrowed := true }
def TextBackUptoSaid : Prop := textBackUptoRow.holds Tryd.pinned (OpenSpec.upto textBackSpec)

end Rows
end Go.Proofs.YtdohockbmphhfacDoor
