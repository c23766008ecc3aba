/-
  For the witnesses: a world whose package variables hold what their initialisers lay.
-/
import Derived.Test.YtdohockbmphhfacDoorTxP
namespace Go.Proofs.YtdohockbmphhfacDoor
open Go.RowKit

def litV : DataW Unit → List Value
  | .lit (.int k n) => [.int k n]
  | .lit (.string s) => [.string ⟨s.toArray⟩]
  | _ => []
def aggV : DataW Unit → List Value
  | .agg xs => xs.flatMap litV
  | d => litV d
def datV : DataW Unit → Array Value
  | .agg xs => (xs.flatMap aggV).toArray
  | _ => #[]
def textOf : DataW Unit → Array Value
  | .iface _ (.ptr (.agg xs)) => (xs.flatMap litV).toArray
  | _ => #[]
def putO (vs : Array Value) : Obj → Obj
  | .cells _ t frozen => .cells vs t frozen
  | o => o

/-- A world with the variables laid; two blocks more: the errors'. -/
def laidOn9 (w : World) : World :=
  { w with heap := (((((((((w.heap.modify 8 (putO (datV Rows.laid_math_bits_deBruijn32tab))).modify 9 (putO (datV Rows.laid_math_bits_deBruijn64tab))).modify 5 (putO (datV Rows.laid_internal_strconv_uint64pow10))).modify 3 (putO (datV Rows.laid_caracole_code_limits))).modify 2 (putO (datV Rows.laid_caracole_text_forms))).modify 7 (putO #[.iface 254 (.pointer (some ⟨w.heap.size, 0, none⟩))])).modify 6 (putO #[.iface 254 (.pointer (some ⟨w.heap.size + 1, 0, none⟩))])).push (.cells (textOf Rows.laid_strconv_ErrRange) 256)).push (.cells (textOf Rows.laid_strconv_ErrSyntax) 256)) }
end Go.Proofs.YtdohockbmphhfacDoor
