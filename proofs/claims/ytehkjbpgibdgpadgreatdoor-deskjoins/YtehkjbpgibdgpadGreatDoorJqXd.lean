/-
  What is known when a call of the text laws begins: a deed as it lies in memory, with numbers of 64 bits; what the package variables hold. For the witnesses: a world whose package variables hold what their initialisers lay.
-/
import Derived.Test.YtehkjbpgibdgpadGreatDoorRows
import Derived.Test.YtehkjbpgibdgpadGreatDoorJqXb
import Derived.ProofKit
import Derived.OpenShut
import Derived.Deep.Slices
import Derived.Lib.LaidTab
import Derived.LaidSub
import Derived.Stop.LaidErr
namespace Go.Proofs.YtehkjbpgibdgpadGreatDoor
open Go.ChangeShapes Go.WideShapes Go.ChangeAt Go.RowKit

set_option maxRecDepth 100000

theorem add_off9 (b off t : Nat) : (⟨b, off, none⟩ : Addr).add t = ⟨b, off + t, none⟩ := by
  unfold Addr.add; split <;> simp_all
theorem cellsOp9 : Tryz.prog.cellsOf 121 = 5 := by kernel_rfl
theorem cellsInt9 : Tryz.prog.cellsOf 3 = 1 := by kernel_rfl
theorem cellsI649 : Tryz.prog.cellsOf 2 = 1 := by kernel_rfl
theorem cellsStr9 : Tryz.prog.cellsOf 9 = 1 := by kernel_rfl
theorem cellsRow9 : Tryz.prog.cellsOf 186 = 3 := by kernel_rfl
theorem cellsForm9 : Tryz.prog.cellsOf 155 = 2 := by kernel_rfl
theorem wf649 {n : Int} (h : (Lit.int .i64 n).wf = true) : I64 n := by
  simp [Lit.wf, IntKind.min, IntKind.max, IntKind.bits, IntKind.signed] at h
  exact ⟨by omega, by omega⟩

section
variable {H : Type} {enc : TypeId × Value → H} {w : World} {base : Nat} {sp : Nat → Bool} {held : Bool}

/-- An operation's five cells. -/
theorem op_open9 {fuel : Nat} {cs : List Value} {x : DataW H × List MemPlace} (h : DataW.trod enc Tryz.prog w base sp held fuel 121 cs = some x) :
    ∃ o : Op5, cs = [.int .i64 o.k, .int .i64 o.a, .int .i64 o.b, .int .i64 o.c, .int .i64 o.n] ∧ Op64 o := by
  obtain ⟨xs, n, rfl, rfl, hlen, hxs, hf⟩ := DataW.trod_struct Tryz.underlying121 h
  rw [cellsOp9] at hlen
  match cs, hlen with
  | [c0, c1, c2, c3, c4], _ =>
    match xs, hxs with
    | [x0, x1, x2, x3, x4], _ =>
      have f0 : DataW.trod enc Tryz.prog w base sp held n 3 (List.take (Tryz.prog.cellsOf 3) (List.drop 0 [c0, c1, c2, c3, c4])) = [x0, x1, x2, x3, x4][0]? := hf 0 _ rfl
      have f1 : DataW.trod enc Tryz.prog w base sp held n 3 (List.take (Tryz.prog.cellsOf 3) (List.drop 1 [c0, c1, c2, c3, c4])) = [x0, x1, x2, x3, x4][1]? := hf 1 _ rfl
      have f2 : DataW.trod enc Tryz.prog w base sp held n 3 (List.take (Tryz.prog.cellsOf 3) (List.drop 2 [c0, c1, c2, c3, c4])) = [x0, x1, x2, x3, x4][2]? := hf 2 _ rfl
      have f3 : DataW.trod enc Tryz.prog w base sp held n 3 (List.take (Tryz.prog.cellsOf 3) (List.drop 3 [c0, c1, c2, c3, c4])) = [x0, x1, x2, x3, x4][3]? := hf 3 _ rfl
      have f4 : DataW.trod enc Tryz.prog w base sp held n 2 (List.take (Tryz.prog.cellsOf 2) (List.drop 4 [c0, c1, c2, c3, c4])) = [x0, x1, x2, x3, x4][4]? := hf 4 _ rfl
      rw [cellsInt9] at f0 f1 f2 f3
      rw [cellsI649] at f4
      simp only [List.drop_zero, List.drop_succ_cons, List.take_succ_cons, List.take_zero, List.getElem?_cons_zero, List.getElem?_cons_succ] at f0 f1 f2 f3 f4
      obtain ⟨k, e0, -, wk⟩ := DataW.trod_int Tryz.underlying3 f0
      obtain ⟨a, e1, -, wa⟩ := DataW.trod_int Tryz.underlying3 f1
      obtain ⟨b, e2, -, wb⟩ := DataW.trod_int Tryz.underlying3 f2
      obtain ⟨c, e3, -, wc⟩ := DataW.trod_int Tryz.underlying3 f3
      obtain ⟨m, e4, -, wf⟩ := DataW.trod_int Tryz.underlying2 f4
      simp only [List.cons.injEq, and_true] at e0 e1 e2 e3 e4
      subst e0 e1 e2 e3 e4
      exact ⟨⟨k, a, b, c, m⟩, rfl, wf649 wk, wf649 wa, wf649 wb, wf649 wc, wf649 wf⟩

theorem spot_none9 {a : Addr} {n : Nat} {v : Value} (h : w.cell? (a.add n) = some v) (hn : n = 0) : a = ⟨a.block, a.off, none⟩ := by
  subst hn
  obtain ⟨b, off, spot⟩ := a
  have hs : spot = none := by simpa [Addr.add] using World.cell?_spot h
  subst hs; rfl

/-- A deed. -/
theorem deed_open9 {fuel : Nat} {u : Value} {x : DataW H × List MemPlace} (h : DataW.trod enc Tryz.prog w base sp held fuel 85 [u] = some x) :
    ∃ d : List Op5, DeedAt w u d ∧ d.length ≤ 9223372036854775807 ∧ ∀ o ∈ d, Op64 o := by
  rcases Go.Deep.open_slice Tryz.underlying85 h with ⟨hc, -⟩ | ⟨a, len, cap, m, n, D, Pl, hc, hb, hl, hm, hmm, -, hx⟩
  · simp only [List.cons.injEq, and_true] at hc
    subst hc
    exact ⟨[], ⟨none, 0, rfl, fun i hi => by simp at hi⟩, by simp, fun o ho => by cases ho⟩
  · simp only [List.cons.injEq, and_true] at hc
    subst hc
    have hlm : len ≤ m := by rw [hmm]; split <;> omega
    rw [cellsOp9] at hx
    have inh : Inhabited Op5 := ⟨⟨0, 0, 0, 0, 0⟩⟩
    obtain ⟨f, hf⟩ := Go.Deep.choose_lt (α := Op5) (n := len) (p := fun i o => w.cells? base (a.add (i * 5)) 5 = some [.int .i64 o.k, .int .i64 o.a, .int .i64 o.b, .int .i64 o.c, .int .i64 o.n] ∧ Op64 o) (fun i hi => by
      obtain ⟨cs', h1, h2⟩ := hx i (by omega)
      obtain ⟨o, rfl, hn⟩ := op_open9 h2
      exact ⟨o, h1, hn⟩)
    refine ⟨(List.range len).map f, ?_, by simp; unfold maxLen at hm; omega, fun o ho => by
      obtain ⟨i, hi, rfl⟩ := List.mem_map.1 ho
      exact (hf i (List.mem_range.1 hi)).2⟩
    refine ⟨some a, cap, by simp, fun i hi => ?_⟩
    have hi' : i < len := by simpa using hi
    have h0 := (World.cells?_some (hf 0 (by omega)).1).2.2 0 (by omega)
    rw [show 0 * 5 = 0 by omega] at h0
    have ha : a = ⟨a.block, a.off, none⟩ := spot_none9 (n := 0) (w := w) (v := .int .i64 (f 0).k) (by simpa [Addr.add] using h0) rfl
    have hc := (World.cells?_some (hf i hi').1).2.2
    rw [ha] at hc
    simp only [add_off9] at hc
    refine ⟨a.block, a.off, by rw [ha], ?_⟩
    simp only [List.getElem_map, List.getElem_range]
    exact ⟨hc 0 (by omega), hc 1 (by omega), hc 2 (by omega), hc 3 (by omega), hc 4 (by omega)⟩
theorem deedT_open9 {u : Value} {x : DataW H} {ps : List MemPlace} (h : DataW.Trod enc Tryz.prog w base sp held 85 u x ps) {a0 : Option Addr} {len cap : Nat} (hv : u = .slice a0 len cap) :
    ∃ d : List Op5, DeedAt w u d ∧ d.length ≤ 9223372036854775807 ∧ ∀ o ∈ d, Op64 o := by
  subst hv
  obtain ⟨fuel, hf⟩ := h
  exact deed_open9 hf
end

/-! ### The package variables -/

/-- What the rows list. -/
def laid9 : List (String × DataW Unit) := Rows.deskJoinsRow.laid
def nameOf (i : Nat) : String := (laid9.map (·.1)).getD i ""
def only (i : Nat) : List (String × DataW Unit) := laid9.filter fun x => x.1 == nameOf i

theorem laid_one {W : World} (h : laidMetH Tryz.prog laid9 W) (i : Nat) {n : String} {dt : DataW Unit} (e : only i = [(n, dt)]) (hh : dt.handleName? = none) : laidMet Tryz.prog [(n, dt)] W := by
  have h1 : laidMetH Tryz.prog (only i) W := h.filter _
  rw [e] at h1
  have h2 := (laidMetH_iff.1 h1).1
  rw [List.filter_cons_of_pos (by simp [hh]), List.filter_nil] at h2
  exact h2

/-- Which of the rows' places is which variable's. -/
def iTab : Nat := (laid9.map (·.1)).idxOf "internal/strconv.uint64pow10"
def iLim : Nat := (laid9.map (·.1)).idxOf "caracole/code.limits"
def iForm : Nat := (laid9.map (·.1)).idxOf "caracole/text.forms"
def iSyn : Nat := (laid9.map (·.1)).idxOf "strconv.ErrSyntax"
def iRng : Nat := (laid9.map (·.1)).idxOf "strconv.ErrRange"

theorem gLim9 : Tryz.prog.globalNamed "caracole/code.limits" = some 4 := by kernel_rfl
theorem gLimT9 : (Tryz.prog.globals[4]?).map (·.type) = some 187 := by kernel_rfl
def limRows9 : List (List Int) := [[0, 0, 0], [4, 0, 0], [4, 10, 0], [4, 4, 4], [4, 4, 4], [4, 4, 4], [4, 4, 4], [10, 4, 0], [4, 0, 0], [4, 14, 0]]
theorem limRows_data9 {H : Type} : (Rows.laid_caracole_code_limits : DataW H) = .agg (limRows9.map fun zs => .agg (zs.map fun z => .lit (.int .i64 z))) := rfl
theorem limRows_lim9 : ∀ k, k < 10 → ∀ j, j < 3 → ((limRows9.getD k []).getD j 0) = limF k j := by decide
theorem limRows_len9 : ∀ k, k < 10 → (limRows9.getD k []).length = 3 := by decide

theorem lim_open9 {W : World} (h' : laidMet Tryz.prog [("caracole/code.limits", Rows.laid_caracole_code_limits)] W) : Lim W := by
  obtain ⟨ps, ⟨g', t', cs, fuel, p, q, hg', ht', hvar, hd, _, _⟩, _⟩ := h'
  obtain rfl := Option.some.inj (gLim9.symm.trans hg')
  obtain rfl := Option.some.inj (gLimT9.symm.trans ht')
  obtain ⟨xs, m, rfl, hx, hlen, hxs, hrow⟩ := DataW.trod_array Tryz.underlying187 hd
  rw [cellsRow9] at hrow
  have hfst : xs.map (·.1) = limRows9.map fun zs => .agg (zs.map fun z => .lit (.int .i64 z)) := by
    have := congrArg Prod.fst hx
    rw [limRows_data9] at this
    simpa using this.symm
  intro k j hk hj
  have hk' : k < xs.length := by omega
  have hr := hrow k hk
  rw [List.getElem?_eq_getElem hk'] at hr
  have hkr : k < limRows9.length := by simpa [limRows9] using hk
  have h1 : xs[k].1 = .agg ((limRows9.getD k []).map fun z => .lit (.int .i64 z)) := by
    have := congrArg (·[k]?) hfst
    simp only [List.getElem?_map, List.getElem?_eq_getElem hk', List.getElem?_eq_getElem hkr, Option.map_some, Option.some.injEq] at this
    rw [this, List.getD_eq_getElem?_getD, List.getElem?_eq_getElem hkr]; rfl
  have hr' : DataW.trod (fun _ => ()) Tryz.prog W 0 (fun _ => true) false m 186 ((cs.toList.drop (k * 3)).take 3) = some (Lib.tabData .i64 (limRows9.getD k []), xs[k].2) := by
    rw [hr]; congr 1; exact Prod.ext h1 rfl
  have hc := Lib.cells_of_tab Tryz.underlying186 Tryz.underlying3 cellsInt9 cellsRow9 hr'
  have hcell := World.var?_cell gLim9 hvar (k * 3 + j)
  rw [hcell]
  have hz := congrArg (·[j]?) hc
  have hl := limRows_len9 k hk
  simp only [List.getElem?_take_of_lt hj, List.getElem?_drop, List.getElem?_map] at hz
  rw [List.getElem?_eq_getElem (show j < (limRows9.getD k []).length by omega)] at hz
  have hv := limRows_lim9 k hk j hj
  rw [List.getD_eq_getElem?_getD, List.getElem?_eq_getElem (show j < (limRows9.getD k []).length by omega), Option.getD_some] at hv
  rw [hv] at hz
  simpa using hz

theorem gForm9 : Tryz.prog.globalNamed "caracole/text.forms" = some 3 := by kernel_rfl
theorem gFormT9 : (Tryz.prog.globals[3]?).map (·.type) = some 158 := by kernel_rfl
theorem formRows_data9 {H : Type} : (Rows.laid_caracole_text_forms : DataW H) = .agg ((List.range 10).map fun k => .agg [.lit (.string (wordK k)), .lit (.int .i64 ((manyK k : Nat) : Int))]) := by kernel_rfl

theorem form_open9 {W : World} (h' : laidMet Tryz.prog [("caracole/text.forms", Rows.laid_caracole_text_forms)] W) : ∀ k, k < 10 → W.cell? ⟨3, k * 2, none⟩ = some (.string (strB (wordK k))) ∧ W.cell? ⟨3, k * 2 + 1, none⟩ = some (.int .i64 ((manyK k : Nat) : Int)) := by
  obtain ⟨ps, ⟨g', t', cs, fuel, p, q, hg', ht', hvar, hd, _, _⟩, _⟩ := h'
  obtain rfl := Option.some.inj (gForm9.symm.trans hg')
  obtain rfl := Option.some.inj (gFormT9.symm.trans ht')
  obtain ⟨xs, m, rfl, hx, hlen, hxs, hrow⟩ := DataW.trod_array Tryz.underlying158 hd
  rw [cellsForm9] at hrow
  have hfst : xs.map (·.1) = (List.range 10).map fun k => .agg [.lit (.string (wordK k)), .lit (.int .i64 ((manyK k : Nat) : Int))] := by
    have := congrArg Prod.fst hx
    rw [formRows_data9] at this
    simpa using this.symm
  intro k hk
  have hk' : k < xs.length := by omega
  have hr := hrow k hk
  rw [List.getElem?_eq_getElem hk'] at hr
  have h1 : xs[k].1 = .agg [.lit (.string (wordK k)), .lit (.int .i64 ((manyK k : Nat) : Int))] := by
    have := congrArg (·[k]?) hfst
    simp only [List.getElem?_map, List.getElem?_eq_getElem hk', Option.map_some, List.getElem?_range hk, Option.some.injEq] at this
    exact this
  obtain ⟨ys, m', rfl, hy, hyl, hys, hf⟩ := DataW.trod_struct Tryz.underlying155 hr
  rw [hy] at h1
  have h1' : ys.map (·.1) = [.lit (.string (wordK k)), .lit (.int .i64 ((manyK k : Nat) : Int))] := by injection h1
  have hy2 : ∃ y0 y1, ys = [y0, y1] := by
    match ys, hys with
    | [a, b], _ => exact ⟨a, b, rfl⟩
  obtain ⟨y0, y1, rfl⟩ := hy2
  have g0 : DataW.trod (fun _ => ()) Tryz.prog W 0 (fun _ => true) false m' 9 (List.take (Tryz.prog.cellsOf 9) (List.drop 0 ((cs.toList.drop (k * 2)).take 2))) = [y0, y1][0]? := hf 0 _ rfl
  have g1 : DataW.trod (fun _ => ()) Tryz.prog W 0 (fun _ => true) false m' 3 (List.take (Tryz.prog.cellsOf 3) (List.drop 1 ((cs.toList.drop (k * 2)).take 2))) = [y0, y1][1]? := hf 1 _ rfl
  rw [cellsStr9] at g0
  rw [cellsInt9] at g1
  simp only [List.getElem?_cons_zero, List.getElem?_cons_succ] at g0 g1
  simp only [List.map_cons, List.map_nil, List.cons.injEq, and_true] at h1'
  obtain ⟨s, e0, hs0, -⟩ := DataW.trod_string Tryz.underlying9 g0
  obtain ⟨n, e1, hs1, -⟩ := DataW.trod_int Tryz.underlying3 g1
  have hsw : s = strB (wordK k) := by
    have h2 := h1'.1
    rw [hs0] at h2
    injection h2 with h2
    injection h2 with h2
    rw [← Lib.mk_data s, h2]; rfl
  have hnm : n = ((manyK k : Nat) : Int) := by
    have h2 := h1'.2
    rw [hs1] at h2
    injection h2 with h2
    injection h2
  subst hsw hnm
  have c0 := World.var?_cell gForm9 hvar (k * 2)
  have c1 := World.var?_cell gForm9 hvar (k * 2 + 1)
  rw [c0, c1]
  have q0 := congrArg (·[0]?) e0
  have q1 := congrArg (·[0]?) e1
  simp only [List.getElem?_take, List.getElem?_drop] at q0 q1
  constructor
  · simpa using q0
  · simpa using q1

theorem gTab9 : Tryz.prog.globalNamed "internal/strconv.uint64pow10" = some 7 := by kernel_rfl
theorem tab_data9 {H : Type} : (Rows.laid_internal_strconv_uint64pow10 : DataW H) = Lib.tabData .u64 Lib.pow10Tab := by kernel_rfl
theorem tab_open9 {W : World} (h' : laidMet Tryz.prog [("internal/strconv.uint64pow10", Rows.laid_internal_strconv_uint64pow10)] W) : Lib.TabIs Tryz.prog W "internal/strconv.uint64pow10" .u64 Lib.pow10Tab := by
  rw [tab_data9] at h'
  exact Lib.tabIs_of_head gTab9 (by kernel_rfl) Tryz.underlying203 Tryz.underlying171 (by kernel_rfl) (by kernel_rfl) h'

theorem gSyn9 : Tryz.prog.globalNamed "strconv.ErrSyntax" = some 5 := by kernel_rfl
theorem gRng9 : Tryz.prog.globalNamed "strconv.ErrRange" = some 6 := by kernel_rfl
theorem star9 : "*" ++ "errors.errorString" = "*errors.errorString" := by decide
theorem errRow9 (u : TypeId) (h : Tryz.prog.typeName? 3 u = some "*errors.errorString") : u = 221 :=
  typeName_ptr_named (nm := "errors.errorString") (by rw [star9]; kernel_rfl) (by kernel_rfl) (by decide) u (by rw [star9]; exact h)
theorem syn_open9 {W : World} (h' : laidMet Tryz.prog [("strconv.ErrSyntax", Rows.laid_strconv_ErrSyntax)] W) : ∃ ev, W.cell? ⟨5, 0, none⟩ = some ev ∧ (ev = .nilIface ∨ ∃ te pe, ev = .iface te pe) := by
  obtain ⟨a, s, hv, -, -, -⟩ := laid_sentinel (tp := 221) h' gSyn9 (by kernel_rfl) Tryz.underlying116 errRow9 Tryz.underlying221 Tryz.underlying223 rfl rfl Tryz.underlying9 (by kernel_rfl) (by kernel_rfl)
  exact ⟨_, World.var?_cell gSyn9 hv 0, .inr ⟨_, _, rfl⟩⟩
theorem rng_open9 {W : World} (h' : laidMet Tryz.prog [("strconv.ErrRange", Rows.laid_strconv_ErrRange)] W) : ∃ ev, W.cell? ⟨6, 0, none⟩ = some ev ∧ (ev = .nilIface ∨ ∃ te pe, ev = .iface te pe) := by
  obtain ⟨a, s, hv, -, -, -⟩ := laid_sentinel (tp := 221) h' gRng9 (by kernel_rfl) Tryz.underlying116 errRow9 Tryz.underlying221 Tryz.underlying223 rfl rfl Tryz.underlying9 (by kernel_rfl) (by kernel_rfl)
  exact ⟨_, World.var?_cell gRng9 hv 0, .inr ⟨_, _, rfl⟩⟩

/-- WHAT THE PACKAGE VARIABLES HOLD, out of what the rows list. -/
theorem env_open9 {W : World} (h : laidMetH Tryz.prog laid9 W) : Env W where
  lim := lim_open9 (laid_one h iLim (by kernel_rfl) rfl)
  form := form_open9 (laid_one h iForm (by kernel_rfl) rfl)
  tab := tab_open9 (laid_one h iTab (by kernel_rfl) rfl)
  syn := syn_open9 (laid_one h iSyn (by kernel_rfl) rfl)
  rng := rng_open9 (laid_one h iRng (by kernel_rfl) rfl)
end Go.Proofs.YtehkjbpgibdgpadGreatDoor
namespace Go.Proofs.YtehkjbpgibdgpadGreatDoor
open Go.RowKit

def litV : DataW Unit → List Value
  | .lit (.int k n) => [.int k n]
  | .lit (.string s) => [.string ⟨s.toArray⟩]
  | _ => []
def aggV : DataW Unit → List Value
  | .agg xs => xs.flatMap litV
  | d => litV d
def datV : DataW Unit → Array Value
  | .agg xs => (xs.flatMap aggV).toArray
  | _ => #[]
def textOf : DataW Unit → Array Value
  | .iface _ (.ptr (.agg xs)) => (xs.flatMap litV).toArray
  | _ => #[]
def putO (vs : Array Value) : Obj → Obj
  | .cells _ t frozen => .cells vs t frozen
  | o => o

/-- A world with the variables laid; two blocks more: the errors'. -/
def laidOn9 (w : World) : World :=
  { w with heap := (((((((((w.heap.modify 8 (putO (datV Rows.laid_math_bits_deBruijn32tab))).modify 9 (putO (datV Rows.laid_math_bits_deBruijn64tab))).modify 7 (putO (datV Rows.laid_internal_strconv_uint64pow10))).modify 4 (putO (datV Rows.laid_caracole_code_limits))).modify 3 (putO (datV Rows.laid_caracole_text_forms))).modify 6 (putO #[.iface 221 (.pointer (some ⟨w.heap.size, 0, none⟩))])).modify 5 (putO #[.iface 221 (.pointer (some ⟨w.heap.size + 1, 0, none⟩))])).push (.cells (textOf Rows.laid_strconv_ErrRange) 223)).push (.cells (textOf Rows.laid_strconv_ErrSyntax) 223)) }
end Go.Proofs.YtehkjbpgibdgpadGreatDoor
