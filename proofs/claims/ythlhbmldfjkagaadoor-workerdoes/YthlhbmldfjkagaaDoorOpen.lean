/-
  What is known of the arguments when the call begins: a round as it lies in memory; the table of limits.
-/
import Derived.Test.YthlhbmldfjkagaaDoorBase
import Derived.ProofKit
import Derived.OpenShut
import Derived.Deep.Slices
import Derived.Lib.LaidTab
namespace Go.Proofs.YthlhbmldfjkagaaDoor
open Go.ChangeShapes Go.WideShapes Go.ChangeAt Go.RowKit

set_option maxRecDepth 100000

theorem add_off (b off t : Nat) : (⟨b, off, none⟩ : Addr).add t = ⟨b, off + t, none⟩ := by
  unfold Addr.add; split <;> simp_all

/-- The deeds' values, one for each. -/
structure Vals (w : World) (b off : Nat) (r : List (List Op5)) (vs : List Value) : Prop where
  len : vs.length = r.length
  cell : ∀ j u, vs[j]? = some u → w.cell? ⟨b, off + j, none⟩ = some u
  deed : ∀ j (h : j < r.length), ∃ u, vs[j]? = some u ∧ DeedAt w u r[j]

theorem Vals.one {w : World} {b off : Nat} {r : List (List Op5)} {vs : List Value} (h : Vals w b off r vs) : ∀ u ∈ vs, u.oneCell' = true := by
  intro u hu
  obtain ⟨j, hj, rfl⟩ := List.mem_iff_getElem.1 hu
  obtain ⟨x, hx, a, cap, rfl, -⟩ := h.deed j (by rw [← h.len]; exact hj)
  rw [List.getElem?_eq_getElem hj] at hx
  rw [Option.some.inj hx]; rfl
theorem Vals.later {w w' : World} {b off : Nat} {r : List (List Op5)} {vs : List Value} (hb : Below w.heap.size w w') (h : Vals w b off r vs) : Vals w' b off r vs :=
  ⟨h.len, fun j u hu => cell_later hb (h.cell j u hu), fun j hj => by
    obtain ⟨u, hu, hd⟩ := h.deed j hj
    exact ⟨u, hu, hd.later hb⟩⟩

theorem cells34 : Tryd.prog.cellsOf 34 = 5 := by kernel_rfl
theorem cells32 : Tryd.prog.cellsOf 32 = 1 := by kernel_rfl
theorem cells3' : Tryd.prog.cellsOf 3 = 1 := by kernel_rfl
theorem cells2' : Tryd.prog.cellsOf 2 = 1 := by kernel_rfl
theorem cells104 : Tryd.prog.cellsOf 132 = 3 := by kernel_rfl
/-- The name of the table. -/
def limName : String := Rows.codeOneRow.named.headD ""
theorem gLim : Tryd.prog.globalNamed limName = some 0 := by kernel_rfl
theorem gLimType : (Tryd.prog.globals[0]?).map (·.type) = some 134 := by kernel_rfl

section
variable {H : Type} {enc : TypeId × Value → H} {w : World} {base : Nat} {sp : Nat → Bool} {held : Bool}

/-- An operation's five cells. -/
theorem op_open {fuel : Nat} {cs : List Value} {x : DataW H × List MemPlace} (h : DataW.trod enc Tryd.prog w base sp held fuel 34 cs = some x) :
    ∃ o : Op5, cs = [.int .i64 o.k, .int .i64 o.a, .int .i64 o.b, .int .i64 o.c, .int .i64 o.n] := by
  obtain ⟨xs, n, rfl, rfl, hlen, hxs, hf⟩ := DataW.trod_struct Tryd.underlying34 h
  rw [cells34] at hlen
  match cs, hlen with
  | [c0, c1, c2, c3, c4], _ =>
    match xs, hxs with
    | [x0, x1, x2, x3, x4], _ =>
      have f0 : DataW.trod enc Tryd.prog w base sp held n 3 (List.take (Tryd.prog.cellsOf 3) (List.drop 0 [c0, c1, c2, c3, c4])) = [x0, x1, x2, x3, x4][0]? := hf 0 _ rfl
      have f1 : DataW.trod enc Tryd.prog w base sp held n 3 (List.take (Tryd.prog.cellsOf 3) (List.drop 1 [c0, c1, c2, c3, c4])) = [x0, x1, x2, x3, x4][1]? := hf 1 _ rfl
      have f2 : DataW.trod enc Tryd.prog w base sp held n 3 (List.take (Tryd.prog.cellsOf 3) (List.drop 2 [c0, c1, c2, c3, c4])) = [x0, x1, x2, x3, x4][2]? := hf 2 _ rfl
      have f3 : DataW.trod enc Tryd.prog w base sp held n 3 (List.take (Tryd.prog.cellsOf 3) (List.drop 3 [c0, c1, c2, c3, c4])) = [x0, x1, x2, x3, x4][3]? := hf 3 _ rfl
      have f4 : DataW.trod enc Tryd.prog w base sp held n 2 (List.take (Tryd.prog.cellsOf 2) (List.drop 4 [c0, c1, c2, c3, c4])) = [x0, x1, x2, x3, x4][4]? := hf 4 _ rfl
      rw [cells3'] at f0 f1 f2 f3
      rw [cells2'] at f4
      simp only [List.drop_zero, List.drop_succ_cons, List.take_succ_cons, List.take_zero, List.getElem?_cons_zero, List.getElem?_cons_succ] at f0 f1 f2 f3 f4
      obtain ⟨k, e0, -⟩ := DataW.trod_int Tryd.underlying3 f0
      obtain ⟨a, e1, -⟩ := DataW.trod_int Tryd.underlying3 f1
      obtain ⟨b, e2, -⟩ := DataW.trod_int Tryd.underlying3 f2
      obtain ⟨c, e3, -⟩ := DataW.trod_int Tryd.underlying3 f3
      obtain ⟨m, e4, -⟩ := DataW.trod_int Tryd.underlying2 f4
      simp only [List.cons.injEq, and_true] at e0 e1 e2 e3 e4
      subst e0 e1 e2 e3 e4
      exact ⟨⟨k, a, b, c, m⟩, rfl⟩

theorem spot_none {a : Addr} {n : Nat} {v : Value} (h : w.cell? (a.add n) = some v) (hn : n = 0) : a = ⟨a.block, a.off, none⟩ := by
  subst hn
  obtain ⟨b, off, spot⟩ := a
  have hs : spot = none := by simpa [Addr.add] using World.cell?_spot h
  subst hs; rfl

/-- A deed. -/
theorem deed_open {fuel : Nat} {u : Value} {x : DataW H × List MemPlace} (h : DataW.trod enc Tryd.prog w base sp held fuel 32 [u] = some x) :
    ∃ d : List Op5, DeedAt w u d ∧ d.length ≤ 9223372036854775807 := by
  rcases Go.Deep.open_slice Tryd.underlying32 h with ⟨hc, -⟩ | ⟨a, len, cap, m, n, D, Pl, hc, hb, hl, hm, hmm, -, hx⟩
  · simp only [List.cons.injEq, and_true] at hc
    subst hc
    exact ⟨[], ⟨none, 0, rfl, fun i hi => by simp at hi⟩, by simp⟩
  · simp only [List.cons.injEq, and_true] at hc
    subst hc
    have hlm : len ≤ m := by rw [hmm]; split <;> omega
    rw [cells34] at hx
    have inh : Inhabited Op5 := ⟨⟨0, 0, 0, 0, 0⟩⟩
    obtain ⟨f, hf⟩ := Go.Deep.choose_lt (α := Op5) (n := len) (p := fun i o => w.cells? base (a.add (i * 5)) 5 = some [.int .i64 o.k, .int .i64 o.a, .int .i64 o.b, .int .i64 o.c, .int .i64 o.n]) (fun i hi => by
      obtain ⟨cs', h1, h2⟩ := hx i (by omega)
      obtain ⟨o, rfl⟩ := op_open h2
      exact ⟨o, h1⟩)
    refine ⟨(List.range len).map f, ?_, by simp; unfold maxLen at hm; omega⟩
    refine ⟨some a, cap, by simp, fun i hi => ?_⟩
    have hi' : i < len := by simpa using hi
    have h0 := (World.cells?_some (hf 0 (by omega))).2.2 0 (by omega)
    rw [show 0 * 5 = 0 by omega] at h0
    have ha : a = ⟨a.block, a.off, none⟩ := spot_none (n := 0) (w := w) (v := .int .i64 (f 0).k) (by simpa [Addr.add] using h0) rfl
    have hc := (World.cells?_some (hf i hi')).2.2
    rw [ha] at hc
    simp only [add_off] at hc
    refine ⟨a.block, a.off, by rw [ha], ?_⟩
    simp only [List.getElem_map, List.getElem_range]
    exact ⟨hc 0 (by omega), hc 1 (by omega), hc 2 (by omega), hc 3 (by omega), hc 4 (by omega)⟩

/-- A round. -/
theorem round_open {v : Value} {d : DataW H} {ps : List MemPlace} (h : DataW.Trod enc Tryd.prog w base sp held 23 v d ps) {a0 : Option Addr} {len cap : Nat} (hv : v = .slice a0 len cap) :
    ∃ r : List (List Op5), RoundAt w v r ∧ Fits r ∧ r.length = len ∧ (0 < r.length → r.length ≤ cap ∧ ∃ b off vs, a0 = some ⟨b, off, none⟩ ∧ Vals w b off r vs) := by
  subst hv
  obtain ⟨fuel, hf⟩ := h
  rcases Go.Deep.open_slice1 Tryd.underlying23 cells32 hf with ⟨hc, -⟩ | ⟨a, len', cap', m, n, V, D, Pl, hc, hb, hl, hm, hmm, -, hx⟩
  · simp [Value.cells] at hc
    obtain ⟨rfl, rfl, rfl⟩ := hc
    exact ⟨[], ⟨none, 0, rfl, fun i hi => by simp at hi⟩, ⟨by simp, fun i hi => by simp at hi⟩, rfl, fun h => by simp at h⟩
  · simp [Value.cells] at hc
    obtain ⟨rfl, rfl, rfl⟩ := hc
    have hlm : len ≤ m := by rw [hmm]; split <;> omega
    obtain ⟨f, hf⟩ := Go.Deep.choose_lt (α := List Op5) (n := len) (p := fun i o => DeedAt w (V i) o ∧ o.length ≤ 9223372036854775807) (fun i hi => deed_open (hx i (by omega)).2)
    have hlen : ((List.range len).map f).length = len := by simp
    have hfit : Fits ((List.range len).map f) := ⟨by simp; unfold maxLen at hm; omega, fun i hi => by
      simp only [List.getElem_map, List.getElem_range]; exact (hf i (by simpa using hi)).2⟩
    have hvals : 0 < len → ∃ b off vs, some a = some (⟨b, off, none⟩ : Addr) ∧ Vals w b off ((List.range len).map f) vs := fun h0 => by
      have ha : a = ⟨a.block, a.off, none⟩ := spot_none (hx 0 (by omega)).1 rfl
      refine ⟨a.block, a.off, (List.range len).map V, by rw [← ha], by simp, fun j u hu => ?_, fun j hj => ?_⟩
      · have hj : j < len := by have := (List.getElem?_eq_some_iff.1 hu).1; simpa using this
        have hc := (hx j (by omega)).1
        rw [ha, add_off] at hc
        have hV : V j = u := by simpa [hj] using hu
        rw [← hV]; exact hc
      · have hj' : j < len := by simpa using hj
        refine ⟨V j, by simp [hj'], ?_⟩
        simp only [List.getElem_map, List.getElem_range]
        exact (hf j hj').1
    refine ⟨(List.range len).map f, ?_, hfit, hlen, fun h0 => ⟨by omega, hvals (by omega)⟩⟩
    refine ⟨some a, cap, by rw [hlen], fun i hi => ?_⟩
    have hi' : i < len := by simpa using hi
    have ha : a = ⟨a.block, a.off, none⟩ := spot_none (hx 0 (by omega)).1 rfl
    refine ⟨a.block, a.off, by rw [← ha], V i, ?_, ?_⟩
    · have := (hx i (by omega)).1
      rw [ha, add_off] at this
      exact this
    · simp only [List.getElem_map, List.getElem_range]
      exact (hf i hi').1
theorem list10 {α : Type} (l : List α) (h : l.length = 10) : ∃ a0 a1 a2 a3 a4 a5 a6 a7 a8 a9, l = [a0, a1, a2, a3, a4, a5, a6, a7, a8, a9] := by
  match l, h with
  | [a0, a1, a2, a3, a4, a5, a6, a7, a8, a9], _ => exact ⟨a0, a1, a2, a3, a4, a5, a6, a7, a8, a9, rfl⟩

/-- A state. -/
theorem state_open {v : Value} {d : DataW H} {ps : List MemPlace} {base' : Nat} (hok : Value.okWide Tryd.prog w .any base' 38 v) (h : DataW.Trod enc Tryd.prog w base sp held 38 v d ps) : ∃ s : Nat → Int, v = stV s := by
  obtain ⟨cs, rfl, hsz, -⟩ : ∃ cs, v = .agg cs ∧ cs.size = Tryd.prog.cellsOf 38 ∧ Row.okWide Tryd.prog w .any base' 38 cs := by
    simpa [Value.okWide, Tryd.underlying38] using hok
  rw [show Tryd.prog.cellsOf 38 = 10 by kernel_rfl] at hsz
  obtain ⟨l⟩ := cs
  obtain ⟨a0, a1, a2, a3, a4, a5, a6, a7, a8, a9, rfl⟩ := list10 l hsz
  obtain ⟨fuel, hf⟩ := h
  obtain ⟨xs, m, rfl, hx, hlen, hxs, hrow⟩ := DataW.trod_array Tryd.underlying38 hf
  rw [cells2'] at hrow
  have key : ∀ k, k < 10 → ∃ n : Int, [a0, a1, a2, a3, a4, a5, a6, a7, a8, a9][k]? = some (.int .i64 n) := fun k hk => by
    have hr := hrow k hk
    rw [List.getElem?_eq_getElem (show k < xs.length by omega)] at hr
    obtain ⟨n, e, -⟩ := DataW.trod_int Tryd.underlying2 hr
    refine ⟨n, ?_⟩
    have e' := congrArg (·[0]?) e
    simpa [List.getElem?_take, List.getElem?_drop, Value.cells] using e'
  obtain ⟨s, hs⟩ := Go.Deep.choose_lt (α := Int) (n := 10) (p := fun k n => [a0, a1, a2, a3, a4, a5, a6, a7, a8, a9][k]? = some (.int .i64 n)) key
  refine ⟨s, ?_⟩
  have h0 := hs 0 (by omega)
  have h1 := hs 1 (by omega)
  have h2 := hs 2 (by omega)
  have h3 := hs 3 (by omega)
  have h4 := hs 4 (by omega)
  have h5 := hs 5 (by omega)
  have h6 := hs 6 (by omega)
  have h7 := hs 7 (by omega)
  have h8 := hs 8 (by omega)
  have h9 := hs 9 (by omega)
  simp only [List.getElem?_cons_zero, List.getElem?_cons_succ, Option.some.injEq] at h0 h1 h2 h3 h4 h5 h6 h7 h8 h9
  subst h0 h1 h2 h3 h4 h5 h6 h7 h8 h9
  rfl
end

/-- The rows of the table, as the text lays them. -/
def limRows : List (List Int) := [[0, 0, 0], [4, 0, 0], [4, 10, 0], [4, 4, 4], [4, 4, 4], [4, 4, 4], [4, 4, 4], [10, 4, 0], [4, 0, 0], [4, 14, 0]]
theorem limRows_data {H : Type} : (Rows.laid_caracole_code_limits : DataW H) = .agg (limRows.map fun zs => .agg (zs.map fun z => .lit (.int .i64 z))) := rfl
theorem limRows_lim : ∀ k, k < 10 → ∀ j, j < 3 → ((limRows.getD k []).getD j 0) = limF k j := by decide
theorem limRows_len : ∀ k, k < 10 → (limRows.getD k []).length = 3 := by decide

theorem lim_open {W : World} (h' : laidMet Tryd.prog [(limName, Rows.laid_caracole_code_limits)] W) : Lim W := by
  obtain ⟨ps, ⟨g', t', cs, fuel, p, q, hg', ht', hvar, hd, _, _⟩, _⟩ := h'
  obtain rfl := Option.some.inj (gLim.symm.trans hg')
  obtain rfl := Option.some.inj (gLimType.symm.trans ht')
  obtain ⟨xs, m, rfl, hx, hlen, hxs, hrow⟩ := DataW.trod_array Tryd.underlying134 hd
  rw [cells104] at hrow
  have hfst : xs.map (·.1) = limRows.map fun zs => .agg (zs.map fun z => .lit (.int .i64 z)) := by
    have := congrArg Prod.fst hx
    rw [limRows_data] at this
    simpa using this.symm
  intro k j hk hj
  have hk' : k < xs.length := by omega
  have hr := hrow k hk
  rw [List.getElem?_eq_getElem hk'] at hr
  have hkr : k < limRows.length := by simpa [limRows] using hk
  have h1 : xs[k].1 = .agg ((limRows.getD k []).map fun z => .lit (.int .i64 z)) := by
    have := congrArg (·[k]?) hfst
    simp only [List.getElem?_map, List.getElem?_eq_getElem hk', List.getElem?_eq_getElem hkr, Option.map_some, Option.some.injEq] at this
    rw [this, List.getD_eq_getElem?_getD, List.getElem?_eq_getElem hkr]; rfl
  have hr' : DataW.trod (fun _ => ()) Tryd.prog W 0 (fun _ => true) false m 132 ((cs.toList.drop (k * 3)).take 3) = some (Lib.tabData .i64 (limRows.getD k []), xs[k].2) := by
    rw [hr]; congr 1; exact Prod.ext h1 rfl
  have hc := Lib.cells_of_tab Tryd.underlying132 Tryd.underlying3 cells3' cells104 hr'
  have hcell := World.var?_cell gLim hvar (k * 3 + j)
  rw [hcell]
  have hz := congrArg (·[j]?) hc
  have hl := limRows_len k hk
  simp only [List.getElem?_take_of_lt hj, List.getElem?_drop, List.getElem?_map] at hz
  rw [List.getElem?_eq_getElem (show j < (limRows.getD k []).length by omega)] at hz
  have hv := limRows_lim k hk j hj
  rw [List.getD_eq_getElem?_getD, List.getElem?_eq_getElem (show j < (limRows.getD k []).length by omega), Option.getD_some] at hv
  rw [hv] at hz
  simpa using hz
end Go.Proofs.YthlhbmldfjkagaaDoor
