/-
  What is known of the arguments when a call of the codec's laws begins: a round as it lies in memory, with numbers of 64 bits; bytes; the table of limits.
-/
import Derived.Test.YtihfjmdjjeciiacDoorJqRa
import Derived.ProofKit
import Derived.OpenShut
import Derived.Deep.Slices
import Derived.Lib.LaidTab
namespace Go.Proofs.YtihfjmdjjeciiacDoor
open Go.ChangeShapes Go.WideShapes Go.ChangeAt Go.RowKit

set_option maxRecDepth 100000

theorem add_offC (b off t : Nat) : (⟨b, off, none⟩ : Addr).add t = ⟨b, off + t, none⟩ := by
  unfold Addr.add; split <;> simp_all

theorem cells34C : Tryd.prog.cellsOf 63 = 5 := by kernel_rfl
theorem cells32C : Tryd.prog.cellsOf 61 = 1 := by kernel_rfl
theorem cells3C : Tryd.prog.cellsOf 3 = 1 := by kernel_rfl
theorem cells2C : Tryd.prog.cellsOf 2 = 1 := by kernel_rfl
theorem cells104C : Tryd.prog.cellsOf 141 = 3 := by kernel_rfl
/-- The name of the table. -/
def limNameC : String := Rows.codecJoinsRow.named.headD ""
theorem gLimC : Tryd.prog.globalNamed limNameC = some 0 := by kernel_rfl
theorem gLimTypeC : (Tryd.prog.globals[0]?).map (·.type) = some 143 := by kernel_rfl

theorem cells5C : Tryd.prog.cellsOf 5 = 1 := by kernel_rfl
theorem wf64 {n : Int} (h : (Lit.int .i64 n).wf = true) : -9223372036854775808 ≤ n ∧ n < 9223372036854775808 := by
  simp [Lit.wf, IntKind.min, IntKind.max, IntKind.bits, IntKind.signed] at h; omega
theorem wf8 {n : Int} (h : (Lit.int .u8 n).wf = true) : IsB n := by
  unfold IsB
  simp [Lit.wf, IntKind.min, IntKind.max, IntKind.bits, IntKind.signed] at h; omega

section
variable {H : Type} {enc : TypeId × Value → H} {w : World} {base : Nat} {sp : Nat → Bool} {held : Bool}

/-- An operation's five cells. -/
theorem op_openC {fuel : Nat} {cs : List Value} {x : DataW H × List MemPlace} (h : DataW.trod enc Tryd.prog w base sp held fuel 63 cs = some x) :
    ∃ o : Op5, cs = [.int .i64 o.k, .int .i64 o.a, .int .i64 o.b, .int .i64 o.c, .int .i64 o.n] ∧ N64 o := by
  obtain ⟨xs, n, rfl, rfl, hlen, hxs, hf⟩ := DataW.trod_struct Tryd.underlying63 h
  rw [cells34C] at hlen
  match cs, hlen with
  | [c0, c1, c2, c3, c4], _ =>
    match xs, hxs with
    | [x0, x1, x2, x3, x4], _ =>
      have f0 : DataW.trod enc Tryd.prog w base sp held n 3 (List.take (Tryd.prog.cellsOf 3) (List.drop 0 [c0, c1, c2, c3, c4])) = [x0, x1, x2, x3, x4][0]? := hf 0 _ rfl
      have f1 : DataW.trod enc Tryd.prog w base sp held n 3 (List.take (Tryd.prog.cellsOf 3) (List.drop 1 [c0, c1, c2, c3, c4])) = [x0, x1, x2, x3, x4][1]? := hf 1 _ rfl
      have f2 : DataW.trod enc Tryd.prog w base sp held n 3 (List.take (Tryd.prog.cellsOf 3) (List.drop 2 [c0, c1, c2, c3, c4])) = [x0, x1, x2, x3, x4][2]? := hf 2 _ rfl
      have f3 : DataW.trod enc Tryd.prog w base sp held n 3 (List.take (Tryd.prog.cellsOf 3) (List.drop 3 [c0, c1, c2, c3, c4])) = [x0, x1, x2, x3, x4][3]? := hf 3 _ rfl
      have f4 : DataW.trod enc Tryd.prog w base sp held n 2 (List.take (Tryd.prog.cellsOf 2) (List.drop 4 [c0, c1, c2, c3, c4])) = [x0, x1, x2, x3, x4][4]? := hf 4 _ rfl
      rw [cells3C] at f0 f1 f2 f3
      rw [cells2C] at f4
      simp only [List.drop_zero, List.drop_succ_cons, List.take_succ_cons, List.take_zero, List.getElem?_cons_zero, List.getElem?_cons_succ] at f0 f1 f2 f3 f4
      obtain ⟨k, e0, -⟩ := DataW.trod_int Tryd.underlying3 f0
      obtain ⟨a, e1, -⟩ := DataW.trod_int Tryd.underlying3 f1
      obtain ⟨b, e2, -⟩ := DataW.trod_int Tryd.underlying3 f2
      obtain ⟨c, e3, -⟩ := DataW.trod_int Tryd.underlying3 f3
      obtain ⟨m, e4, -, wf⟩ := DataW.trod_int Tryd.underlying2 f4
      simp only [List.cons.injEq, and_true] at e0 e1 e2 e3 e4
      subst e0 e1 e2 e3 e4
      exact ⟨⟨k, a, b, c, m⟩, rfl, wf64 wf⟩

theorem spot_noneC {a : Addr} {n : Nat} {v : Value} (h : w.cell? (a.add n) = some v) (hn : n = 0) : a = ⟨a.block, a.off, none⟩ := by
  subst hn
  obtain ⟨b, off, spot⟩ := a
  have hs : spot = none := by simpa [Addr.add] using World.cell?_spot h
  subst hs; rfl

/-- A deed. -/
theorem deed_openC {fuel : Nat} {u : Value} {x : DataW H × List MemPlace} (h : DataW.trod enc Tryd.prog w base sp held fuel 61 [u] = some x) :
    ∃ d : List Op5, DeedAt w u d ∧ d.length ≤ 9223372036854775807 ∧ D64 d := by
  rcases Go.Deep.open_slice Tryd.underlying61 h with ⟨hc, -⟩ | ⟨a, len, cap, m, n, D, Pl, hc, hb, hl, hm, hmm, -, hx⟩
  · simp only [List.cons.injEq, and_true] at hc
    subst hc
    exact ⟨[], ⟨none, 0, rfl, fun i hi => by simp at hi⟩, by simp, fun o ho => by cases ho⟩
  · simp only [List.cons.injEq, and_true] at hc
    subst hc
    have hlm : len ≤ m := by rw [hmm]; split <;> omega
    rw [cells34C] at hx
    have inh : Inhabited Op5 := ⟨⟨0, 0, 0, 0, 0⟩⟩
    obtain ⟨f, hf⟩ := Go.Deep.choose_lt (α := Op5) (n := len) (p := fun i o => w.cells? base (a.add (i * 5)) 5 = some [.int .i64 o.k, .int .i64 o.a, .int .i64 o.b, .int .i64 o.c, .int .i64 o.n] ∧ N64 o) (fun i hi => by
      obtain ⟨cs', h1, h2⟩ := hx i (by omega)
      obtain ⟨o, rfl, hn⟩ := op_openC h2
      exact ⟨o, h1, hn⟩)
    refine ⟨(List.range len).map f, ?_, by simp; unfold maxLen at hm; omega, fun o ho => by
      obtain ⟨i, hi, rfl⟩ := List.mem_map.1 ho
      exact (hf i (List.mem_range.1 hi)).2⟩
    refine ⟨some a, cap, by simp, fun i hi => ?_⟩
    have hi' : i < len := by simpa using hi
    have h0 := (World.cells?_some (hf 0 (by omega)).1).2.2 0 (by omega)
    rw [show 0 * 5 = 0 by omega] at h0
    have ha : a = ⟨a.block, a.off, none⟩ := spot_noneC (n := 0) (w := w) (v := .int .i64 (f 0).k) (by simpa [Addr.add] using h0) rfl
    have hc := (World.cells?_some (hf i hi').1).2.2
    rw [ha] at hc
    simp only [add_offC] at hc
    refine ⟨a.block, a.off, by rw [ha], ?_⟩
    simp only [List.getElem_map, List.getElem_range]
    exact ⟨hc 0 (by omega), hc 1 (by omega), hc 2 (by omega), hc 3 (by omega), hc 4 (by omega)⟩

/-- A round. -/
theorem round_openC {v : Value} {d : DataW H} {ps : List MemPlace} (h : DataW.Trod enc Tryd.prog w base sp held 23 v d ps) {a0 : Option Addr} {len cap : Nat} (hv : v = .slice a0 len cap) :
    ∃ r : List (List Op5), RoundAt w v r ∧ Fits r ∧ R64 r ∧ r.length = len := by
  subst hv
  obtain ⟨fuel, hf⟩ := h
  rcases Go.Deep.open_slice1 Tryd.underlying23 cells32C hf with ⟨hc, -⟩ | ⟨a, len', cap', m, n, V, D, Pl, hc, hb, hl, hm, hmm, -, hx⟩
  · simp [Value.cells] at hc
    obtain ⟨rfl, rfl, rfl⟩ := hc
    exact ⟨[], ⟨none, 0, rfl, fun i hi => by simp at hi⟩, ⟨by simp, fun i hi => by simp at hi⟩, (fun d hd => by cases hd), rfl⟩
  · simp [Value.cells] at hc
    obtain ⟨rfl, rfl, rfl⟩ := hc
    have hlm : len ≤ m := by rw [hmm]; split <;> omega
    obtain ⟨f, hf⟩ := Go.Deep.choose_lt (α := List Op5) (n := len) (p := fun i o => DeedAt w (V i) o ∧ o.length ≤ 9223372036854775807 ∧ D64 o) (fun i hi => deed_openC (hx i (by omega)).2)
    have hlen : ((List.range len).map f).length = len := by simp
    have hfit : Fits ((List.range len).map f) := ⟨by simp; unfold maxLen at hm; omega, fun i hi => by
      simp only [List.getElem_map, List.getElem_range]; exact (hf i (by simpa using hi)).2.1⟩
    refine ⟨(List.range len).map f, ?_, hfit, fun d hd => by
      obtain ⟨i, hi, rfl⟩ := List.mem_map.1 hd
      exact (hf i (List.mem_range.1 hi)).2.2, hlen⟩
    refine ⟨some a, cap, by rw [hlen], fun i hi => ?_⟩
    have hi' : i < len := by simpa using hi
    have ha : a = ⟨a.block, a.off, none⟩ := spot_noneC (hx 0 (by omega)).1 rfl
    refine ⟨a.block, a.off, by rw [← ha], V i, ?_, ?_⟩
    · have := (hx i (by omega)).1
      rw [ha, add_offC] at this
      exact this
    · simp only [List.getElem_map, List.getElem_range]
      exact (hf i hi').1

/-- Bytes. -/
theorem bytes_openC {v : Value} {d : DataW H} {ps : List MemPlace} (h : DataW.Trod enc Tryd.prog w base sp held 26 v d ps) {a0 : Option Addr} {len cap : Nat} (hv : v = .slice a0 len cap) :
    ∃ l : List Int, BytesAt w v l ∧ AllB l ∧ l.length ≤ 9223372036854775807 ∧ l.length = len := by
  subst hv
  obtain ⟨fuel, hf⟩ := h
  rcases Go.Deep.open_slice1 Tryd.underlying26 cells5C hf with ⟨hc, -⟩ | ⟨a, len', cap', m, n, V, D, Pl, hc, hb, hl, hm, hmm, -, hx⟩
  · simp [Value.cells] at hc
    obtain ⟨rfl, rfl, rfl⟩ := hc
    exact ⟨[], ⟨none, 0, rfl, Nat.le_refl _, fun i hi => by simp at hi⟩, (fun x hx => by cases hx), by simp, rfl⟩
  · simp [Value.cells] at hc
    obtain ⟨rfl, rfl, rfl⟩ := hc
    have hlm : len ≤ m := by rw [hmm]; split <;> omega
    obtain ⟨f, hf⟩ := Go.Deep.choose_lt (α := Int) (n := len) (p := fun i o => V i = .int .u8 o ∧ IsB o) (fun i hi => by
      obtain ⟨k, e, -, wf⟩ := DataW.trod_int Tryd.underlying5 (hx i (by omega)).2
      simp only [List.cons.injEq, and_true] at e
      exact ⟨k, e, wf8 wf⟩)
    have hlen : ((List.range len).map f).length = len := by simp
    refine ⟨(List.range len).map f, ⟨some a, cap, by rw [hlen], by rw [hlen]; omega, fun i hi => ?_⟩, fun x hx => by
      obtain ⟨i, hi, rfl⟩ := List.mem_map.1 hx
      exact (hf i (List.mem_range.1 hi)).2, by simp; unfold maxLen at hm; omega, hlen⟩
    have hi' : i < len := by simpa using hi
    have ha : a = ⟨a.block, a.off, none⟩ := spot_noneC (hx 0 (by omega)).1 rfl
    refine ⟨a.block, a.off, trivial, by rw [← ha], ?_⟩
    have := (hx i (by omega)).1
    rw [ha, add_offC, (hf i hi').1] at this
    simpa using this
end

/-- The rows of the table, as the text lays them. -/
def limRowsC : List (List Int) := [[0, 0, 0], [4, 0, 0], [4, 10, 0], [4, 4, 4], [4, 4, 4], [4, 4, 4], [4, 4, 4], [10, 4, 0], [4, 0, 0], [4, 14, 0]]
theorem limRows_dataC {H : Type} : (Rows.laid_caracole_code_limits : DataW H) = .agg (limRowsC.map fun zs => .agg (zs.map fun z => .lit (.int .i64 z))) := rfl
theorem limRows_limC : ∀ k, k < 10 → ∀ j, j < 3 → ((limRowsC.getD k []).getD j 0) = limF k j := by decide
theorem limRows_lenC : ∀ k, k < 10 → (limRowsC.getD k []).length = 3 := by decide

theorem lim_openC {W : World} (h' : laidMet Tryd.prog [(limNameC, Rows.laid_caracole_code_limits)] W) : Lim W := by
  obtain ⟨ps, ⟨g', t', cs, fuel, p, q, hg', ht', hvar, hd, _, _⟩, _⟩ := h'
  obtain rfl := Option.some.inj (gLimC.symm.trans hg')
  obtain rfl := Option.some.inj (gLimTypeC.symm.trans ht')
  obtain ⟨xs, m, rfl, hx, hlen, hxs, hrow⟩ := DataW.trod_array Tryd.underlying143 hd
  rw [cells104C] at hrow
  have hfst : xs.map (·.1) = limRowsC.map fun zs => .agg (zs.map fun z => .lit (.int .i64 z)) := by
    have := congrArg Prod.fst hx
    rw [limRows_dataC] at this
    simpa using this.symm
  intro k j hk hj
  have hk' : k < xs.length := by omega
  have hr := hrow k hk
  rw [List.getElem?_eq_getElem hk'] at hr
  have hkr : k < limRowsC.length := by simpa [limRowsC] using hk
  have h1 : xs[k].1 = .agg ((limRowsC.getD k []).map fun z => .lit (.int .i64 z)) := by
    have := congrArg (·[k]?) hfst
    simp only [List.getElem?_map, List.getElem?_eq_getElem hk', List.getElem?_eq_getElem hkr, Option.map_some, Option.some.injEq] at this
    rw [this, List.getD_eq_getElem?_getD, List.getElem?_eq_getElem hkr]; rfl
  have hr' : DataW.trod (fun _ => ()) Tryd.prog W 0 (fun _ => true) false m 141 ((cs.toList.drop (k * 3)).take 3) = some (Lib.tabData .i64 (limRowsC.getD k []), xs[k].2) := by
    rw [hr]; congr 1; exact Prod.ext h1 rfl
  have hc := Lib.cells_of_tab Tryd.underlying141 Tryd.underlying3 cells3C cells104C hr'
  have hcell := World.var?_cell gLimC hvar (k * 3 + j)
  rw [hcell]
  have hz := congrArg (·[j]?) hc
  have hl := limRows_lenC k hk
  simp only [List.getElem?_take_of_lt hj, List.getElem?_drop, List.getElem?_map] at hz
  rw [List.getElem?_eq_getElem (show j < (limRowsC.getD k []).length by omega)] at hz
  have hv := limRows_limC k hk j hj
  rw [List.getD_eq_getElem?_getD, List.getElem?_eq_getElem (show j < (limRowsC.getD k []).length by omega), Option.getD_some] at hv
  rw [hv] at hz
  simpa using hz
end Go.Proofs.YtihfjmdjjeciiacDoor
