/-
  What is known of a store's script, and of rows of picks, when the call begins.
-/
import Derived.Test.YtihfjmdjjeciiacDoorOpenCJ
import Derived.Test.YtihfjmdjjeciiacDoorLawQJ
import Derived.Test.YtihfjmdjjeciiacDoorMatQJ
namespace Go.Proofs.YtihfjmdjjeciiacDoor
open Go.ChangeShapes Go.WideShapes Go.ChangeAt Go.RowKit

set_option maxRecDepth 100000

theorem NumsAt.later {w w' : World} {v : Value} {l : List Int} (h : NumsAt w v l) (hb : Below w.heap.size w w') : NumsAt w' v l := by
  obtain ⟨a, cap, rfl, h⟩ := h
  exact ⟨a, cap, rfl, fun i hi => by
    obtain ⟨b, off, e, hc⟩ := h i hi
    exact ⟨b, off, e, cell_later hb hc⟩⟩

/-- A script as it lies in memory. -/
def StepsQ (w : World) (v : Value) (l : List QStep) : Prop :=
  ∃ a cap, v = .slice a l.length cap ∧ ∀ i (h : i < l.length), ∃ b off, a = some ⟨b, off, none⟩ ∧
    w.cell? ⟨b, off + i * 4, none⟩ = some (.int .i64 l[i].k) ∧ (∃ rv, w.cell? ⟨b, off + i * 4 + 1, none⟩ = some rv ∧ RoundAt w rv l[i].r) ∧
    (∃ pv, w.cell? ⟨b, off + i * 4 + 2, none⟩ = some pv ∧ NumsAt w pv l[i].p) ∧ w.cell? ⟨b, off + i * 4 + 3, none⟩ = some (.int .i64 l[i].keep)
/-- Its rounds and picks are no longer than memory, their numbers of 64 bits. -/
def FitsQ (l : List QStep) : Prop := l.length ≤ 9223372036854775807 ∧ ∀ i (h : i < l.length), Fits l[i].r ∧ R64 l[i].r ∧ l[i].p.length ≤ 9223372036854775807
theorem StepsQ.later {w w' : World} {v : Value} {l : List QStep} (h : StepsQ w v l) (hb : Below w.heap.size w w') : StepsQ w' v l := by
  obtain ⟨a, cap, rfl, h⟩ := h
  refine ⟨a, cap, rfl, fun i hi => ?_⟩
  obtain ⟨b, off, e, h0, ⟨rv, h1, h2⟩, ⟨pv, h3, h4⟩, h5⟩ := h i hi
  exact ⟨b, off, e, cell_later hb h0, ⟨rv, cell_later hb h1, h2.later hb⟩, ⟨pv, cell_later hb h3, h4.later hb⟩, cell_later hb h5⟩
/-- Rows of picks. -/
def PicksQ (w : World) (v : Value) (l : List (List Int)) : Prop :=
  ∃ a cap, v = .slice a l.length cap ∧ ∀ i (h : i < l.length), ∃ b off, a = some ⟨b, off, none⟩ ∧ ∃ pv, w.cell? ⟨b, off + i, none⟩ = some pv ∧ NumsAt w pv l[i] ∧ l[i].length ≤ 9223372036854775807
theorem PicksQ.later {w w' : World} {v : Value} {l : List (List Int)} (h : PicksQ w v l) (hb : Below w.heap.size w w') : PicksQ w' v l := by
  obtain ⟨a, cap, rfl, h⟩ := h
  refine ⟨a, cap, rfl, fun i hi => ?_⟩
  obtain ⟨b, off, e, pv, h0, h1, h2⟩ := h i hi
  exact ⟨b, off, e, pv, cell_later hb h0, h1.later hb, h2⟩

theorem cellsStepQ : Tryd.prog.cellsOf 78 = 4 := by kernel_rfl
theorem cellsRoundQ : Tryd.prog.cellsOf 23 = 1 := by kernel_rfl
theorem cellsIntsQ : Tryd.prog.cellsOf 76 = 1 := by kernel_rfl

section
variable {H : Type} {enc : TypeId × Value → H} {w : World} {base : Nat} {sp : Nat → Bool} {held : Bool}

theorem round_openQ {fuel : Nat} {u : Value} {x : DataW H × List MemPlace} (h : DataW.trod enc Tryd.prog w base sp held fuel 23 [u] = some x) :
    ∃ r : List (List Op5), RoundAt w u r ∧ Fits r ∧ R64 r := by
  rcases Go.Deep.open_slice1 Tryd.underlying23 cells32C h with ⟨hc, -⟩ | ⟨a, len, cap, m, n, V, D, Pl, hc, hb, hl, hm, hmm, -, hx⟩
  · simp only [List.cons.injEq, and_true] at hc
    subst hc
    exact ⟨[], ⟨none, 0, rfl, fun i hi => by simp at hi⟩, ⟨by simp, fun i hi => by simp at hi⟩, (fun d hd => by cases hd)⟩
  · simp only [List.cons.injEq, and_true] at hc
    subst hc
    have hlm : len ≤ m := by rw [hmm]; split <;> omega
    obtain ⟨f, hf⟩ := Go.Deep.choose_lt (α := List Op5) (n := len) (p := fun i o => DeedAt w (V i) o ∧ o.length ≤ 9223372036854775807 ∧ D64 o) (fun i hi => deed_openC (hx i (by omega)).2)
    have hlen : ((List.range len).map f).length = len := by simp
    have hfit : Fits ((List.range len).map f) := ⟨by simp; unfold maxLen at hm; omega, fun i hi => by
      simp only [List.getElem_map, List.getElem_range]; exact (hf i (by simpa using hi)).2.1⟩
    refine ⟨(List.range len).map f, ?_, hfit, fun d hd => by
      obtain ⟨i, hi, rfl⟩ := List.mem_map.1 hd
      exact (hf i (List.mem_range.1 hi)).2.2⟩
    refine ⟨some a, cap, by rw [hlen], fun i hi => ?_⟩
    have hi' : i < len := by simpa using hi
    have ha : a = ⟨a.block, a.off, none⟩ := spot_noneC (hx 0 (by omega)).1 rfl
    refine ⟨a.block, a.off, by rw [← ha], V i, ?_, ?_⟩
    · have := (hx i (by omega)).1
      rw [ha, add_offC] at this
      exact this
    · simp only [List.getElem_map, List.getElem_range]
      exact (hf i hi').1
theorem nums_openQ {fuel : Nat} {u : Value} {x : DataW H × List MemPlace} (h : DataW.trod enc Tryd.prog w base sp held fuel 76 [u] = some x) :
    ∃ l : List Int, NumsAt w u l ∧ l.length ≤ 9223372036854775807 := by
  rcases Go.Deep.open_slice1 Tryd.underlying76 cells3C h with ⟨hc, -⟩ | ⟨a, len, cap, m, n, V, D, Pl, hc, hb, hl, hm, hmm, -, hx⟩
  · simp only [List.cons.injEq, and_true] at hc
    subst hc
    exact ⟨[], ⟨none, 0, rfl, fun i hi => by simp at hi⟩, by simp⟩
  · simp only [List.cons.injEq, and_true] at hc
    subst hc
    have hlm : len ≤ m := by rw [hmm]; split <;> omega
    obtain ⟨f, hf⟩ := Go.Deep.choose_lt (α := Int) (n := len) (p := fun i o => V i = .int .i64 o) (fun i hi => by
      obtain ⟨k, e, -⟩ := DataW.trod_int Tryd.underlying3 (hx i (by omega)).2
      simp only [List.cons.injEq, and_true] at e
      exact ⟨k, e⟩)
    have hlen : ((List.range len).map f).length = len := by simp
    refine ⟨(List.range len).map f, ⟨some a, cap, by rw [hlen], fun i hi => ?_⟩, by simp; unfold maxLen at hm; omega⟩
    have hi' : i < len := by simpa using hi
    have ha : a = ⟨a.block, a.off, none⟩ := spot_noneC (hx 0 (by omega)).1 rfl
    refine ⟨a.block, a.off, by rw [← ha], ?_⟩
    have := (hx i (by omega)).1
    rw [ha, add_offC, hf i hi'] at this
    simpa using this
theorem picks_openQ {v : Value} {d : DataW H} {ps : List MemPlace} (h : DataW.Trod enc Tryd.prog w base sp held 89 v d ps) {a0 : Option Addr} {len cap : Nat} (hv : v = .slice a0 len cap) :
    ∃ l : List (List Int), PicksQ w v l ∧ l.length ≤ 9223372036854775807 ∧ l.length = len := by
  subst hv
  obtain ⟨fuel, hf⟩ := h
  rcases Go.Deep.open_slice1 Tryd.underlying89 cellsIntsQ hf with ⟨hc, -⟩ | ⟨a, len', cap', m, n, V, D, Pl, hc, hb, hl, hm, hmm, -, hx⟩
  · simp [Value.cells] at hc
    obtain ⟨rfl, rfl, rfl⟩ := hc
    exact ⟨[], ⟨none, 0, rfl, fun i hi => by simp at hi⟩, by simp, rfl⟩
  · simp [Value.cells] at hc
    obtain ⟨rfl, rfl, rfl⟩ := hc
    have hlm : len ≤ m := by rw [hmm]; split <;> omega
    obtain ⟨f, hf⟩ := Go.Deep.choose_lt (α := List Int) (n := len) (p := fun i o => NumsAt w (V i) o ∧ o.length ≤ 9223372036854775807) (fun i hi => nums_openQ (hx i (by omega)).2)
    have hlen : ((List.range len).map f).length = len := by simp
    refine ⟨(List.range len).map f, ⟨some a, cap, by rw [hlen], fun i hi => ?_⟩, by simp; unfold maxLen at hm; omega, hlen⟩
    have hi' : i < len := by simpa using hi
    have ha : a = ⟨a.block, a.off, none⟩ := spot_noneC (hx 0 (by omega)).1 rfl
    refine ⟨a.block, a.off, by rw [← ha], V i, ?_, ?_⟩
    · have := (hx i (by omega)).1
      rw [ha, add_offC] at this
      exact this
    · simp only [List.getElem_map, List.getElem_range]
      exact hf i hi'

theorem step_openQ {fuel : Nat} {cs : List Value} {x : DataW H × List MemPlace} (h : DataW.trod enc Tryd.prog w base sp held fuel 78 cs = some x) :
    ∃ (o : QStep) (rv pv : Value), cs = [.int .i64 o.k, rv, pv, .int .i64 o.keep] ∧ RoundAt w rv o.r ∧ NumsAt w pv o.p ∧ Fits o.r ∧ R64 o.r ∧ o.p.length ≤ 9223372036854775807 := by
  obtain ⟨xs, n, rfl, rfl, hlen, hxs, hf⟩ := DataW.trod_struct Tryd.underlying78 h
  rw [cellsStepQ] at hlen
  match cs, hlen with
  | [c0, c1, c2, c3], _ =>
    match xs, hxs with
    | [x0, x1, x2, x3], _ =>
      have f0 : DataW.trod enc Tryd.prog w base sp held n 3 (List.take (Tryd.prog.cellsOf 3) (List.drop 0 [c0, c1, c2, c3])) = [x0, x1, x2, x3][0]? := hf 0 _ rfl
      have f1 : DataW.trod enc Tryd.prog w base sp held n 23 (List.take (Tryd.prog.cellsOf 23) (List.drop 1 [c0, c1, c2, c3])) = [x0, x1, x2, x3][1]? := hf 1 _ rfl
      have f2 : DataW.trod enc Tryd.prog w base sp held n 76 (List.take (Tryd.prog.cellsOf 76) (List.drop 2 [c0, c1, c2, c3])) = [x0, x1, x2, x3][2]? := hf 2 _ rfl
      have f3 : DataW.trod enc Tryd.prog w base sp held n 3 (List.take (Tryd.prog.cellsOf 3) (List.drop 3 [c0, c1, c2, c3])) = [x0, x1, x2, x3][3]? := hf 3 _ rfl
      rw [cells3C] at f0 f3
      rw [cellsRoundQ] at f1
      rw [cellsIntsQ] at f2
      simp only [List.drop_zero, List.drop_succ_cons, List.take_succ_cons, List.take_zero, List.getElem?_cons_zero, List.getElem?_cons_succ] at f0 f1 f2 f3
      obtain ⟨k, e0, -⟩ := DataW.trod_int Tryd.underlying3 f0
      obtain ⟨a, e3, -⟩ := DataW.trod_int Tryd.underlying3 f3
      obtain ⟨r, h1, h2, h3⟩ := round_openQ f1
      obtain ⟨p, h4, h5⟩ := nums_openQ f2
      simp only [List.cons.injEq, and_true] at e0 e3
      subst e0 e3
      exact ⟨⟨k, r, p, a⟩, c1, c2, rfl, h1, h4, h2, h3, h5⟩

theorem steps_openQ {v : Value} {d : DataW H} {ps : List MemPlace} (h : DataW.Trod enc Tryd.prog w base sp held 65 v d ps) {a0 : Option Addr} {len cap : Nat} (hv : v = .slice a0 len cap) :
    ∃ l : List QStep, StepsQ w v l ∧ FitsQ l ∧ l.length = len := by
  subst hv
  obtain ⟨fuel, hf⟩ := h
  rcases Go.Deep.open_slice Tryd.underlying65 hf with ⟨hc, -⟩ | ⟨a, len', cap', m, n, D, Pl, hc, hb, hl, hm, hmm, -, hx⟩
  · simp [Value.cells] at hc
    obtain ⟨rfl, rfl, rfl⟩ := hc
    exact ⟨[], ⟨none, 0, rfl, fun i hi => by simp at hi⟩, ⟨by simp, fun i hi => by simp at hi⟩, rfl⟩
  · simp [Value.cells] at hc
    obtain ⟨rfl, rfl, rfl⟩ := hc
    have hlm : len ≤ m := by rw [hmm]; split <;> omega
    rw [cellsStepQ] at hx
    have inh : Inhabited (QStep × Value × Value) := ⟨⟨⟨0, [], [], 0⟩, .slice none 0 0, .slice none 0 0⟩⟩
    obtain ⟨f, hf⟩ := Go.Deep.choose_lt (α := QStep × Value × Value) (n := len) (p := fun i o => w.cells? base (a.add (i * 4)) 4 = some [.int .i64 o.1.k, o.2.1, o.2.2, .int .i64 o.1.keep] ∧ RoundAt w o.2.1 o.1.r ∧ NumsAt w o.2.2 o.1.p ∧ Fits o.1.r ∧ R64 o.1.r ∧ o.1.p.length ≤ 9223372036854775807) (fun i hi => by
      obtain ⟨cs', h1, h2⟩ := hx i (by omega)
      obtain ⟨o, rv, pv, rfl, h3⟩ := step_openQ h2
      exact ⟨(o, rv, pv), h1, h3⟩)
    have hlen : ((List.range len).map fun i => (f i).1).length = len := by simp
    refine ⟨(List.range len).map fun i => (f i).1, ?_, ⟨by simp; unfold maxLen at hm; omega, fun i hi => ?_⟩, hlen⟩
    · refine ⟨some a, cap, by rw [hlen], fun i hi => ?_⟩
      have hi' : i < len := by simpa using hi
      have h0 := (World.cells?_some (hf 0 (by omega)).1).2.2 0 (by omega)
      rw [show 0 * 4 = 0 by omega] at h0
      have ha : a = ⟨a.block, a.off, none⟩ := spot_noneC (n := 0) (w := w) (v := .int .i64 (f 0).1.k) (by simpa [Addr.add] using h0) rfl
      have hc := (World.cells?_some (hf i hi').1).2.2
      rw [ha] at hc
      simp only [add_offC] at hc
      refine ⟨a.block, a.off, by rw [← ha], ?_⟩
      simp only [List.getElem_map, List.getElem_range]
      exact ⟨hc 0 (by omega), ⟨(f i).2.1, hc 1 (by omega), (hf i hi').2.1⟩, ⟨(f i).2.2, hc 2 (by omega), (hf i hi').2.2.1⟩, hc 3 (by omega)⟩
    · simp only [List.getElem_map, List.getElem_range]
      exact (hf i (by simpa using hi)).2.2.2
end
end Go.Proofs.YtihfjmdjjeciiacDoor
