/-
  What is known of a log's script when the call begins.
-/
import Derived.Test.YtokjigebjcgdjacDoorOpenC
import Derived.Test.YtokjigebjcgdjacDoorMemL
namespace Go.Proofs.YtokjigebjcgdjacDoor
open Go.ChangeShapes Go.WideShapes Go.ChangeAt Go.RowKit

set_option maxRecDepth 100000

/-- A step of a log: what, how many bytes, which round. -/
structure LStep where
  d : Int
  keep : Int
  r : List (List Op5)

/-- A script as it lies in memory. -/
def StepsL (w : World) (v : Value) (l : List LStep) : Prop :=
  ∃ a cap, v = .slice a l.length cap ∧ ∀ i (h : i < l.length), ∃ b off, a = some ⟨b, off, none⟩ ∧
    w.cell? ⟨b, off + i * 3, none⟩ = some (.int .i64 l[i].d) ∧ w.cell? ⟨b, off + i * 3 + 1, none⟩ = some (.int .i64 l[i].keep) ∧
    ∃ rv, w.cell? ⟨b, off + i * 3 + 2, none⟩ = some rv ∧ RoundAt w rv l[i].r
/-- Its rounds are no longer than memory, their numbers of 64 bits. -/
def FitsL (l : List LStep) : Prop := l.length ≤ 9223372036854775807 ∧ ∀ i (h : i < l.length), Fits l[i].r ∧ R64 l[i].r
theorem StepsL.later {w w' : World} {v : Value} {l : List LStep} (h : StepsL w v l) (hb : Below w.heap.size w w') : StepsL w' v l := by
  obtain ⟨a, cap, rfl, h⟩ := h
  refine ⟨a, cap, rfl, fun i hi => ?_⟩
  obtain ⟨b, off, e, h0, h1, rv, h2, h3⟩ := h i hi
  exact ⟨b, off, e, cell_later hb h0, cell_later hb h1, rv, cell_later hb h2, h3.later hb⟩

theorem cellsStepL : Tryd.prog.cellsOf 42 = 3 := by kernel_rfl
theorem cellsRoundL : Tryd.prog.cellsOf 23 = 1 := by kernel_rfl

section
variable {H : Type} {enc : TypeId × Value → H} {w : World} {base : Nat} {sp : Nat → Bool} {held : Bool}

theorem round_openL {fuel : Nat} {u : Value} {x : DataW H × List MemPlace} (h : DataW.trod enc Tryd.prog w base sp held fuel 23 [u] = some x) :
    ∃ r : List (List Op5), RoundAt w u r ∧ Fits r ∧ R64 r := by
  rcases Go.Deep.open_slice1 Tryd.underlying23 cells32C h with ⟨hc, -⟩ | ⟨a, len, cap, m, n, V, D, Pl, hc, hb, hl, hm, hmm, -, hx⟩
  · simp only [List.cons.injEq, and_true] at hc
    subst hc
    exact ⟨[], ⟨none, 0, rfl, fun i hi => by simp at hi⟩, ⟨by simp, fun i hi => by simp at hi⟩, (fun d hd => by cases hd)⟩
  · simp only [List.cons.injEq, and_true] at hc
    subst hc
    have hlm : len ≤ m := by rw [hmm]; split <;> omega
    obtain ⟨f, hf⟩ := Go.Deep.choose_lt (α := List Op5) (n := len) (p := fun i o => DeedAt w (V i) o ∧ o.length ≤ 9223372036854775807 ∧ D64 o) (fun i hi => deed_openC (hx i (by omega)).2)
    have hlen : ((List.range len).map f).length = len := by simp
    have hfit : Fits ((List.range len).map f) := ⟨by simp; unfold maxLen at hm; omega, fun i hi => by
      simp only [List.getElem_map, List.getElem_range]; exact (hf i (by simpa using hi)).2.1⟩
    refine ⟨(List.range len).map f, ?_, hfit, fun d hd => by
      obtain ⟨i, hi, rfl⟩ := List.mem_map.1 hd
      exact (hf i (List.mem_range.1 hi)).2.2⟩
    refine ⟨some a, cap, by rw [hlen], fun i hi => ?_⟩
    have hi' : i < len := by simpa using hi
    have ha : a = ⟨a.block, a.off, none⟩ := spot_noneC (hx 0 (by omega)).1 rfl
    refine ⟨a.block, a.off, by rw [← ha], V i, ?_, ?_⟩
    · have := (hx i (by omega)).1
      rw [ha, add_offC] at this
      exact this
    · simp only [List.getElem_map, List.getElem_range]
      exact (hf i hi').1

theorem step_openL {fuel : Nat} {cs : List Value} {x : DataW H × List MemPlace} (h : DataW.trod enc Tryd.prog w base sp held fuel 42 cs = some x) :
    ∃ (o : LStep) (rv : Value), cs = [.int .i64 o.d, .int .i64 o.keep, rv] ∧ RoundAt w rv o.r ∧ Fits o.r ∧ R64 o.r := by
  obtain ⟨xs, n, rfl, rfl, hlen, hxs, hf⟩ := DataW.trod_struct Tryd.underlying42 h
  rw [cellsStepL] at hlen
  match cs, hlen with
  | [c0, c1, c2], _ =>
    match xs, hxs with
    | [x0, x1, x2], _ =>
      have f0 : DataW.trod enc Tryd.prog w base sp held n 3 (List.take (Tryd.prog.cellsOf 3) (List.drop 0 [c0, c1, c2])) = [x0, x1, x2][0]? := hf 0 _ rfl
      have f1 : DataW.trod enc Tryd.prog w base sp held n 3 (List.take (Tryd.prog.cellsOf 3) (List.drop 1 [c0, c1, c2])) = [x0, x1, x2][1]? := hf 1 _ rfl
      have f2 : DataW.trod enc Tryd.prog w base sp held n 23 (List.take (Tryd.prog.cellsOf 23) (List.drop 2 [c0, c1, c2])) = [x0, x1, x2][2]? := hf 2 _ rfl
      rw [cells3C] at f0 f1
      rw [cellsRoundL] at f2
      simp only [List.drop_zero, List.drop_succ_cons, List.take_succ_cons, List.take_zero, List.getElem?_cons_zero, List.getElem?_cons_succ] at f0 f1 f2
      obtain ⟨k, e0, -⟩ := DataW.trod_int Tryd.underlying3 f0
      obtain ⟨a, e1, -⟩ := DataW.trod_int Tryd.underlying3 f1
      obtain ⟨r, h1, h2, h3⟩ := round_openL f2
      simp only [List.cons.injEq, and_true] at e0 e1
      subst e0 e1
      exact ⟨⟨k, a, r⟩, c2, rfl, h1, h2, h3⟩

theorem steps_openL {v : Value} {d : DataW H} {ps : List MemPlace} (h : DataW.Trod enc Tryd.prog w base sp held 32 v d ps) {a0 : Option Addr} {len cap : Nat} (hv : v = .slice a0 len cap) :
    ∃ l : List LStep, StepsL w v l ∧ FitsL l ∧ l.length = len := by
  subst hv
  obtain ⟨fuel, hf⟩ := h
  rcases Go.Deep.open_slice Tryd.underlying32 hf with ⟨hc, -⟩ | ⟨a, len', cap', m, n, D, Pl, hc, hb, hl, hm, hmm, -, hx⟩
  · simp [Value.cells] at hc
    obtain ⟨rfl, rfl, rfl⟩ := hc
    exact ⟨[], ⟨none, 0, rfl, fun i hi => by simp at hi⟩, ⟨by simp, fun i hi => by simp at hi⟩, rfl⟩
  · simp [Value.cells] at hc
    obtain ⟨rfl, rfl, rfl⟩ := hc
    have hlm : len ≤ m := by rw [hmm]; split <;> omega
    rw [cellsStepL] at hx
    have inh : Inhabited (LStep × Value) := ⟨⟨⟨0, 0, []⟩, .slice none 0 0⟩⟩
    obtain ⟨f, hf⟩ := Go.Deep.choose_lt (α := LStep × Value) (n := len) (p := fun i o => w.cells? base (a.add (i * 3)) 3 = some [.int .i64 o.1.d, .int .i64 o.1.keep, o.2] ∧ RoundAt w o.2 o.1.r ∧ Fits o.1.r ∧ R64 o.1.r) (fun i hi => by
      obtain ⟨cs', h1, h2⟩ := hx i (by omega)
      obtain ⟨o, rv, rfl, h3⟩ := step_openL h2
      exact ⟨(o, rv), h1, h3⟩)
    have hlen : ((List.range len).map fun i => (f i).1).length = len := by simp
    refine ⟨(List.range len).map fun i => (f i).1, ?_, ⟨by simp; unfold maxLen at hm; omega, fun i hi => ?_⟩, hlen⟩
    · refine ⟨some a, cap, by rw [hlen], fun i hi => ?_⟩
      have hi' : i < len := by simpa using hi
      have h0 := (World.cells?_some (hf 0 (by omega)).1).2.2 0 (by omega)
      rw [show 0 * 3 = 0 by omega] at h0
      have ha : a = ⟨a.block, a.off, none⟩ := spot_noneC (n := 0) (w := w) (v := .int .i64 (f 0).1.d) (by simpa [Addr.add] using h0) rfl
      have hc := (World.cells?_some (hf i hi').1).2.2
      rw [ha] at hc
      simp only [add_offC] at hc
      refine ⟨a.block, a.off, by rw [← ha], ?_⟩
      simp only [List.getElem_map, List.getElem_range]
      exact ⟨hc 0 (by omega), hc 1 (by omega), (f i).2, hc 2 (by omega), (hf i hi').2.1⟩
    · simp only [List.getElem_map, List.getElem_range]
      exact (hf i (by simpa using hi)).2.2
end
end Go.Proofs.YtokjigebjcgdjacDoor
