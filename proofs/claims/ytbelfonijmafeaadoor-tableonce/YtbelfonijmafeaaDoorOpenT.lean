/-
  What is known of a table's script when the call begins.
-/
import Derived.Test.YtbelfonijmafeaaDoorOpen
import Derived.Test.YtbelfonijmafeaaDoorTabK
namespace Go.Proofs.YtbelfonijmafeaaDoor
open Go.ChangeShapes Go.WideShapes Go.ChangeAt Go.RowKit

set_option maxRecDepth 100000

theorem cells70 : Tryd.prog.cellsOf 70 = 4 := by kernel_rfl

section
variable {H : Type} {enc : TypeId × Value → H} {w : World} {base : Nat} {sp : Nat → Bool} {held : Bool}

theorem step_open {fuel : Nat} {cs : List Value} {x : DataW H × List MemPlace} (h : DataW.trod enc Tryd.prog w base sp held fuel 70 cs = some x) :
    ∃ o : Step4, cs = [.int .i64 o.d, .int .i64 o.k, .int .i64 o.b, .int .i64 o.n] := by
  obtain ⟨xs, n, rfl, rfl, hlen, hxs, hf⟩ := DataW.trod_struct Tryd.underlying70 h
  rw [cells70] at hlen
  match cs, hlen with
  | [c0, c1, c2, c3], _ =>
    match xs, hxs with
    | [x0, x1, x2, x3], _ =>
      have f0 : DataW.trod enc Tryd.prog w base sp held n 3 (List.take (Tryd.prog.cellsOf 3) (List.drop 0 [c0, c1, c2, c3])) = [x0, x1, x2, x3][0]? := hf 0 _ rfl
      have f1 : DataW.trod enc Tryd.prog w base sp held n 3 (List.take (Tryd.prog.cellsOf 3) (List.drop 1 [c0, c1, c2, c3])) = [x0, x1, x2, x3][1]? := hf 1 _ rfl
      have f2 : DataW.trod enc Tryd.prog w base sp held n 3 (List.take (Tryd.prog.cellsOf 3) (List.drop 2 [c0, c1, c2, c3])) = [x0, x1, x2, x3][2]? := hf 2 _ rfl
      have f3 : DataW.trod enc Tryd.prog w base sp held n 2 (List.take (Tryd.prog.cellsOf 2) (List.drop 3 [c0, c1, c2, c3])) = [x0, x1, x2, x3][3]? := hf 3 _ rfl
      rw [cells3'] at f0 f1 f2
      rw [cells2'] at f3
      simp only [List.drop_zero, List.drop_succ_cons, List.take_succ_cons, List.take_zero, List.getElem?_cons_zero, List.getElem?_cons_succ] at f0 f1 f2 f3
      obtain ⟨k, e0, -⟩ := DataW.trod_int Tryd.underlying3 f0
      obtain ⟨a, e1, -⟩ := DataW.trod_int Tryd.underlying3 f1
      obtain ⟨b, e2, -⟩ := DataW.trod_int Tryd.underlying3 f2
      obtain ⟨m, e3, -⟩ := DataW.trod_int Tryd.underlying2 f3
      simp only [List.cons.injEq, and_true] at e0 e1 e2 e3
      subst e0 e1 e2 e3
      exact ⟨⟨k, a, b, m⟩, rfl⟩

theorem steps_open {fuel : Nat} {u : Value} {x : DataW H × List MemPlace} (h : DataW.trod enc Tryd.prog w base sp held fuel 60 [u] = some x) :
    ∃ l : List Step4, StepsAt w u l ∧ l.length ≤ 9223372036854775807 := by
  rcases Go.Deep.open_slice Tryd.underlying60 h with ⟨hc, -⟩ | ⟨a, len, cap, m, n, D, Pl, hc, hb, hl, hm, hmm, -, hx⟩
  · simp only [List.cons.injEq, and_true] at hc
    subst hc
    exact ⟨[], ⟨none, 0, rfl, fun i hi => by simp at hi⟩, by simp⟩
  · simp only [List.cons.injEq, and_true] at hc
    subst hc
    have hlm : len ≤ m := by rw [hmm]; split <;> omega
    rw [cells70] at hx
    have inh : Inhabited Step4 := ⟨⟨0, 0, 0, 0⟩⟩
    obtain ⟨f, hf⟩ := Go.Deep.choose_lt (α := Step4) (n := len) (p := fun i o => w.cells? base (a.add (i * 4)) 4 = some [.int .i64 o.d, .int .i64 o.k, .int .i64 o.b, .int .i64 o.n]) (fun i hi => by
      obtain ⟨cs', h1, h2⟩ := hx i (by omega)
      obtain ⟨o, rfl⟩ := step_open h2
      exact ⟨o, h1⟩)
    refine ⟨(List.range len).map f, ?_, by simp; unfold maxLen at hm; omega⟩
    refine ⟨some a, cap, by simp, fun i hi => ?_⟩
    have hi' : i < len := by simpa using hi
    have h0 := (World.cells?_some (hf 0 (by omega))).2.2 0 (by omega)
    rw [show 0 * 4 = 0 by omega] at h0
    have ha : a = ⟨a.block, a.off, none⟩ := spot_none (n := 0) (w := w) (v := .int .i64 (f 0).d) (by simpa [Addr.add] using h0) rfl
    have hc := (World.cells?_some (hf i hi')).2.2
    rw [ha] at hc
    simp only [add_off] at hc
    refine ⟨a.block, a.off, by rw [ha], ?_⟩
    simp only [List.getElem_map, List.getElem_range]
    exact ⟨hc 0 (by omega), hc 1 (by omega), hc 2 (by omega), hc 3 (by omega)⟩
end
end Go.Proofs.YtbelfonijmafeaaDoor
