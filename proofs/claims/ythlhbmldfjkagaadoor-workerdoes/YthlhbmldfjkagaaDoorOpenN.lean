/-
  What is known of a list of numbers when the call begins.
-/
import Derived.Test.YthlhbmldfjkagaaDoorOpen
namespace Go.Proofs.YthlhbmldfjkagaaDoor
open Go.ChangeShapes Go.WideShapes Go.ChangeAt Go.RowKit

set_option maxRecDepth 100000

section
variable {H : Type} {enc : TypeId × Value → H} {w : World} {base : Nat} {sp : Nat → Bool} {held : Bool}

theorem nums_open {v : Value} {d : DataW H} {ps : List MemPlace} (h : DataW.Trod enc Tryd.prog w base sp held 77 v d ps) {a0 : Option Addr} {len cap : Nat} (hv : v = .slice a0 len cap) :
    ∃ l : List Int, (∀ i (h : i < l.length), ∃ b off, a0 = some ⟨b, off, none⟩ ∧ w.cell? ⟨b, off + i, none⟩ = some (.int .i64 l[i])) ∧ l.length = len ∧ l.length ≤ 9223372036854775807 := by
  subst hv
  obtain ⟨fuel, hf⟩ := h
  rcases Go.Deep.open_slice1 Tryd.underlying77 cells3' hf with ⟨hc, -⟩ | ⟨a, len', cap', m, n, V, D, Pl, hc, hb, hl, hm, hmm, -, hx⟩
  · simp [Value.cells] at hc
    obtain ⟨rfl, rfl, rfl⟩ := hc
    exact ⟨[], fun i hi => by simp at hi, rfl, by simp⟩
  · simp [Value.cells] at hc
    obtain ⟨rfl, rfl, rfl⟩ := hc
    have hlm : len ≤ m := by rw [hmm]; split <;> omega
    obtain ⟨f, hf⟩ := Go.Deep.choose_lt (α := Int) (n := len) (p := fun i o => V i = .int .i64 o) (fun i hi => by
      obtain ⟨k, e, -⟩ := DataW.trod_int Tryd.underlying3 (hx i (by omega)).2
      simp only [List.cons.injEq, and_true] at e
      exact ⟨k, e⟩)
    refine ⟨(List.range len).map f, fun i hi => ?_, by simp, by simp; unfold maxLen at hm; omega⟩
    have hi' : i < len := by simpa using hi
    have ha : a = ⟨a.block, a.off, none⟩ := spot_none (hx 0 (by omega)).1 rfl
    refine ⟨a.block, a.off, by rw [← ha], ?_⟩
    have := (hx i (by omega)).1
    rw [ha, add_off, hf i hi'] at this
    simpa using this
end
end Go.Proofs.YthlhbmldfjkagaaDoor
