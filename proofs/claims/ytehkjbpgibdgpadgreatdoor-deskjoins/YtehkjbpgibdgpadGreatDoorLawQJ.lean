/-
  What the laws share: the picks, an index, what Result tells.
-/
import Derived.Test.YtehkjbpgibdgpadGreatDoorJqWw
import Derived.Test.YtehkjbpgibdgpadGreatDoorJqWa
namespace Go.Proofs.YtehkjbpgibdgpadGreatDoor
open Go.RowKit Go.Shelf

theorem index_lt (i : Int) (n : Nat) (h : 0 < n) (h8 : n ≤ 8) : ∃ m : Nat, m < n ∧ wrap64 ((IntKind.u64.wrap i).tmod (n : Int)) = (m : Int) := by
  rw [IntKind.wrap_u64]
  have h0 : 0 ≤ i % 18446744073709551616 := Int.emod_nonneg _ (by decide)
  generalize i % 18446744073709551616 = x at h0
  rw [Int.tmod_eq_emod_of_nonneg h0]
  have h1 : 0 ≤ x % (n : Int) := Int.emod_nonneg _ (by omega)
  have h2 : x % (n : Int) < n := Int.emod_lt_of_pos _ (by omega)
  generalize x % (n : Int) = y at h1 h2
  refine ⟨y.toNat, by omega, ?_⟩
  rw [IntWalk.wrap64_in y ⟨by omega, by omega⟩]
  omega

/-- Numbers as they lie in memory. -/
def NumsAt (w : World) (v : Value) (l : List Int) : Prop :=
  ∃ a cap, v = .slice a l.length cap ∧ ∀ i (h : i < l.length), ∃ b off, a = some ⟨b, off, none⟩ ∧ w.cell? ⟨b, off + i, none⟩ = some (.int .i64 l[i])

/-- What Result tells of a worker. -/
def resC (x : Wk) : Int := if x.over then x.code else 0
def resG (x : Wk) (i : Nat) : Int := if x.over then x.regs i else 0
theorem result_any (C : Nat) (dv : Value) (b : Nat) (x : Wk) (w : World) (hx : WorkAt w C dv b x) :
    Calls Tryz.prog 177 #[.pointer (some ⟨C, 0, none⟩)] w fun e w' => e = .returned (.tuple #[.agg #[.int .i64 (resC x), .int .i64 (resG x 0), .int .i64 (resG x 1), .int .i64 (resG x 2), .int .i64 (resG x 3)], .bool x.over]) ∧ Below w.heap.size w w' := by
  cases ho : x.over with
  | false =>
    have := result_not C dv b x w hx ho
    simp only [resC, resG, ho]
    exact this
  | true =>
    have := result_over C dv b x w hx ho
    simp only [resC, resG, ho]
    exact this
end Go.Proofs.YtehkjbpgibdgpadGreatDoor
