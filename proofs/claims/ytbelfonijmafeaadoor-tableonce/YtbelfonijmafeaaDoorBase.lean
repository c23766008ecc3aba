/-
  States and results as values; a state in a block of its own.
-/
import Derived.Test.YtbelfonijmafeaaDoorWalkC
import Derived.Test.YtbelfonijmafeaaDoorMathS
namespace Go.Proofs.YtbelfonijmafeaaDoor
open Go.RowKit

/-- A state, and what a deed came to, as values. -/
def stV (s : Nat → Int) : Value := .agg #[.int .i64 (s 0), .int .i64 (s 1), .int .i64 (s 2), .int .i64 (s 3), .int .i64 (s 4), .int .i64 (s 5), .int .i64 (s 6), .int .i64 (s 7), .int .i64 (s 8), .int .i64 (s 9)]
def resV (c : Int) (g : Nat → Int) : Value := .agg #[.int .i64 c, .int .i64 (g 0), .int .i64 (g 1), .int .i64 (g 2), .int .i64 (g 3)]

theorem lt10 {P : Nat → Prop} (h0 : P 0) (h1 : P 1) (h2 : P 2) (h3 : P 3) (h4 : P 4) (h5 : P 5) (h6 : P 6) (h7 : P 7) (h8 : P 8) (h9 : P 9) : ∀ i, i < 10 → P i
  | 0, _ => h0 | 1, _ => h1 | 2, _ => h2 | 3, _ => h3 | 4, _ => h4 | 5, _ => h5 | 6, _ => h6 | 7, _ => h7 | 8, _ => h8 | 9, _ => h9
theorem lt5 {P : Nat → Prop} (h0 : P 0) (h1 : P 1) (h2 : P 2) (h3 : P 3) (h4 : P 4) : ∀ i, i < 5 → P i
  | 0, _ => h0 | 1, _ => h1 | 2, _ => h2 | 3, _ => h3 | 4, _ => h4
theorem lt4 {P : Nat → Prop} (h0 : P 0) (h1 : P 1) (h2 : P 2) (h3 : P 3) : ∀ i, i < 4 → P i
  | 0, _ => h0 | 1, _ => h1 | 2, _ => h2 | 3, _ => h3

/-- A state in a block of its own. -/
def Box (w : World) (B : Nat) (s : Nat → Int) : Prop := ∀ i, i < 10 → w.cell? ⟨B, i, none⟩ = some (.int .i64 (s i))
theorem Box.later {w w' : World} {B : Nat} {s : Nat → Int} (h : Box w B s) (hb : Below w.heap.size w w') : Box w' B s := fun i hi => cell_later hb (h i hi)
theorem Box.ten {w : World} {B : Nat} {s : Nat → Int} (h : Box w B s) : w.cell? ⟨B, 0, none⟩ = some (.int .i64 (s 0)) ∧ w.cell? ⟨B, 1, none⟩ = some (.int .i64 (s 1)) ∧ w.cell? ⟨B, 2, none⟩ = some (.int .i64 (s 2)) ∧ w.cell? ⟨B, 3, none⟩ = some (.int .i64 (s 3)) ∧ w.cell? ⟨B, 4, none⟩ = some (.int .i64 (s 4)) ∧ w.cell? ⟨B, 5, none⟩ = some (.int .i64 (s 5)) ∧ w.cell? ⟨B, 6, none⟩ = some (.int .i64 (s 6)) ∧ w.cell? ⟨B, 7, none⟩ = some (.int .i64 (s 7)) ∧ w.cell? ⟨B, 8, none⟩ = some (.int .i64 (s 8)) ∧ w.cell? ⟨B, 9, none⟩ = some (.int .i64 (s 9)) :=
  ⟨h 0 (by omega), h 1 (by omega), h 2 (by omega), h 3 (by omega), h 4 (by omega), h 5 (by omega), h 6 (by omega), h 7 (by omega), h 8 (by omega), h 9 (by omega)⟩
theorem box_new (w : World) (s : Nat → Int) : Box (w.alloc (.cells #[.int .i64 (s 0), .int .i64 (s 1), .int .i64 (s 2), .int .i64 (s 3), .int .i64 (s 4), .int .i64 (s 5), .int .i64 (s 6), .int .i64 (s 7), .int .i64 (s 8), .int .i64 (s 9)] 38)) w.heap.size s := lt10 (by go_simp) (by go_simp) (by go_simp) (by go_simp) (by go_simp) (by go_simp) (by go_simp) (by go_simp) (by go_simp) (by go_simp)

/-- A row with one place changed, in its block. -/
theorem Box.set {w : World} {B : Nat} {s : Nat → Int} (h : Box w B s) {m : Nat} (hm : m < 10) (n : Int) : Box (w.setCell ⟨B, m, none⟩ (.int .i64 n)) B (putAt s m n) := fun i hi => by
  by_cases e : i = m
  · subst e; rw [World.cell?_setCell_same _ _ _ (h i hi)]; simp [putAt]
  · rw [World.cell?_setCell_other _ _ _ _ (fun h => by simp only [Addr.mk.injEq] at h; omega), h i hi]; simp [putAt, e]
theorem Box.apart {w : World} {B C : Nat} {s : Nat → Int} (h : Box w B s) (hne : C ≠ B) (m : Nat) (v : Value) : Box (w.setCell ⟨C, m, none⟩ v) B s := fun i hi => by
  rw [World.cell?_setCell_other _ _ _ _ (fun h => by simp only [Addr.mk.injEq] at h; omega)]; exact h i hi
theorem Box.congr {w : World} {B : Nat} {s t : Nat → Int} (h : Box w B s) (e : ∀ i, i < 10 → s i = t i) : Box w B t := fun i hi => by rw [← e i hi]; exact h i hi
end Go.Proofs.YtbelfonijmafeaaDoor
