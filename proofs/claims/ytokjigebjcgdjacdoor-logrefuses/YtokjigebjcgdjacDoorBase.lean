/-
  States and results as values; a state in a block of its own.
-/
import Derived.Test.YtokjigebjcgdjacDoorWalkC
import Derived.Test.YtokjigebjcgdjacDoorMathS
import Derived.Deep.QuietTactic
import Derived.BigQuiet
namespace Go.Proofs.YtokjigebjcgdjacDoor
open Go.RowKit

/-- A state, and what a deed came to, as values. -/
def stV (s : Nat → Int) : Value := .agg #[.int .i64 (s 0), .int .i64 (s 1), .int .i64 (s 2), .int .i64 (s 3), .int .i64 (s 4), .int .i64 (s 5), .int .i64 (s 6), .int .i64 (s 7), .int .i64 (s 8), .int .i64 (s 9)]
def resV (c : Int) (g : Nat → Int) : Value := .agg #[.int .i64 c, .int .i64 (g 0), .int .i64 (g 1), .int .i64 (g 2), .int .i64 (g 3)]

theorem lt10 {P : Nat → Prop} (h0 : P 0) (h1 : P 1) (h2 : P 2) (h3 : P 3) (h4 : P 4) (h5 : P 5) (h6 : P 6) (h7 : P 7) (h8 : P 8) (h9 : P 9) : ∀ i, i < 10 → P i
  | 0, _ => h0 | 1, _ => h1 | 2, _ => h2 | 3, _ => h3 | 4, _ => h4 | 5, _ => h5 | 6, _ => h6 | 7, _ => h7 | 8, _ => h8 | 9, _ => h9
theorem lt5 {P : Nat → Prop} (h0 : P 0) (h1 : P 1) (h2 : P 2) (h3 : P 3) (h4 : P 4) : ∀ i, i < 5 → P i
  | 0, _ => h0 | 1, _ => h1 | 2, _ => h2 | 3, _ => h3 | 4, _ => h4
theorem lt4 {P : Nat → Prop} (h0 : P 0) (h1 : P 1) (h2 : P 2) (h3 : P 3) : ∀ i, i < 4 → P i
  | 0, _ => h0 | 1, _ => h1 | 2, _ => h2 | 3, _ => h3

/-- A state in a block of its own. -/
def Box (w : World) (B : Nat) (s : Nat → Int) : Prop := ∀ i, i < 10 → w.cell? ⟨B, i, none⟩ = some (.int .i64 (s i))
theorem Box.later {w w' : World} {B : Nat} {s : Nat → Int} (h : Box w B s) (hb : Below w.heap.size w w') : Box w' B s := fun i hi => cell_later hb (h i hi)
theorem Box.ten {w : World} {B : Nat} {s : Nat → Int} (h : Box w B s) : w.cell? ⟨B, 0, none⟩ = some (.int .i64 (s 0)) ∧ w.cell? ⟨B, 1, none⟩ = some (.int .i64 (s 1)) ∧ w.cell? ⟨B, 2, none⟩ = some (.int .i64 (s 2)) ∧ w.cell? ⟨B, 3, none⟩ = some (.int .i64 (s 3)) ∧ w.cell? ⟨B, 4, none⟩ = some (.int .i64 (s 4)) ∧ w.cell? ⟨B, 5, none⟩ = some (.int .i64 (s 5)) ∧ w.cell? ⟨B, 6, none⟩ = some (.int .i64 (s 6)) ∧ w.cell? ⟨B, 7, none⟩ = some (.int .i64 (s 7)) ∧ w.cell? ⟨B, 8, none⟩ = some (.int .i64 (s 8)) ∧ w.cell? ⟨B, 9, none⟩ = some (.int .i64 (s 9)) :=
  ⟨h 0 (by omega), h 1 (by omega), h 2 (by omega), h 3 (by omega), h 4 (by omega), h 5 (by omega), h 6 (by omega), h 7 (by omega), h 8 (by omega), h 9 (by omega)⟩


/-- A row with one place changed, in its block. -/
theorem Box.set {w : World} {B : Nat} {s : Nat → Int} (h : Box w B s) {m : Nat} (hm : m < 10) (n : Int) : Box (w.setCell ⟨B, m, none⟩ (.int .i64 n)) B (putAt s m n) := fun i hi => by
  by_cases e : i = m
  · subst e; rw [World.cell?_setCell_same _ _ _ (h i hi)]; simp [putAt]
  · rw [World.cell?_setCell_other _ _ _ _ (fun h => by simp only [Addr.mk.injEq] at h; omega), h i hi]; simp [putAt, e]
theorem Box.apart {w : World} {B C : Nat} {s : Nat → Int} (h : Box w B s) (hne : C ≠ B) (m : Nat) (v : Value) : Box (w.setCell ⟨C, m, none⟩ v) B s := fun i hi => by
  rw [World.cell?_setCell_other _ _ _ _ (fun h => by simp only [Addr.mk.injEq] at h; omega)]; exact h i hi
theorem Box.congr {w : World} {B : Nat} {s t : Nat → Int} (h : Box w B s) (e : ∀ i, i < 10 → s i = t i) : Box w B t := fun i hi => by rw [← e i hi]; exact h i hi
theorem drewN_below {B : Nat} {a w : World} (h : Below B a w) (n : Nat) : Below B a (w.drewN n) := h.trans ⟨rfl, rfl, rfl, Nat.le_refl _, fun _ _ => rfl⟩
theorem ret_bool {a b : Bool} (h : a = b) : Ending.returned (.bool a) = .returned (.bool b) := by rw [h]
theorem ret_tuple2 {s t : Nat → Int} {c d : Int} {g h : Nat → Int} {o : Out} (ho : o = ⟨t, d, h⟩) (hs : s = t) (hc : c = d) (hg : g = h) : Ending.returned (.tuple #[stV s, resV c g]) = .returned (.tuple #[stV o.st, resV o.code o.regs]) := by
  subst ho hs hc hg; rfl
theorem below_res {B : Nat} {w W : World} (h : Below B w W) {b c : Nat} (h1 : B ≤ b) (h2 : B ≤ c) (x0 x1 x2 x3 x4 x5 x6 x7 x8 x9 y0 y1 y2 y3 y4 : Value) : Below B w (((((((((((((((W.setCell ⟨b, 0, none⟩ x0).setCell ⟨b, 1, none⟩ x1).setCell ⟨b, 2, none⟩ x2).setCell ⟨b, 3, none⟩ x3).setCell ⟨b, 4, none⟩ x4).setCell ⟨b, 5, none⟩ x5).setCell ⟨b, 6, none⟩ x6).setCell ⟨b, 7, none⟩ x7).setCell ⟨b, 8, none⟩ x8).setCell ⟨b, 9, none⟩ x9).setCell ⟨c, 0, none⟩ y0).setCell ⟨c, 1, none⟩ y1).setCell ⟨c, 2, none⟩ y2).setCell ⟨c, 3, none⟩ y3).setCell ⟨c, 4, none⟩ y4).drew :=
  (((((((((((((((h.setCell (p := ⟨b, 0, none⟩) h1 x0).setCell (p := ⟨b, 1, none⟩) h1 x1).setCell (p := ⟨b, 2, none⟩) h1 x2).setCell (p := ⟨b, 3, none⟩) h1 x3).setCell (p := ⟨b, 4, none⟩) h1 x4).setCell (p := ⟨b, 5, none⟩) h1 x5).setCell (p := ⟨b, 6, none⟩) h1 x6).setCell (p := ⟨b, 7, none⟩) h1 x7).setCell (p := ⟨b, 8, none⟩) h1 x8).setCell (p := ⟨b, 9, none⟩) h1 x9).setCell (p := ⟨c, 0, none⟩) h2 y0).setCell (p := ⟨c, 1, none⟩) h2 y1).setCell (p := ⟨c, 2, none⟩) h2 y2).setCell (p := ⟨c, 3, none⟩) h2 y3).setCell (p := ⟨c, 4, none⟩) h2 y4).drew

end Go.Proofs.YtokjigebjcgdjacDoor
