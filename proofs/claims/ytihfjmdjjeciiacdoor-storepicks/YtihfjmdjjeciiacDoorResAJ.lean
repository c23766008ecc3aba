/-
  Rows of results as they lie in memory; the walk of the reference's SameResults.
-/
import Derived.Test.YtihfjmdjjeciiacDoorRndFJ
import Derived.Test.YtihfjmdjjeciiacDoorEqAJ
import Derived.Deep.RegionHeld3
namespace Go.Proofs.YtihfjmdjjeciiacDoor
open Go.RowKit Go.Shelf

/-- Codes and registers, cell by cell. -/
def rowC (co : Nat → Int) (re : Nat → Nat → Int) : Nat → List Value
  | 0 => []
  | n + 1 => rowC co re n ++ [.int .i64 (co n), .int .i64 (re n 0), .int .i64 (re n 1), .int .i64 (re n 2), .int .i64 (re n 3)]
theorem rowC_res (X : Nat → Wk) : ∀ n, resW X n = rowC (fun i => resC (X i)) (fun i => resG (X i)) n
  | 0 => rfl
  | n + 1 => by simp only [resW, rowC, rowC_res X n]
theorem rowC_out (s : Nat → Int) (r : List (List Op5)) : ∀ n, outCells s r n = rowC (fun i => (outAt s r i).code) (fun i => (outAt s r i).regs) n
  | 0 => rfl
  | n + 1 => by simp only [outCells, rowC, rowC_out s r n]
theorem rowC_length (co : Nat → Int) (re : Nat → Nat → Int) (n : Nat) : (rowC co re n).length = n * 5 := by
  induction n with
  | zero => rfl
  | succ n ih => simp only [rowC, List.length_append, ih, List.length_cons, List.length_nil]; omega
theorem rowC_at (co : Nat → Int) (re : Nat → Nat → Int) : ∀ n i, i < n → (rowC co re n)[i * 5]? = some (.int .i64 (co i)) ∧ (rowC co re n)[i * 5 + 1]? = some (.int .i64 (re i 0)) ∧ (rowC co re n)[i * 5 + 2]? = some (.int .i64 (re i 1)) ∧ (rowC co re n)[i * 5 + 3]? = some (.int .i64 (re i 2)) ∧ (rowC co re n)[i * 5 + 4]? = some (.int .i64 (re i 3))
  | 0, i, h => absurd h (by omega)
  | n + 1, i, h => by
    have hl := rowC_length co re n
    simp only [rowC]
    by_cases e : i = n
    · subst e
      refine ⟨?_, ?_, ?_, ?_, ?_⟩
      · rw [List.getElem?_append_right (by omega), hl, show i * 5 - i * 5 = 0 by omega]; rfl
      · rw [List.getElem?_append_right (by omega), hl, show i * 5 + 1 - i * 5 = 1 by omega]; rfl
      · rw [List.getElem?_append_right (by omega), hl, show i * 5 + 2 - i * 5 = 2 by omega]; rfl
      · rw [List.getElem?_append_right (by omega), hl, show i * 5 + 3 - i * 5 = 3 by omega]; rfl
      · rw [List.getElem?_append_right (by omega), hl, show i * 5 + 4 - i * 5 = 4 by omega]; rfl
    · obtain ⟨h0, h1, h2, h3, h4⟩ := rowC_at co re n i (by omega)
      rw [List.getElem?_append_left (by omega), List.getElem?_append_left (by omega), List.getElem?_append_left (by omega), List.getElem?_append_left (by omega), List.getElem?_append_left (by omega)]
      exact ⟨h0, h1, h2, h3, h4⟩

/-- A row of results in a block. -/
structure ResRow (w : World) (g n : Nat) (co : Nat → Int) (re : Nat → Nat → Int) : Prop where
  at' : ∀ i, i < n → w.cell? ⟨g, i * 5, none⟩ = some (.int .i64 (co i)) ∧ w.cell? ⟨g, i * 5 + 1, none⟩ = some (.int .i64 (re i 0)) ∧ w.cell? ⟨g, i * 5 + 2, none⟩ = some (.int .i64 (re i 1)) ∧ w.cell? ⟨g, i * 5 + 3, none⟩ = some (.int .i64 (re i 2)) ∧ w.cell? ⟨g, i * 5 + 4, none⟩ = some (.int .i64 (re i 3))
theorem ResRow.later {w w' : World} {g n : Nat} {co : Nat → Int} {re : Nat → Nat → Int} (h : ResRow w g n co re) (hb : Below w.heap.size w w') : ResRow w' g n co re := ⟨fun i hi => by
  obtain ⟨h0, h1, h2, h3, h4⟩ := h.at' i hi
  exact ⟨cell_later hb h0, cell_later hb h1, cell_later hb h2, cell_later hb h3, cell_later hb h4⟩⟩
theorem ResRow.grew {S : Nat → Prop} {w w' : World} {g n : Nat} {co : Nat → Int} {re : Nat → Nat → Int} (h : ResRow w g n co re) (hg : Grew S w w') (hn : ¬ S g) : ResRow w' g n co re := ⟨fun i hi => by
  obtain ⟨h0, h1, h2, h3, h4⟩ := h.at' i hi
  exact ⟨hg.cell h0 hn, hg.cell h1 hn, hg.cell h2 hn, hg.cell h3 hn, hg.cell h4 hn⟩⟩
theorem ResRow.congr {w : World} {g n : Nat} {co co' : Nat → Int} {re re' : Nat → Nat → Int} (h : ResRow w g n co re) (hc : ∀ i, i < n → co i = co' i) (hr : ∀ i, i < n → ∀ j, re i j = re' i j) : ResRow w g n co' re' := ⟨fun i hi => by
  rw [← hc i hi, ← hr i hi, ← hr i hi, ← hr i hi, ← hr i hi]; exact h.at' i hi⟩
theorem resRow_of_owns {w : World} {base g n : Nat} {e : TypeId} {co : Nat → Int} {re : Nat → Nat → Int} (h : w.ownsRow base e 5 (.slice (some ⟨g, 0, none⟩) n n) n (rowC co re n)) : ResRow w g n co re := ⟨fun i hi => by
  obtain ⟨h0, h1, h2, h3, h4⟩ := rowC_at co re n i hi
  rw [h.cellAt _ (by omega), h.cellAt _ (by omega), h.cellAt _ (by omega), h.cellAt _ (by omega), h.cellAt _ (by omega)]
  exact ⟨h0, h1, h2, h3, h4⟩⟩

theorem Box.range {w : World} {A : Nat} {s : Nat → Int} (h : Box w A s) : w.rangeAt A 0 [.int .i64 (s 0), .int .i64 (s 1), .int .i64 (s 2), .int .i64 (s 3), .int .i64 (s 4), .int .i64 (s 5), .int .i64 (s 6), .int .i64 (s 7), .int .i64 (s 8), .int .i64 (s 9)] := fun j v hv => by
  have hj : j < 10 := by have := (List.getElem?_eq_some_iff.1 hv).1; simpa using this
  rw [Nat.zero_add, h j hj]
  exact (lt10 (P := fun j => [Value.int .i64 (s 0), .int .i64 (s 1), .int .i64 (s 2), .int .i64 (s 3), .int .i64 (s 4), .int .i64 (s 5), .int .i64 (s 6), .int .i64 (s 7), .int .i64 (s 8), .int .i64 (s 9)][j]? = some (.int .i64 (s j))) rfl rfl rfl rfl rfl rfl rfl rfl rfl rfl j hj).symm.trans hv

set_option maxRecDepth 100000 in
set_option maxHeartbeats 1000000 in
theorem sameRes_any (g1 g2 n c1 c2 : Nat) (co : Nat → Int) (re : Nat → Nat → Int) (w : World) (h1 : ResRow w g1 n co re) (h2 : ResRow w g2 n co re) (hn : n ≤ 8) :
    Calls Tryd.prog 40 #[.slice (some ⟨g1, 0, none⟩) n c1, .slice (some ⟨g2, 0, none⟩) n c2] w fun e w' => e = .returned (.bool true) ∧ Below w.heap.size w w' := by
  go_enter Tryd.func40, Tryd.ntmps40
  go_wp2_with fail
  go_loopg [5] n (fun g i wr => ∃ j : Nat, j ≤ n ∧ g = n - j ∧ i = .int .i64 j ∧ Below w.heap.size w wr)
  case atStart => exact ⟨0, by omega, by omega, rfl, Below.refl _ _⟩
  case round =>
    obtain ⟨j, hj, hg, rfl, hB⟩ := hrel
    by_cases hlt : j < n
    · obtain ⟨a0, a1, a2, a3, a4⟩ := (h1.later hB).at' j hlt
      obtain ⟨b0, b1, b2, b3, b4⟩ := (h2.later hB).at' j hlt
      have hji : (j : Int) < (n : Int) := by omega
      have h36 := eq43 (co j) (re j 0) (re j 1) (re j 2) (re j 3)
      generalize co j = y at *
      generalize re j 0 = y0 at *
      generalize re j 1 = y1 at *
      generalize re j 2 = y2 at *
      generalize re j 3 = y3 at *
      clear h1 h2
      go_wp2_with fail
      go_quiet (fail)
      go_wp2_with fail
      go_roundg (n - (j + 1))
      case measure => omega
      case rel => exact ⟨j + 1, by omega, rfl, by go_num, drewN_below hB _⟩
    · clear h1 h2
      go_wp2_with fail
      go_ret
      exact ⟨rfl, hB⟩
end Go.Proofs.YtihfjmdjjeciiacDoor
