/-
  What the law TableFills has in memory.
-/
import Derived.Test.YtjkffknipbddoaaDoorTabL
import Derived.Test.YtjkffknipbddoaaDoorWalkV
namespace Go.Proofs.YtjkffknipbddoaaDoor
open Go.RowKit Go.Shelf

def resCells : List Out → List Value
  | [] => []
  | o :: r => .int .i64 o.code :: .int .i64 (o.regs 0) :: .int .i64 (o.regs 1) :: .int .i64 (o.regs 2) :: .int .i64 (o.regs 3) :: resCells r
def stCells : List Out → List Value
  | [] => []
  | o :: r => .int .i64 (o.st 0) :: .int .i64 (o.st 1) :: .int .i64 (o.st 2) :: .int .i64 (o.st 3) :: .int .i64 (o.st 4) :: .int .i64 (o.st 5) :: .int .i64 (o.st 6) :: .int .i64 (o.st 7) :: .int .i64 (o.st 8) :: .int .i64 (o.st 9) :: stCells r
theorem resCells_append (l m : List Out) : resCells (l ++ m) = resCells l ++ resCells m := by
  induction l with
  | nil => rfl
  | cons o r ih => simp only [List.cons_append, resCells, ih]
theorem stCells_append (l m : List Out) : stCells (l ++ m) = stCells l ++ stCells m := by
  induction l with
  | nil => rfl
  | cons o r ih => simp only [List.cons_append, stCells, ih]
theorem resCells_at (l : List Out) : ∀ i (h : i < l.length), (resCells l)[i * 5]? = some (.int .i64 l[i].code) := by
  induction l with
  | nil => intro i h; simp at h
  | cons o r ih =>
    intro i h
    cases i with
    | zero => rfl
    | succ i =>
      have := ih i (by simpa using h)
      rw [show (i + 1) * 5 = i * 5 + 5 by omega]
      exact this
theorem stCells_at (l : List Out) : ∀ i (h : i < l.length), ∀ j, j < 10 → (stCells l)[i * 10 + j]? = some (.int .i64 (l[i].st j)) := by
  induction l with
  | nil => intro i h; simp at h
  | cons o r ih =>
    intro i h j hj
    cases i with
    | zero =>
      rw [Nat.zero_mul, Nat.zero_add]
      exact lt10 (P := fun j => (stCells (o :: r))[j]? = some (.int .i64 (o.st j))) rfl rfl rfl rfl rfl rfl rfl rfl rfl rfl j hj
    | succ i =>
      have := ih i (by simpa using h) j hj
      rw [show (i + 1) * 10 + j = i * 10 + j + 10 by omega]
      exact this

/-- The law's variables: the table, the states, the results, the state as it is. -/
structure FillAt (w : World) (Q B j : Nat) (s : Nat → Int) (r : List (List Op5)) (vS vR : Value) : Prop where
  tp : w.cell? ⟨Q, 0, none⟩ = some (.pointer (some ⟨B, 0, none⟩))
  sp : w.cell? ⟨Q + 1, 0, none⟩ = some vS
  rp : w.cell? ⟨Q + 1 + 1, 0, none⟩ = some vR
  now : Box w (Q + 1 + 1 + 1) (allSt s (r.take j))
  free : ∀ b, b < 4 → ∀ o, w.frozen? ⟨Q + b, o, none⟩ = false
  so : w.ownsRow (Q + 4) 38 10 vS j (stCells ((allOut s r).take j))
  ro : w.ownsRow (Q + 4) 43 5 vR j (resCells ((allOut s r).take j))
  ne : ∀ g, vS.ownBlock = some g → vR.ownBlock ≠ some g

theorem owns_later {w w' : World} {base : Nat} {e : TypeId} {size : Nat} {v : Value} {n : Nat} {xs : List Value} (hb : Below w.heap.size w w') (h : w.ownsRow base e size v n xs) : w'.ownsRow base e size v n xs := by
  refine ⟨h.1, ?_⟩
  rcases h.2 with hn | ⟨g, cap, cur, hv, hbase, hg, rest⟩
  · exact .inl hn
  · refine .inr ⟨g, cap, cur, hv, hbase, ?_, rest⟩
    rw [hb.block g (Array.getElem?_eq_some_iff.1 hg).1]; exact hg
theorem FillAt.lt {w : World} {Q B j : Nat} {s : Nat → Int} {r : List (List Op5)} {vS vR : Value} (h : FillAt w Q B j s r vS vR) : Q + 1 + 1 + 1 < w.heap.size := World.block_lt_of_cell? w _ (h.now 0 (by omega))
theorem FillAt.later {w w' : World} {Q B j : Nat} {s : Nat → Int} {r : List (List Op5)} {vS vR : Value} (h : FillAt w Q B j s r vS vR) (hb : Below w.heap.size w w') : FillAt w' Q B j s r vS vR :=
  ⟨cell_later hb h.tp, cell_later hb h.sp, cell_later hb h.rp, h.now.later hb, fun b h4 o => by rw [hb.frozen (p := ⟨Q + b, o, none⟩) (by have := h.lt; simp; omega)]; exact h.free b h4 o, owns_later hb h.so, owns_later hb h.ro, h.ne⟩

theorem info38 : (Tryd.prog.info? 38).map (fun i => (i.zero, i.size, i.bytes)) = some (some (.agg #[.int .i64 0, .int .i64 0, .int .i64 0, .int .i64 0, .int .i64 0, .int .i64 0, .int .i64 0, .int .i64 0, .int .i64 0, .int .i64 0]), 10, 80) := by kernel_rfl
theorem info43 : (Tryd.prog.info? 43).map (fun i => (i.zero, i.size, i.bytes)) = some (some (.agg #[.int .i64 0, .int .i64 0, .int .i64 0, .int .i64 0, .int .i64 0]), 5, 40) := by kernel_rfl
end Go.Proofs.YtjkffknipbddoaaDoor
