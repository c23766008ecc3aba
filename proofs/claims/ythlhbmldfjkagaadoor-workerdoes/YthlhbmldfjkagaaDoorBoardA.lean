/-
  The reference's board as it lies in memory; append as one step of a region, with the place where the new row lies.
-/
import Derived.Test.YthlhbmldfjkagaaDoorWorkA
import Derived.Test.YthlhbmldfjkagaaDoorStoA
import Derived.Maps.AppendAt
import Derived.Deep.RegionLaw
import Derived.Deep.CutRange
namespace Go.Proofs.YthlhbmldfjkagaaDoor
open Go.RowKit Go.Shelf

theorem step_append_at {P : Program} {ops : Array Oper} {o : Oper} {a : Act} {w : World} {K : Act → World → Prop} {Q : Exit → Act → World → Prop} {E : Prop}
    (hgd : o.guard = none) (s x : Operand) (t : TypeId) (ho : o.op = .call { callee := .builtin .append, args := #[s, x], argTypes := #[t, t] })
    (base : Nat) (e : TypeId) (i : TypeInfo) (z : Value) (size bytes : Nat) (ht : P.underlying t = some (.slice e)) (hi : P.info? e = some i) (hz : i.zero = some z)
    (hsize : i.size = size) (hby : i.bytes = bytes) (hzs : z.cells.size = size) (hsz : 0 < size)
    (v : Value) (n : Nat) (xs : List Value) (hs : a.eval s = v) (hown : w.ownsRow base e size v n xs)
    (ad : Addr) (m c : Nat) (news : List Value) (hx : a.eval x = .slice (some ad) m c) (hl : news.length = m * size) (hnews : ∀ j u, news[j]? = some u → w.cell? (ad.add j) = some u) (h1 : ∀ u ∈ news, u.oneCell' = true)
    (h63 : n + m ≤ maxLen) (hbytes : (n + m) * bytes ≤ 140737488355328) (hbase : base ≤ w.heap.size)
    (h : ∀ v' w', w'.ownsRow base e size v' (n + m) (xs ++ news) → w.grownBy w' v.ownBlock → (v'.ownBlock = v.ownBlock ∨ v'.ownBlock = some w.heap.size) → K (a.put o.dst v') w') :
    if Region.wanted o (yielded ops a.tmps) = true then Oper.wp P o a w K Q else E := by
  have hw : Region.wanted o (yielded ops a.tmps) = true := by simp [Region.wanted, hgd]
  rw [if_pos hw]
  obtain ⟨v', w', hr, h2, h3, -, h5⟩ := run_append_own_at (P := P) w base t o.type e i z size bytes ht hi hz hsize hby hzs hsz v n xs hown ad m c news hl hnews h1 h63 hbytes hbase
  unfold Oper.wp execOp
  simp only [ho, resolve, invoke, builtin, Sem.run_bind, Sem.run_pure, Result.andThen_ok, List.map_toArray, List.map_cons, List.map_nil, hs, hx, hr]
  exact h v' w' h2 h3 h5

theorem owns_kept {w w' : World} {base : Nat} {e : TypeId} {size : Nat} {v : Value} {n : Nat} {xs : List Value} (h : w.ownsRow base e size v n xs) (hb : ∀ g, v.ownBlock = some g → w'.heap[g]? = w.heap[g]?) : w'.ownsRow base e size v n xs := by
  refine ⟨h.1, ?_⟩
  rcases h.2 with hn | ⟨g, cap, cur, hv, hbase, hg, rest⟩
  · exact .inl hn
  · refine .inr ⟨g, cap, cur, hv, hbase, ?_, rest⟩
    rw [hb g (by rw [hv]; rfl)]; exact hg
theorem owns_lt {w : World} {base : Nat} {e : TypeId} {size : Nat} {v : Value} {n : Nat} {xs : List Value} (h : w.ownsRow base e size v n xs) {g : Nat} (hg : v.ownBlock = some g) : base ≤ g ∧ g < w.heap.size := by
  rcases h.2 with ⟨rfl, -⟩ | ⟨g', cap, cur, rfl, hbase, hc, -⟩
  · cases hg
  · cases hg
    exact ⟨hbase, (Array.getElem?_eq_some_iff.1 hc).1⟩
theorem owns_below {w w' : World} {base : Nat} {e : TypeId} {size : Nat} {v : Value} {n : Nat} {xs : List Value} (h : w.ownsRow base e size v n xs) (hb : Below w.heap.size w w') : w'.ownsRow base e size v n xs := owns_kept h fun g hg => hb.block g (owns_lt h hg).2
theorem owns_cells {w : World} {base : Nat} {e : TypeId} {v : Value} {n : Nat} {xs : List Value} {size : Nat} (h : w.ownsRow base e size v n xs) (hn : 0 < n) : ∃ g cap, v = .slice (some ⟨g, 0, none⟩) n cap ∧ ∀ j u, xs[j]? = some u → w.cell? ⟨g, j, none⟩ = some u := by
  have hc := h
  rcases h.2 with ⟨-, h0⟩ | ⟨g, cap, cur, rfl, -⟩
  · omega
  · refine ⟨g, cap, rfl, fun j u hj => ?_⟩
    have := hc.cells (g := g) rfl j u hj
    rw [show (⟨g, 0, none⟩ : Addr).add j = ⟨g, j, none⟩ by unfold Addr.add; split <;> simp_all] at this
    exact this

def slotCells : List Slot4 → List Value
  | [] => []
  | s :: r => .int .i64 s.b :: .bool s.op :: .bool s.vo :: .int .i64 s.n :: slotCells r
theorem slotCells_append (l m : List Slot4) : slotCells (l ++ m) = slotCells l ++ slotCells m := by
  induction l with
  | nil => rfl
  | cons o r ih => simp only [List.cons_append, slotCells, ih]
theorem slotCells_length (l : List Slot4) : (slotCells l).length = l.length * 4 := by
  induction l with
  | nil => rfl
  | cons o r ih => simp only [slotCells, List.length_cons, ih]; omega
theorem slotCells_one (l : List Slot4) : ∀ u ∈ slotCells l, u.oneCell' = true := by
  induction l with
  | nil => intro u hu; simp [slotCells] at hu
  | cons o r ih =>
    intro u hu
    simp only [slotCells, List.mem_cons] at hu
    rcases hu with rfl | rfl | rfl | rfl | hu
    · rfl
    · rfl
    · rfl
    · rfl
    · exact ih u hu
theorem slotCells_at (l : List Slot4) : ∀ i, i < l.length → (slotCells l)[i * 4]? = some (.int .i64 (slotAt l i).b) ∧ (slotCells l)[i * 4 + 1]? = some (.bool (slotAt l i).op) ∧ (slotCells l)[i * 4 + 2]? = some (.bool (slotAt l i).vo) ∧ (slotCells l)[i * 4 + 3]? = some (.int .i64 (slotAt l i).n) := by
  induction l with
  | nil => intro i h; simp at h
  | cons o r ih =>
    intro i h
    cases i with
    | zero => exact ⟨rfl, rfl, rfl, rfl⟩
    | succ i =>
      have := ih i (by simpa using h)
      rw [show (i + 1) * 4 = i * 4 + 4 by omega, show slotAt (o :: r) (i + 1) = slotAt r i by simp [slotAt]]
      exact this

/-- A board: ten slices, each in a row of its own. -/
structure BoardAt (w : World) (N D : Nat) (T : Nat → List Slot4) (V : Nat → Value) : Prop where
  cell : ∀ k, k < 10 → w.cell? ⟨D, k, none⟩ = some (V k)
  own : ∀ k, k < 10 → w.ownsRow N 103 4 (V k) (T k).length (slotCells (T k))
  apart : ∀ k, k < 10 → ∀ g, (V k).ownBlock = some g → g ≠ D ∧ ∀ j, j < 10 → (V j).ownBlock = some g → j = k
  free : ∀ o, w.frozen? ⟨D, o, none⟩ = false
theorem BoardAt.lt {w : World} {N D : Nat} {T : Nat → List Slot4} {V : Nat → Value} (h : BoardAt w N D T V) : D < w.heap.size := World.block_lt_of_cell? w _ (h.cell 0 (by omega))
theorem BoardAt.kept {w w' : World} {N D : Nat} {T : Nat → List Slot4} {V : Nat → Value} (h : BoardAt w N D T V) (hD : w'.heap[D]? = w.heap[D]?) (hb : ∀ k, k < 10 → ∀ g, (V k).ownBlock = some g → w'.heap[g]? = w.heap[g]?) : BoardAt w' N D T V :=
  ⟨fun k hk => by rw [World.cell?_of_block (w := w) hD]; exact h.cell k hk, fun k hk => owns_kept (h.own k hk) (hb k hk), h.apart, fun o => (World.frozen?_of_block hD).trans (h.free o)⟩
theorem BoardAt.later {w w' : World} {N D : Nat} {T : Nat → List Slot4} {V : Nat → Value} (h : BoardAt w N D T V) (hb : Below w.heap.size w w') : BoardAt w' N D T V := h.kept (hb.block D h.lt) (fun k hk g hg => hb.block g (owns_lt (h.own k hk) hg).2)
def putV (V : Nat → Value) (k : Nat) (v : Value) : Nat → Value := fun j => if j = k then v else V j
theorem BoardAt.append {w w' : World} {N D : Nat} {T : Nat → List Slot4} {V : Nat → Value} (h : BoardAt w N D T V) {k : Nat} (hk : k < 10) {v' : Value} {s : Slot4} (ho : w'.ownsRow N 103 4 v' ((T k).length + 1) (slotCells (T k) ++ slotCells [s])) (hg : w.grownBy w' (V k).ownBlock) (hat : v'.ownBlock = (V k).ownBlock ∨ v'.ownBlock = some w.heap.size) :
    BoardAt (w'.setCell ⟨D, k, none⟩ v') N D (putT T k (T k ++ [s])) (putV V k v') := by
  have hD : w'.heap[D]? = w.heap[D]? := hg.block D h.lt (fun e => (h.apart k hk D e.symm).1 rfl)
  have hc : ∀ j, w'.cell? ⟨D, j, none⟩ = w.cell? ⟨D, j, none⟩ := fun j => World.cell?_of_block hD
  have hv' : ∀ g, v'.ownBlock = some g → g ≠ D ∧ ∀ j, j < 10 → (V j).ownBlock = some g → j = k := fun g hgg => by
    rcases hat with e | e
    · exact h.apart k hk g (by rw [← e]; exact hgg)
    · rw [e] at hgg
      cases hgg
      exact ⟨fun e => by have := h.lt; omega, fun j hj hjg => by have := (owns_lt (h.own j hj) hjg).2; omega⟩
  refine ⟨fun j hj => ?_, fun j hj => ?_, fun j hj g hgg => ?_, fun o => ?_⟩
  · unfold putV
    by_cases e : j = k
    · subst e; rw [if_pos rfl]; exact World.cell?_setCell_same _ _ _ (by rw [hc]; exact h.cell j hj)
    · rw [if_neg e, World.cell?_setCell_other _ _ _ _ (fun h => by simp only [Addr.mk.injEq] at h; omega), hc]; exact h.cell j hj
  · unfold putV putT
    by_cases e : j = k
    · subst e
      rw [if_pos rfl, if_pos rfl, List.length_append, slotCells_append]
      exact owns_kept ho fun g hgg => Below.heap_setCell _ _ _ _ (hv' g hgg).1
    · rw [if_neg e, if_neg e]
      refine owns_kept (h.own j hj) fun g hgg => ?_
      rw [Below.heap_setCell _ _ _ _ (h.apart j hj g hgg).1]
      exact hg.block g (owns_lt (h.own j hj) hgg).2 (fun e' => e ((h.apart j hj g hgg).2 k hk e'.symm).symm)
  · unfold putV at hgg ⊢
    by_cases e : j = k
    · subst e
      rw [if_pos rfl] at hgg
      refine ⟨(hv' g hgg).1, fun i hi hig => ?_⟩
      by_cases ei : i = j
      · exact ei
      · rw [if_neg ei] at hig; exact (hv' g hgg).2 i hi hig
    · rw [if_neg e] at hgg
      refine ⟨(h.apart j hj g hgg).1, fun i hi hig => ?_⟩
      by_cases ei : i = k
      · rw [if_pos ei] at hig
        exact absurd ((hv' g hig).2 j hj hgg) e
      · rw [if_neg ei] at hig; exact (h.apart j hj g hgg).2 i hi hig
  · rw [World.frozen?_setCell, World.frozen?_of_block hD]; exact h.free o
theorem board_below {w w' : World} {N D n : Nat} {T : Nat → List Slot4} {V : Nat → Value} (h : BoardAt w N D T V) {k : Nat} (hk : k < 10) (hg : w.grownBy w' (V k).ownBlock) {a : World} (ha : Below n a w) (hn : n ≤ w.heap.size) (hN : n ≤ N) (hD : n ≤ D) (v' : Value) : Below n a (w'.setCell ⟨D, k, none⟩ v') :=
  (ha.grown hg hn (fun _ hq => Nat.le_trans hN (owns_lt (h.own k hk) hq).1)).setCell (p := ⟨D, k, none⟩) hD v'
end Go.Proofs.YthlhbmldfjkagaaDoor
