/-
  Two rows that grow in one statement.
-/
import Derived.Test.YtjkffknipbddoaaDoorTabM
import Derived.Test.YtjkffknipbddoaaDoorBoardA
namespace Go.Proofs.YtjkffknipbddoaaDoor
open Go.RowKit Go.Shelf

/-- Between W and w' two rows may have grown (they were u and v), and nothing else below W's end has changed. -/
structure Rows2 (W w4 : World) (N : Nat) (u v : Value) (w' : World) (vS vR : Value) (nS nR : Nat) (xs ys : List Value) : Prop where
  size : W.heap.size ≤ w'.heap.size
  kept : ∀ b, b < W.heap.size → u.ownBlock ≠ some b → v.ownBlock ≠ some b → w'.heap[b]? = W.heap[b]?
  so : w'.ownsRow N 38 10 vS nS xs
  ro : w'.ownsRow N 43 5 vR nR ys
  ne : ∀ g, vS.ownBlock = some g → vR.ownBlock ≠ some g
  us : ∀ g, vS.ownBlock = some g → u.ownBlock = some g ∨ W.heap.size ≤ g
  ur : ∀ g, vR.ownBlock = some g → v.ownBlock = some g ∨ W.heap.size ≤ g
  low : Below w4.heap.size w4 w'

theorem Rows2.drew {W w4 w' : World} {N : Nat} {u v vS vR : Value} {nS nR : Nat} {xs ys : List Value} (h : Rows2 W w4 N u v w' vS vR nS nR xs ys) : Rows2 W w4 N u v w'.drew vS vR nS nR xs ys :=
  ⟨h.size, h.kept, h.so, h.ro, h.ne, h.us, h.ur, h.low.drew⟩
theorem Rows2.alloc {W w4 w' : World} {N : Nat} {u v vS vR : Value} {nS nR : Nat} {xs ys : List Value} (h : Rows2 W w4 N u v w' vS vR nS nR xs ys) (o : Obj) : Rows2 W w4 N u v (w'.alloc o) vS vR nS nR xs ys :=
  ⟨by have := h.size; simp; omega, fun b hb h1 h2 => by rw [Below.heap_alloc _ _ _ (by have := h.size; omega)]; exact h.kept b hb h1 h2,
   owns_kept h.so fun g hg => Below.heap_alloc _ _ _ (owns_lt h.so hg).2, owns_kept h.ro fun g hg => Below.heap_alloc _ _ _ (owns_lt h.ro hg).2, h.ne, h.us, h.ur, h.low.alloc h.low.size _⟩
theorem Rows2.stepS {W w4 w' w1 : World} {N : Nat} {u v vS vR v1 : Value} {nS nR n1 : Nat} {xs ys xs1 : List Value} (h : Rows2 W w4 N u v w' vS vR nS nR xs ys) (hN : w4.heap.size ≤ N)
    (ho : w1.ownsRow N 38 10 v1 n1 xs1) (hg : w'.grownBy w1 vS.ownBlock) (hat : v1.ownBlock = vS.ownBlock ∨ v1.ownBlock = some w'.heap.size) : Rows2 W w4 N u v w1 v1 vR n1 nR xs1 ys := by
  refine ⟨Nat.le_trans h.size hg.size, fun b hb h1 h2 => ?_, ho, owns_kept h.ro fun g hgg => hg.block g (owns_lt h.ro hgg).2 (fun e => h.ne g e.symm hgg), fun g hgg hr => ?_, fun g hgg => ?_, h.ur, h.low.grown hg h.low.size (fun k hk => Nat.le_trans hN (owns_lt h.so hk).1)⟩
  · rw [hg.block b (by have := h.size; omega) (fun e => by
      rcases h.us b e.symm with e' | e'
      · exact h1 e'
      · omega)]
    exact h.kept b hb h1 h2
  · rcases hat with e | e
    · exact h.ne g (by rw [← e]; exact hgg) hr
    · rw [e] at hgg; cases hgg; have := (owns_lt h.ro hr).2; omega
  · rcases hat with e | e
    · exact h.us g (by rw [← e]; exact hgg)
    · rw [e] at hgg; cases hgg; exact .inr h.size
theorem Rows2.stepR {W w4 w' w1 : World} {N : Nat} {u v vS vR v1 : Value} {nS nR n1 : Nat} {xs ys ys1 : List Value} (h : Rows2 W w4 N u v w' vS vR nS nR xs ys) (hN : w4.heap.size ≤ N)
    (ho : w1.ownsRow N 43 5 v1 n1 ys1) (hg : w'.grownBy w1 vR.ownBlock) (hat : v1.ownBlock = vR.ownBlock ∨ v1.ownBlock = some w'.heap.size) : Rows2 W w4 N u v w1 vS v1 nS n1 xs ys1 := by
  refine ⟨Nat.le_trans h.size hg.size, fun b hb h1 h2 => ?_, owns_kept h.so fun g hgg => hg.block g (owns_lt h.so hgg).2 (fun e => h.ne g hgg e.symm), ho, fun g hgg hr => ?_, h.us, fun g hgg => ?_, h.low.grown hg h.low.size (fun k hk => Nat.le_trans hN (owns_lt h.ro hk).1)⟩
  · rw [hg.block b (by have := h.size; omega) (fun e => by
      rcases h.ur b e.symm with e' | e'
      · exact h2 e'
      · omega)]
    exact h.kept b hb h1 h2
  · rcases hat with e | e
    · exact h.ne g hgg (by rw [← e]; exact hr)
    · rw [e] at hr; cases hr; have := (owns_lt h.so hgg).2; omega
  · rcases hat with e | e
    · exact h.ur g (by rw [← e]; exact hgg)
    · rw [e] at hgg; cases hgg; exact .inr h.size

/-- Cells that lie in neither row are as they were. -/
theorem Rows2.cell {W w4 w' : World} {N : Nat} {u v vS vR : Value} {nS nR : Nat} {xs ys : List Value} (h : Rows2 W w4 N u v w' vS vR nS nR xs ys) {p : Addr} (hp : p.block < W.heap.size) (h1 : u.ownBlock ≠ some p.block) (h2 : v.ownBlock ≠ some p.block) : w'.cell? p = W.cell? p := World.cell?_of_block (h.kept p.block hp h1 h2)
theorem Rows2.froz {W w4 w' : World} {N : Nat} {u v vS vR : Value} {nS nR : Nat} {xs ys : List Value} (h : Rows2 W w4 N u v w' vS vR nS nR xs ys) {p : Addr} (hp : p.block < W.heap.size) (h1 : u.ownBlock ≠ some p.block) (h2 : v.ownBlock ≠ some p.block) : w'.frozen? p = W.frozen? p := World.frozen?_of_block (h.kept p.block hp h1 h2)

def tenL (st : Nat → Int) : List Value := [.int .i64 (st 0), .int .i64 (st 1), .int .i64 (st 2), .int .i64 (st 3), .int .i64 (st 4), .int .i64 (st 5), .int .i64 (st 6), .int .i64 (st 7), .int .i64 (st 8), .int .i64 (st 9)]
def fiveL (c : Int) (g : Nat → Int) : List Value := [.int .i64 c, .int .i64 (g 0), .int .i64 (g 1), .int .i64 (g 2), .int .i64 (g 3)]
def ResAt (w : World) (q : Nat) (c : Int) (g : Nat → Int) : Prop := ∀ j u, (fiveL c g)[j]? = some u → w.cell? ⟨q, j, none⟩ = some u
theorem box_cells {w : World} {p : Nat} {st : Nat → Int} (h : Box w p st) : ∀ j u, (tenL st)[j]? = some u → w.cell? ⟨p, j, none⟩ = some u := fun j u hu => by
  have hj : j < 10 := by have := (List.getElem?_eq_some_iff.1 hu).1; simpa [tenL] using this
  rw [h j hj, ← hu]
  exact (lt10 (P := fun j => some (Value.int .i64 (st j)) = (tenL st)[j]?) rfl rfl rfl rfl rfl rfl rfl rfl rfl rfl j hj)
theorem tenL_one (st : Nat → Int) : ∀ u ∈ tenL st, u.oneCell' = true := by intro u hu; simp only [tenL, List.mem_cons, List.not_mem_nil, or_false] at hu; rcases hu with rfl | rfl | rfl | rfl | rfl | rfl | rfl | rfl | rfl | rfl <;> rfl
theorem fiveL_one (c : Int) (g : Nat → Int) : ∀ u ∈ fiveL c g, u.oneCell' = true := by intro u hu; simp only [fiveL, List.mem_cons, List.not_mem_nil, or_false] at hu; rcases hu with rfl | rfl | rfl | rfl | rfl <;> rfl
theorem addr_at0 (p j : Nat) : (⟨p, 0, none⟩ : Addr).add j = ⟨p, j, none⟩ := by unfold Addr.add; split <;> simp_all

theorem step_S {ops : Array Oper} {o : Oper} {a : Act} {w : World} {K : Act → World → Prop} {Q : Exit → Act → World → Prop} {E : Prop} (hgd : o.guard = none) (s x : Operand) (ho : o.op = .call { callee := .builtin .append, args := #[s, x], argTypes := #[78, 78] })
    {W w4 : World} {N : Nat} {u v vS vR : Value} {nS nR : Nat} {xs ys : List Value} (hrow : Rows2 W w4 N u v w vS vR nS nR xs ys) (hN : w4.heap.size ≤ N) (hNw : N ≤ W.heap.size) (hn : nS ≤ 100) (hs : a.eval s = vS) (p : Nat) (hx : a.eval x = .slice (some ⟨p, 0, none⟩) 1 1) (st : Nat → Int) (hbox : Box w p st)
    (h : ∀ g cap w', Rows2 W w4 N u v w' (.slice (some ⟨g, 0, none⟩) (nS + 1) cap) vR (nS + 1) nR (xs ++ tenL st) ys → (∀ b, b < w.heap.size → vS.ownBlock ≠ some b → w'.heap[b]? = w.heap[b]?) → K (a.put o.dst (.slice (some ⟨g, 0, none⟩) (nS + 1) cap)) w') :
    if Region.wanted o (yielded ops a.tmps) = true then Oper.wp Tryd.prog o a w K Q else E := by
  obtain ⟨i0, hi, hz0, hz1, hz2⟩ := info_parts info38
  refine step_append_at hgd s x 78 ho N 38 i0 _ 10 80 Tryd.underlying78 hi hz0 hz1 hz2 rfl (by decide) vS nS xs hs hrow.so ⟨p, 0, none⟩ 1 1 (tenL st) hx rfl (fun j u hj => by rw [addr_at0]; exact box_cells hbox j u hj) (tenL_one st) (by unfold maxLen; omega) (by omega) (by have := hrow.size; omega) ?_
  intro v1 w1 ho1 hg1 hat1
  have hr := hrow.stepS hN ho1 hg1 hat1
  obtain ⟨g1, cap1, rfl, -⟩ := owns_cells ho1 (by omega)
  exact h g1 cap1 w1 hr (fun b hb hne => hg1.block b hb (fun e => hne e.symm))
theorem step_R {ops : Array Oper} {o : Oper} {a : Act} {w : World} {K : Act → World → Prop} {Q : Exit → Act → World → Prop} {E : Prop} (hgd : o.guard = none) (s x : Operand) (ho : o.op = .call { callee := .builtin .append, args := #[s, x], argTypes := #[48, 48] })
    {W w4 : World} {N : Nat} {u v vS vR : Value} {nS nR : Nat} {xs ys : List Value} (hrow : Rows2 W w4 N u v w vS vR nS nR xs ys) (hN : w4.heap.size ≤ N) (hNw : N ≤ W.heap.size) (hn : nR ≤ 100) (hs : a.eval s = vR) (p : Nat) (hx : a.eval x = .slice (some ⟨p, 0, none⟩) 1 1) (c : Int) (rg : Nat → Int) (hres : ResAt w p c rg)
    (h : ∀ g cap w', Rows2 W w4 N u v w' vS (.slice (some ⟨g, 0, none⟩) (nR + 1) cap) nS (nR + 1) xs (ys ++ fiveL c rg) → (∀ b, b < w.heap.size → vR.ownBlock ≠ some b → w'.heap[b]? = w.heap[b]?) → K (a.put o.dst (.slice (some ⟨g, 0, none⟩) (nR + 1) cap)) w') :
    if Region.wanted o (yielded ops a.tmps) = true then Oper.wp Tryd.prog o a w K Q else E := by
  obtain ⟨i0, hi, hz0, hz1, hz2⟩ := info_parts info43
  refine step_append_at hgd s x 48 ho N 43 i0 _ 5 40 Tryd.underlying48 hi hz0 hz1 hz2 rfl (by decide) vR nR ys hs hrow.ro ⟨p, 0, none⟩ 1 1 (fiveL c rg) hx rfl (fun j u hj => by rw [addr_at0]; exact hres j u hj) (fiveL_one c rg) (by unfold maxLen; omega) (by omega) (by have := hrow.size; omega) ?_
  intro v1 w1 ho1 hg1 hat1
  have hr := hrow.stepR hN ho1 hg1 hat1
  obtain ⟨g1, cap1, rfl, -⟩ := owns_cells ho1 (by omega)
  exact h g1 cap1 w1 hr (fun b hb hne => hg1.block b hb (fun e => hne e.symm))

theorem take_out {s : Nat → Int} {r : List (List Op5)} {j : Nat} (h : j < r.length) : (allOut s r).take (j + 1) = (allOut s r).take j ++ [outAt s r j] := by
  have hl : j < (allOut s r).length := by rw [allOut_length]; exact h
  rw [List.take_succ_eq_append_getElem hl]
  unfold outAt
  rw [List.getElem?_eq_getElem hl]; rfl
theorem st_take {s : Nat → Int} {r : List (List Op5)} {j : Nat} (h : j < r.length) : stCells ((allOut s r).take (j + 1)) = stCells ((allOut s r).take j) ++ tenL (outAt s r j).st := by rw [take_out h, stCells_append]; rfl
theorem res_take {s : Nat → Int} {r : List (List Op5)} {j : Nat} (h : j < r.length) : resCells ((allOut s r).take (j + 1)) = resCells ((allOut s r).take j) ++ fiveL (outAt s r j).code (outAt s r j).regs := by rw [take_out h, resCells_append]; rfl
theorem below_on {a w : World} (h : Below a.heap.size a w) (o : Obj) : Below a.heap.size a (w.alloc o) := h.alloc h.size o

theorem res_of {w : World} {q : Nat} {c : Int} {g : Nat → Int} (h0 : w.cell? ⟨q, 0, none⟩ = some (.int .i64 c)) (h1 : w.cell? ⟨q, 1, none⟩ = some (.int .i64 (g 0))) (h2 : w.cell? ⟨q, 2, none⟩ = some (.int .i64 (g 1))) (h3 : w.cell? ⟨q, 3, none⟩ = some (.int .i64 (g 2))) (h4 : w.cell? ⟨q, 4, none⟩ = some (.int .i64 (g 3))) : ResAt w q c g := fun j u hu => by
  have hj : j < 5 := by have := (List.getElem?_eq_some_iff.1 hu).1; simpa [fiveL] using this
  rw [← hu]
  exact lt5 (P := fun j => w.cell? ⟨q, j, none⟩ = (fiveL c g)[j]?) h0 h1 h2 h3 h4 j hj
theorem ResAt.five {w : World} {q : Nat} {c : Int} {g : Nat → Int} (h : ResAt w q c g) : w.cell? ⟨q, 0, none⟩ = some (.int .i64 c) ∧ w.cell? ⟨q, 1, none⟩ = some (.int .i64 (g 0)) ∧ w.cell? ⟨q, 2, none⟩ = some (.int .i64 (g 1)) ∧ w.cell? ⟨q, 3, none⟩ = some (.int .i64 (g 2)) ∧ w.cell? ⟨q, 4, none⟩ = some (.int .i64 (g 3)) := ⟨h 0 _ rfl, h 1 _ rfl, h 2 _ rfl, h 3 _ rfl, h 4 _ rfl⟩
theorem und {Y w1 : World} (h : Below Y.drew.heap.size Y.drew w1) : Below Y.heap.size Y w1 := ⟨h.os, h.tape, h.output, h.size, h.block⟩
theorem inner {X w1 : World} {o : Obj} (h : Below (X.alloc o).heap.size (X.alloc o) w1) : Below X.heap.size X w1 := ((Below.refl _ _).alloc (Nat.le_refl _) o).trans (h.mono (by simp))
theorem z10 {X w1 : World} {p : Nat} (hp : X.heap.size = p) (h : Below (X.alloc (.cells #[.int .i64 0, .int .i64 0, .int .i64 0, .int .i64 0, .int .i64 0, .int .i64 0, .int .i64 0, .int .i64 0, .int .i64 0, .int .i64 0] 38)).heap.size (X.alloc (.cells #[.int .i64 0, .int .i64 0, .int .i64 0, .int .i64 0, .int .i64 0, .int .i64 0, .int .i64 0, .int .i64 0, .int .i64 0, .int .i64 0] 38)) w1) : w1.cell? ⟨p, 0, none⟩ = some (.int .i64 0) ∧ w1.cell? ⟨p, 1, none⟩ = some (.int .i64 0) ∧ w1.cell? ⟨p, 2, none⟩ = some (.int .i64 0) ∧ w1.cell? ⟨p, 3, none⟩ = some (.int .i64 0) ∧ w1.cell? ⟨p, 4, none⟩ = some (.int .i64 0) ∧ w1.cell? ⟨p, 5, none⟩ = some (.int .i64 0) ∧ w1.cell? ⟨p, 6, none⟩ = some (.int .i64 0) ∧ w1.cell? ⟨p, 7, none⟩ = some (.int .i64 0) ∧ w1.cell? ⟨p, 8, none⟩ = some (.int .i64 0) ∧ w1.cell? ⟨p, 9, none⟩ = some (.int .i64 0) ∧ ∀ o, w1.frozen? ⟨p, o, none⟩ = false := by
  subst hp
  have hb := (box_zero X).later h
  exact ⟨hb 0 (by omega), hb 1 (by omega), hb 2 (by omega), hb 3 (by omega), hb 4 (by omega), hb 5 (by omega), hb 6 (by omega), hb 7 (by omega), hb 8 (by omega), hb 9 (by omega), fun o => by rw [h.frozen (p := ⟨X.heap.size, o, none⟩) (by simp)]; simp⟩
theorem z5 {X w1 : World} {p : Nat} (hp : X.heap.size = p) (h : Below (X.alloc (.cells #[.int .i64 0, .int .i64 0, .int .i64 0, .int .i64 0, .int .i64 0] 43)).heap.size (X.alloc (.cells #[.int .i64 0, .int .i64 0, .int .i64 0, .int .i64 0, .int .i64 0] 43)) w1) : w1.cell? ⟨p, 0, none⟩ = some (.int .i64 0) ∧ w1.cell? ⟨p, 1, none⟩ = some (.int .i64 0) ∧ w1.cell? ⟨p, 2, none⟩ = some (.int .i64 0) ∧ w1.cell? ⟨p, 3, none⟩ = some (.int .i64 0) ∧ w1.cell? ⟨p, 4, none⟩ = some (.int .i64 0) ∧ ∀ o, w1.frozen? ⟨p, o, none⟩ = false := by
  subst hp
  have hc : ∀ j, w1.cell? ⟨X.heap.size, j, none⟩ = (#[Value.int .i64 0, Value.int .i64 0, Value.int .i64 0, Value.int .i64 0, Value.int .i64 0] : Array Value)[j]? := fun j => by rw [h.cell (p := ⟨X.heap.size, j, none⟩) (by simp)]; simp
  exact ⟨hc 0, hc 1, hc 2, hc 3, hc 4, fun o => by rw [h.frozen (p := ⟨X.heap.size, o, none⟩) (by simp)]; simp⟩
def tenOn (W : World) (b : Nat) (y : Nat → Int) : World := ((((((((((W.setCell ⟨b, 0, none⟩ (.int .i64 (y 0))).setCell ⟨b, 1, none⟩ (.int .i64 (y 1))).setCell ⟨b, 2, none⟩ (.int .i64 (y 2))).setCell ⟨b, 3, none⟩ (.int .i64 (y 3))).setCell ⟨b, 4, none⟩ (.int .i64 (y 4))).setCell ⟨b, 5, none⟩ (.int .i64 (y 5))).setCell ⟨b, 6, none⟩ (.int .i64 (y 6))).setCell ⟨b, 7, none⟩ (.int .i64 (y 7))).setCell ⟨b, 8, none⟩ (.int .i64 (y 8))).setCell ⟨b, 9, none⟩ (.int .i64 (y 9)))
theorem tenOn_box {W : World} {b : Nat} {x : Nat → Int} (h : Box W b x) (y : Nat → Int) : Box (tenOn W b y) b y :=
  ((((((((((h.set (m := 0) (by omega) (y 0)).set (m := 1) (by omega) (y 1)).set (m := 2) (by omega) (y 2)).set (m := 3) (by omega) (y 3)).set (m := 4) (by omega) (y 4)).set (m := 5) (by omega) (y 5)).set (m := 6) (by omega) (y 6)).set (m := 7) (by omega) (y 7)).set (m := 8) (by omega) (y 8)).set (m := 9) (by omega) (y 9)).congr (lt10 rfl rfl rfl rfl rfl rfl rfl rfl rfl rfl)
theorem tenOn_block (W : World) (b : Nat) (y : Nat → Int) (k : Nat) (hk : k ≠ b) : (tenOn W b y).heap[k]? = W.heap[k]? := by
  unfold tenOn
  rw [Below.heap_setCell _ _ _ _ hk, Below.heap_setCell _ _ _ _ hk, Below.heap_setCell _ _ _ _ hk, Below.heap_setCell _ _ _ _ hk, Below.heap_setCell _ _ _ _ hk, Below.heap_setCell _ _ _ _ hk, Below.heap_setCell _ _ _ _ hk, Below.heap_setCell _ _ _ _ hk, Below.heap_setCell _ _ _ _ hk, Below.heap_setCell _ _ _ _ hk]
theorem tenOn_froz (W : World) (b : Nat) (y : Nat → Int) (p : Addr) : (tenOn W b y).frozen? p = W.frozen? p := by
  unfold tenOn
  rw [World.frozen?_setCell, World.frozen?_setCell, World.frozen?_setCell, World.frozen?_setCell, World.frozen?_setCell, World.frozen?_setCell, World.frozen?_setCell, World.frozen?_setCell, World.frozen?_setCell, World.frozen?_setCell]
theorem tenOn_size (W : World) (b : Nat) (y : Nat → Int) : (tenOn W b y).heap.size = W.heap.size := by unfold tenOn; simp [World.setCell]
theorem tenOn_below {B : Nat} {a W : World} (h : Below B a W) {b : Nat} (hb : B ≤ b) (y : Nat → Int) : Below B a (tenOn W b y) := below_ten h hb _ _ _ _ _ _ _ _ _ _

def fiveOn (W : World) (b : Nat) (c : Int) (g : Nat → Int) : World := (((((W.setCell ⟨b, 0, none⟩ (.int .i64 c)).setCell ⟨b, 1, none⟩ (.int .i64 (g 0))).setCell ⟨b, 2, none⟩ (.int .i64 (g 1))).setCell ⟨b, 3, none⟩ (.int .i64 (g 2))).setCell ⟨b, 4, none⟩ (.int .i64 (g 3)))
theorem fiveOn_block (W : World) (b : Nat) (c : Int) (g : Nat → Int) (k : Nat) (hk : k ≠ b) : (fiveOn W b c g).heap[k]? = W.heap[k]? := by
  unfold fiveOn
  rw [Below.heap_setCell _ _ _ _ hk, Below.heap_setCell _ _ _ _ hk, Below.heap_setCell _ _ _ _ hk, Below.heap_setCell _ _ _ _ hk, Below.heap_setCell _ _ _ _ hk]
theorem fiveOn_size (W : World) (b : Nat) (c : Int) (g : Nat → Int) : (fiveOn W b c g).heap.size = W.heap.size := by unfold fiveOn; simp [World.setCell]
theorem fiveOn_below {B : Nat} {a W : World} (h : Below B a W) {b : Nat} (hb : B ≤ b) (c : Int) (g : Nat → Int) : Below B a (fiveOn W b c g) := ((((h.setCell (p := ⟨b, 0, none⟩) hb _).setCell (p := ⟨b, 1, none⟩) hb _).setCell (p := ⟨b, 2, none⟩) hb _).setCell (p := ⟨b, 3, none⟩) hb _).setCell (p := ⟨b, 4, none⟩) hb _
theorem fiveOn_res {W : World} {b : Nat} {u0 u1 u2 u3 u4 : Value} (h0 : W.cell? ⟨b, 0, none⟩ = some u0) (h1 : W.cell? ⟨b, 1, none⟩ = some u1) (h2 : W.cell? ⟨b, 2, none⟩ = some u2) (h3 : W.cell? ⟨b, 3, none⟩ = some u3) (h4 : W.cell? ⟨b, 4, none⟩ = some u4) (c : Int) (g : Nat → Int) : ResAt (fiveOn W b c g) b c g := by
  unfold fiveOn
  exact res_of (by go_simp) (by go_simp) (by go_simp) (by go_simp) (by go_simp)
theorem ResAt.later {w w' : World} {q : Nat} {c : Int} {g : Nat → Int} (h : ResAt w q c g) (hb : Below w.heap.size w w') : ResAt w' q c g := fun j u hu => cell_later hb (h j u hu)
theorem res_new (W : World) {q : Nat} (hq : W.heap.size = q) (c : Int) (g : Nat → Int) : ResAt (W.alloc (.cells #[.int .i64 c, .int .i64 (g 0), .int .i64 (g 1), .int .i64 (g 2), .int .i64 (g 3)] 43)) q c g := by
  subst hq
  exact res_of (by go_simp) (by go_simp) (by go_simp) (by go_simp) (by go_simp)
theorem box_newAt (W : World) {p : Nat} (hp : W.heap.size = p) (y : Nat → Int) : Box (W.alloc (.cells #[.int .i64 (y 0), .int .i64 (y 1), .int .i64 (y 2), .int .i64 (y 3), .int .i64 (y 4), .int .i64 (y 5), .int .i64 (y 6), .int .i64 (y 7), .int .i64 (y 8), .int .i64 (y 9)] 38)) p y := by subst hp; exact box_new W y
theorem res_kept {w w1 : World} {u : Option Nat} (hk : ∀ b, b < w.heap.size → u ≠ some b → w1.heap[b]? = w.heap[b]?) {q : Nat} (hu : u ≠ some q) {c : Int} {g : Nat → Int} (h : ResAt w q c g) : ResAt w1 q c g := fun j x hx => by
  rw [World.cell?_of_block (w := w) (hk q (World.block_lt_of_cell? w _ (h 0 _ rfl)) hu)]; exact h j x hx
theorem ResAt.drew {w : World} {q : Nat} {c : Int} {g : Nat → Int} (h : ResAt w q c g) : ResAt w.drew q c g := fun j u hu => h j u hu
theorem box_drew {w : World} {p : Nat} {y : Nat → Int} (h : Box w p y) : Box w.drew p y := fun i hi => h i hi
theorem leaf_b {wr w1 : World} {p : Nat} {x : Nat → Int} (hb : Below wr.heap.size wr w1) (hp : wr.heap.size ≤ p) (hx : Box w1 p x) (y : Nat → Int) (c : Int) (g : Nat → Int) :
    Box ((tenOn w1 p y).alloc (.cells #[.int .i64 c, .int .i64 (g 0), .int .i64 (g 1), .int .i64 (g 2), .int .i64 (g 3)] 43)) p y ∧ ResAt ((tenOn w1 p y).alloc (.cells #[.int .i64 c, .int .i64 (g 0), .int .i64 (g 1), .int .i64 (g 2), .int .i64 (g 3)] 43)) w1.heap.size c g ∧ Below wr.heap.size wr ((tenOn w1 p y).alloc (.cells #[.int .i64 c, .int .i64 (g 0), .int .i64 (g 1), .int .i64 (g 2), .int .i64 (g 3)] 43)) :=
  ⟨(tenOn_box hx y).later ((Below.refl _ _).alloc (Nat.le_refl _) _), res_new _ (tenOn_size _ _ _) c g, below_on (tenOn_below hb hp y) _⟩
theorem leaf_c {wr w1 : World} {q : Nat} {u0 u1 u2 u3 u4 : Value} (hb : Below wr.heap.size wr w1) (hq : wr.heap.size ≤ q) (h0 : w1.cell? ⟨q, 0, none⟩ = some u0) (h1 : w1.cell? ⟨q, 1, none⟩ = some u1) (h2 : w1.cell? ⟨q, 2, none⟩ = some u2) (h3 : w1.cell? ⟨q, 3, none⟩ = some u3) (h4 : w1.cell? ⟨q, 4, none⟩ = some u4) (y : Nat → Int) (c : Int) (g : Nat → Int) :
    Box ((fiveOn w1 q c g).alloc (.cells #[.int .i64 (y 0), .int .i64 (y 1), .int .i64 (y 2), .int .i64 (y 3), .int .i64 (y 4), .int .i64 (y 5), .int .i64 (y 6), .int .i64 (y 7), .int .i64 (y 8), .int .i64 (y 9)] 38)) w1.heap.size y ∧ ResAt ((fiveOn w1 q c g).alloc (.cells #[.int .i64 (y 0), .int .i64 (y 1), .int .i64 (y 2), .int .i64 (y 3), .int .i64 (y 4), .int .i64 (y 5), .int .i64 (y 6), .int .i64 (y 7), .int .i64 (y 8), .int .i64 (y 9)] 38)) q c g ∧ Below wr.heap.size wr ((fiveOn w1 q c g).alloc (.cells #[.int .i64 (y 0), .int .i64 (y 1), .int .i64 (y 2), .int .i64 (y 3), .int .i64 (y 4), .int .i64 (y 5), .int .i64 (y 6), .int .i64 (y 7), .int .i64 (y 8), .int .i64 (y 9)] 38)) :=
  ⟨by have := box_new (fiveOn w1 q c g) y; rw [fiveOn_size] at this; exact this, (fiveOn_res h0 h1 h2 h3 h4 c g).later ((Below.refl _ _).alloc (Nat.le_refl _) _), below_on (fiveOn_below hb hq c g) _⟩
theorem leaf_d {wr w1 : World} {p q : Nat} {x : Nat → Int} {u0 u1 u2 u3 u4 : Value} (hb : Below wr.heap.size wr w1) (hp : wr.heap.size ≤ p) (hq : wr.heap.size ≤ q) (hpq : p ≠ q) (hx : Box w1 p x) (h0 : w1.cell? ⟨q, 0, none⟩ = some u0) (h1 : w1.cell? ⟨q, 1, none⟩ = some u1) (h2 : w1.cell? ⟨q, 2, none⟩ = some u2) (h3 : w1.cell? ⟨q, 3, none⟩ = some u3) (h4 : w1.cell? ⟨q, 4, none⟩ = some u4) (y : Nat → Int) (c : Int) (g : Nat → Int) :
    Box (fiveOn (tenOn w1 p y) q c g) p y ∧ ResAt (fiveOn (tenOn w1 p y) q c g) q c g ∧ Below wr.heap.size wr (fiveOn (tenOn w1 p y) q c g) := by
  have hc : ∀ j, (tenOn w1 p y).cell? ⟨q, j, none⟩ = w1.cell? ⟨q, j, none⟩ := fun j => World.cell?_of_block (tenOn_block w1 p y q (Ne.symm hpq))
  have hB := tenOn_box hx y
  have hl := tenOn_below hb hp y
  generalize tenOn w1 p y = T at hc hB hl
  have hd : ∀ j, (fiveOn T q c g).cell? ⟨p, j, none⟩ = T.cell? ⟨p, j, none⟩ := fun j => World.cell?_of_block (fiveOn_block T q c g p hpq)
  exact ⟨fun i hi => (hd i).trans (hB i hi), fiveOn_res ((hc 0).trans h0) ((hc 1).trans h1) ((hc 2).trans h2) ((hc 3).trans h3) ((hc 4).trans h4) c g, fiveOn_below hl hq c g⟩

/-- The law's variables behind both appends. -/
theorem Rows2.fill {W w4 w' w3 : World} {Q B j : Nat} {s : Nat → Int} {r : List (List Op5)} {u v vS vR : Value} (hQ : w4.heap.size = Q)
    (h : Rows2 W w4 (Q + 4) u v w' vS vR (j + 1) (j + 1) (stCells ((allOut s r).take (j + 1))) (resCells ((allOut s r).take (j + 1))))
    (hu : ∀ g, u.ownBlock = some g → Q + 4 ≤ g) (hv : ∀ g, v.ownBlock = some g → Q + 4 ≤ g) (hW : Q + 1 + 1 + 1 < W.heap.size)
    (tp : W.cell? ⟨Q, 0, none⟩ = some (.pointer (some ⟨B, 0, none⟩))) (now : Box W (Q + 1 + 1 + 1) (allSt s (r.take (j + 1)))) (free : ∀ b, b < 4 → ∀ o, W.frozen? ⟨Q + b, o, none⟩ = false)
    (x1 : W.cell? ⟨Q + 1, 0, none⟩ = some u) (x2 : W.cell? ⟨Q + 1 + 1, 0, none⟩ = some v)
    (hw3 : w3 = (w'.setCell ⟨Q + 1, 0, none⟩ vS).setCell ⟨Q + 1 + 1, 0, none⟩ vR ∨ w3 = (w'.setCell ⟨Q + 1 + 1, 0, none⟩ vR).setCell ⟨Q + 1, 0, none⟩ vS) : FillAt w3 Q B (j + 1) s r vS vR ∧ Below w4.heap.size w4 w3 := by
  have nu : ∀ b, b < Q + 4 → u.ownBlock ≠ some b := fun b hb e => by have := hu b e; omega
  have nv : ∀ b, b < Q + 4 → v.ownBlock ≠ some b := fun b hb e => by have := hv b e; omega
  have y1 : w'.cell? ⟨Q + 1, 0, none⟩ = some u := by rw [h.cell (p := ⟨Q + 1, 0, none⟩) (by simp; omega) (nu _ (by simp)) (nv _ (by simp))]; exact x1
  have y2 : w'.cell? ⟨Q + 1 + 1, 0, none⟩ = some v := by rw [h.cell (p := ⟨Q + 1 + 1, 0, none⟩) (by simp; omega) (nu _ (by simp)) (nv _ (by simp))]; exact x2
  have hblk : ∀ b, b ≠ Q + 1 → b ≠ Q + 1 + 1 → w3.heap[b]? = w'.heap[b]? := fun b n1 n2 => by
    rcases hw3 with e | e
    · rw [e, Below.heap_setCell _ _ _ _ (by simpa using n2), Below.heap_setCell _ _ _ _ (by simpa using n1)]
    · rw [e, Below.heap_setCell _ _ _ _ (by simpa using n1), Below.heap_setCell _ _ _ _ (by simpa using n2)]
  have c1 : w3.cell? ⟨Q + 1, 0, none⟩ = some vS := by
    rcases hw3 with e | e
    · rw [e, World.cell?_setCell_other _ _ _ _ (fun h => by simp only [Addr.mk.injEq] at h; omega)]; exact World.cell?_setCell_same _ _ _ y1
    · rw [e]; exact World.cell?_setCell_same _ _ _ (by rw [World.cell?_setCell_other _ _ _ _ (fun h => by simp only [Addr.mk.injEq] at h; omega)]; exact y1)
  have c2 : w3.cell? ⟨Q + 1 + 1, 0, none⟩ = some vR := by
    rcases hw3 with e | e
    · rw [e]; exact World.cell?_setCell_same _ _ _ (by rw [World.cell?_setCell_other _ _ _ _ (fun h => by simp only [Addr.mk.injEq] at h; omega)]; exact y2)
    · rw [e, World.cell?_setCell_other _ _ _ _ (fun h => by simp only [Addr.mk.injEq] at h; omega)]; exact World.cell?_setCell_same _ _ _ y2
  have hfr : ∀ p, w3.frozen? p = w'.frozen? p := fun p => by
    rcases hw3 with e | e
    · rw [e, World.frozen?_setCell, World.frozen?_setCell]
    · rw [e, World.frozen?_setCell, World.frozen?_setCell]
  refine ⟨⟨?_, c1, c2, fun i hi => ?_, fun b hb o => ?_, owns_kept h.so fun g hg => ?_, owns_kept h.ro fun g hg => ?_, h.ne⟩, ?_⟩
  · rw [World.cell?_of_block (w := w') (hblk _ (by simp) (by simp; omega)), h.cell (by simp; omega) (nu _ (by simp)) (nv _ (by simp))]; exact tp
  · rw [World.cell?_of_block (w := w') (hblk _ (by simp; omega) (by simp)), h.cell (by simp; omega) (nu _ (by simp)) (nv _ (by simp))]; exact now i hi
  · rw [hfr, h.froz (by simp; omega) (nu _ (by simp; omega)) (nv _ (by simp; omega))]; exact free b hb o
  · have := (owns_lt h.so hg).1; exact hblk g (by omega) (by omega)
  · have := (owns_lt h.ro hg).1; exact hblk g (by omega) (by omega)
  · rcases hw3 with e | e
    · rw [e]; exact (h.low.setCell (p := ⟨Q + 1, 0, none⟩) (by simp; omega) _).setCell (p := ⟨Q + 1 + 1, 0, none⟩) (by simp; omega) _
    · rw [e]; exact (h.low.setCell (p := ⟨Q + 1 + 1, 0, none⟩) (by simp; omega) _).setCell (p := ⟨Q + 1, 0, none⟩) (by simp; omega) _

/-- What the second statement of a round begins with. -/
theorem rows_start {wc w4 : World} {Q B j p q : Nat} {s : Nat → Int} {r : List (List Op5)} {vS vR : Value} {o : Out} (hQ : w4.heap.size = Q) (hF : FillAt wc Q B j s r vS vR) (hB : Below w4.heap.size w4 wc) (hp3 : Q + 1 + 1 + 1 < p) (hq3 : Q + 1 + 1 + 1 < q) (hX : Box wc p o.st) (hR : ResAt wc q o.code o.regs) :
    Rows2 (tenOn wc (Q + 1 + 1 + 1) o.st) w4 (Q + 4) vS vR (tenOn wc (Q + 1 + 1 + 1) o.st) vS vR j j (stCells ((allOut s r).take j)) (resCells ((allOut s r).take j)) ∧
    (tenOn wc (Q + 1 + 1 + 1) o.st).cell? ⟨Q, 0, none⟩ = some (.pointer (some ⟨B, 0, none⟩)) ∧ (tenOn wc (Q + 1 + 1 + 1) o.st).cell? ⟨Q + 1, 0, none⟩ = some vS ∧ (tenOn wc (Q + 1 + 1 + 1) o.st).cell? ⟨Q + 1 + 1, 0, none⟩ = some vR ∧
    Box (tenOn wc (Q + 1 + 1 + 1) o.st) (Q + 1 + 1 + 1) o.st ∧ (∀ b, b < 4 → ∀ k, (tenOn wc (Q + 1 + 1 + 1) o.st).frozen? ⟨Q + b, k, none⟩ = false) ∧ Box (tenOn wc (Q + 1 + 1 + 1) o.st) p o.st ∧ ResAt (tenOn wc (Q + 1 + 1 + 1) o.st) q o.code o.regs ∧
    Q + 1 + 1 + 1 < (tenOn wc (Q + 1 + 1 + 1) o.st).heap.size ∧ p < (tenOn wc (Q + 1 + 1 + 1) o.st).heap.size ∧ q < (tenOn wc (Q + 1 + 1 + 1) o.st).heap.size := by
  have hc : ∀ b, b ≠ Q + 1 + 1 + 1 → (tenOn wc (Q + 1 + 1 + 1) o.st).heap[b]? = wc.heap[b]? := fun b hb => tenOn_block wc _ o.st b hb
  have hnow := tenOn_box hF.now o.st
  have hfr : ∀ a, (tenOn wc (Q + 1 + 1 + 1) o.st).frozen? a = wc.frozen? a := fun a => tenOn_froz wc _ o.st a
  have hsz := tenOn_size wc (Q + 1 + 1 + 1) o.st
  have hlow := tenOn_below hB (b := Q + 1 + 1 + 1) (by omega) o.st
  have h1 := hF.lt
  have h2 := World.block_lt_of_cell? wc _ (hX 0 (by omega))
  have h3 := World.block_lt_of_cell? wc _ (hR 0 _ rfl)
  generalize tenOn wc (Q + 1 + 1 + 1) o.st = T at *
  refine ⟨⟨Nat.le_refl _, fun _ _ _ _ => rfl, owns_kept hF.so fun g hg => hc g ?_, owns_kept hF.ro fun g hg => hc g ?_, hF.ne, fun g hg => .inl hg, fun g hg => .inl hg, hlow⟩, ?_, ?_, ?_, hnow, fun b hb k => (hfr _).trans (hF.free b hb k), fun i hi => ?_, fun i u hu => ?_, by rw [hsz]; exact h1, by rw [hsz]; exact h2, by rw [hsz]; exact h3⟩
  · have := (owns_lt hF.so hg).1; omega
  · have := (owns_lt hF.ro hg).1; omega
  · rw [World.cell?_of_block (w := wc) (hc Q (by omega))]; exact hF.tp
  · rw [World.cell?_of_block (w := wc) (hc (Q + 1) (by omega))]; exact hF.sp
  · rw [World.cell?_of_block (w := wc) (hc (Q + 1 + 1) (by omega))]; exact hF.rp
  · rw [World.cell?_of_block (w := wc) (hc p (by omega))]; exact hX i hi
  · rw [World.cell?_of_block (w := wc) (hc q (by omega))]; exact hR i u hu
end Go.Proofs.YtjkffknipbddoaaDoor
