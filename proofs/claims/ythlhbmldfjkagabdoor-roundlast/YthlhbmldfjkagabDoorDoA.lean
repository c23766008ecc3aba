/-
  What the reference's Do leaves in memory: a state and a result, in boxes of their own.
-/
import Derived.Test.YthlhbmldfjkagabDoorRndF
import Derived.Test.YthlhbmldfjkagabDoorWalkV
import Derived.Test.YthlhbmldfjkagabDoorRegG
namespace Go.Proofs.YthlhbmldfjkagabDoor
open Go.RowKit Go.Shelf

def fiveL (c : Int) (g : Nat → Int) : List Value := [.int .i64 c, .int .i64 (g 0), .int .i64 (g 1), .int .i64 (g 2), .int .i64 (g 3)]
def ResAt (w : World) (q : Nat) (c : Int) (g : Nat → Int) : Prop := ∀ j u, (fiveL c g)[j]? = some u → w.cell? ⟨q, j, none⟩ = some u
theorem below_on {a w : World} (h : Below a.heap.size a w) (o : Obj) : Below a.heap.size a (w.alloc o) := h.alloc h.size o

theorem res_of {w : World} {q : Nat} {c : Int} {g : Nat → Int} (h0 : w.cell? ⟨q, 0, none⟩ = some (.int .i64 c)) (h1 : w.cell? ⟨q, 1, none⟩ = some (.int .i64 (g 0))) (h2 : w.cell? ⟨q, 2, none⟩ = some (.int .i64 (g 1))) (h3 : w.cell? ⟨q, 3, none⟩ = some (.int .i64 (g 2))) (h4 : w.cell? ⟨q, 4, none⟩ = some (.int .i64 (g 3))) : ResAt w q c g := fun j u hu => by
  have hj : j < 5 := by have := (List.getElem?_eq_some_iff.1 hu).1; simpa [fiveL] using this
  rw [← hu]
  exact lt5 (P := fun j => w.cell? ⟨q, j, none⟩ = (fiveL c g)[j]?) h0 h1 h2 h3 h4 j hj
theorem ResAt.five {w : World} {q : Nat} {c : Int} {g : Nat → Int} (h : ResAt w q c g) : w.cell? ⟨q, 0, none⟩ = some (.int .i64 c) ∧ w.cell? ⟨q, 1, none⟩ = some (.int .i64 (g 0)) ∧ w.cell? ⟨q, 2, none⟩ = some (.int .i64 (g 1)) ∧ w.cell? ⟨q, 3, none⟩ = some (.int .i64 (g 2)) ∧ w.cell? ⟨q, 4, none⟩ = some (.int .i64 (g 3)) := ⟨h 0 _ rfl, h 1 _ rfl, h 2 _ rfl, h 3 _ rfl, h 4 _ rfl⟩
theorem und {Y w1 : World} (h : Below Y.drew.heap.size Y.drew w1) : Below Y.heap.size Y w1 := ⟨h.os, h.tape, h.output, h.size, h.block⟩
theorem inner {X w1 : World} {o : Obj} (h : Below (X.alloc o).heap.size (X.alloc o) w1) : Below X.heap.size X w1 := ((Below.refl _ _).alloc (Nat.le_refl _) o).trans (h.mono (by simp))
theorem z10 {X w1 : World} {p : Nat} (hp : X.heap.size = p) (h : Below (X.alloc (.cells #[.int .i64 0, .int .i64 0, .int .i64 0, .int .i64 0, .int .i64 0, .int .i64 0, .int .i64 0, .int .i64 0, .int .i64 0, .int .i64 0] 23)).heap.size (X.alloc (.cells #[.int .i64 0, .int .i64 0, .int .i64 0, .int .i64 0, .int .i64 0, .int .i64 0, .int .i64 0, .int .i64 0, .int .i64 0, .int .i64 0] 23)) w1) : w1.cell? ⟨p, 0, none⟩ = some (.int .i64 0) ∧ w1.cell? ⟨p, 1, none⟩ = some (.int .i64 0) ∧ w1.cell? ⟨p, 2, none⟩ = some (.int .i64 0) ∧ w1.cell? ⟨p, 3, none⟩ = some (.int .i64 0) ∧ w1.cell? ⟨p, 4, none⟩ = some (.int .i64 0) ∧ w1.cell? ⟨p, 5, none⟩ = some (.int .i64 0) ∧ w1.cell? ⟨p, 6, none⟩ = some (.int .i64 0) ∧ w1.cell? ⟨p, 7, none⟩ = some (.int .i64 0) ∧ w1.cell? ⟨p, 8, none⟩ = some (.int .i64 0) ∧ w1.cell? ⟨p, 9, none⟩ = some (.int .i64 0) ∧ ∀ o, w1.frozen? ⟨p, o, none⟩ = false := by
  subst hp
  have hb := (box_zero X).later h
  exact ⟨hb 0 (by omega), hb 1 (by omega), hb 2 (by omega), hb 3 (by omega), hb 4 (by omega), hb 5 (by omega), hb 6 (by omega), hb 7 (by omega), hb 8 (by omega), hb 9 (by omega), fun o => by rw [h.frozen (p := ⟨X.heap.size, o, none⟩) (by simp)]; simp⟩
theorem z5 {X w1 : World} {p : Nat} (hp : X.heap.size = p) (h : Below (X.alloc (.cells #[.int .i64 0, .int .i64 0, .int .i64 0, .int .i64 0, .int .i64 0] 36)).heap.size (X.alloc (.cells #[.int .i64 0, .int .i64 0, .int .i64 0, .int .i64 0, .int .i64 0] 36)) w1) : w1.cell? ⟨p, 0, none⟩ = some (.int .i64 0) ∧ w1.cell? ⟨p, 1, none⟩ = some (.int .i64 0) ∧ w1.cell? ⟨p, 2, none⟩ = some (.int .i64 0) ∧ w1.cell? ⟨p, 3, none⟩ = some (.int .i64 0) ∧ w1.cell? ⟨p, 4, none⟩ = some (.int .i64 0) ∧ ∀ o, w1.frozen? ⟨p, o, none⟩ = false := by
  subst hp
  have hc : ∀ j, w1.cell? ⟨X.heap.size, j, none⟩ = (#[Value.int .i64 0, Value.int .i64 0, Value.int .i64 0, Value.int .i64 0, Value.int .i64 0] : Array Value)[j]? := fun j => by rw [h.cell (p := ⟨X.heap.size, j, none⟩) (by simp)]; simp
  exact ⟨hc 0, hc 1, hc 2, hc 3, hc 4, fun o => by rw [h.frozen (p := ⟨X.heap.size, o, none⟩) (by simp)]; simp⟩
def tenOn (W : World) (b : Nat) (y : Nat → Int) : World := ((((((((((W.setCell ⟨b, 0, none⟩ (.int .i64 (y 0))).setCell ⟨b, 1, none⟩ (.int .i64 (y 1))).setCell ⟨b, 2, none⟩ (.int .i64 (y 2))).setCell ⟨b, 3, none⟩ (.int .i64 (y 3))).setCell ⟨b, 4, none⟩ (.int .i64 (y 4))).setCell ⟨b, 5, none⟩ (.int .i64 (y 5))).setCell ⟨b, 6, none⟩ (.int .i64 (y 6))).setCell ⟨b, 7, none⟩ (.int .i64 (y 7))).setCell ⟨b, 8, none⟩ (.int .i64 (y 8))).setCell ⟨b, 9, none⟩ (.int .i64 (y 9)))
theorem tenOn_box {W : World} {b : Nat} {x : Nat → Int} (h : Box W b x) (y : Nat → Int) : Box (tenOn W b y) b y :=
  ((((((((((h.set (m := 0) (by omega) (y 0)).set (m := 1) (by omega) (y 1)).set (m := 2) (by omega) (y 2)).set (m := 3) (by omega) (y 3)).set (m := 4) (by omega) (y 4)).set (m := 5) (by omega) (y 5)).set (m := 6) (by omega) (y 6)).set (m := 7) (by omega) (y 7)).set (m := 8) (by omega) (y 8)).set (m := 9) (by omega) (y 9)).congr (lt10 rfl rfl rfl rfl rfl rfl rfl rfl rfl rfl)
theorem tenOn_block (W : World) (b : Nat) (y : Nat → Int) (k : Nat) (hk : k ≠ b) : (tenOn W b y).heap[k]? = W.heap[k]? := by
  unfold tenOn
  rw [Below.heap_setCell _ _ _ _ hk, Below.heap_setCell _ _ _ _ hk, Below.heap_setCell _ _ _ _ hk, Below.heap_setCell _ _ _ _ hk, Below.heap_setCell _ _ _ _ hk, Below.heap_setCell _ _ _ _ hk, Below.heap_setCell _ _ _ _ hk, Below.heap_setCell _ _ _ _ hk, Below.heap_setCell _ _ _ _ hk, Below.heap_setCell _ _ _ _ hk]
theorem tenOn_froz (W : World) (b : Nat) (y : Nat → Int) (p : Addr) : (tenOn W b y).frozen? p = W.frozen? p := by
  unfold tenOn
  rw [World.frozen?_setCell, World.frozen?_setCell, World.frozen?_setCell, World.frozen?_setCell, World.frozen?_setCell, World.frozen?_setCell, World.frozen?_setCell, World.frozen?_setCell, World.frozen?_setCell, World.frozen?_setCell]
theorem tenOn_size (W : World) (b : Nat) (y : Nat → Int) : (tenOn W b y).heap.size = W.heap.size := by unfold tenOn; simp [World.setCell]
theorem tenOn_below {B : Nat} {a W : World} (h : Below B a W) {b : Nat} (hb : B ≤ b) (y : Nat → Int) : Below B a (tenOn W b y) := below_ten h hb _ _ _ _ _ _ _ _ _ _

def fiveOn (W : World) (b : Nat) (c : Int) (g : Nat → Int) : World := (((((W.setCell ⟨b, 0, none⟩ (.int .i64 c)).setCell ⟨b, 1, none⟩ (.int .i64 (g 0))).setCell ⟨b, 2, none⟩ (.int .i64 (g 1))).setCell ⟨b, 3, none⟩ (.int .i64 (g 2))).setCell ⟨b, 4, none⟩ (.int .i64 (g 3)))
theorem fiveOn_block (W : World) (b : Nat) (c : Int) (g : Nat → Int) (k : Nat) (hk : k ≠ b) : (fiveOn W b c g).heap[k]? = W.heap[k]? := by
  unfold fiveOn
  rw [Below.heap_setCell _ _ _ _ hk, Below.heap_setCell _ _ _ _ hk, Below.heap_setCell _ _ _ _ hk, Below.heap_setCell _ _ _ _ hk, Below.heap_setCell _ _ _ _ hk]
theorem fiveOn_size (W : World) (b : Nat) (c : Int) (g : Nat → Int) : (fiveOn W b c g).heap.size = W.heap.size := by unfold fiveOn; simp [World.setCell]
theorem fiveOn_below {B : Nat} {a W : World} (h : Below B a W) {b : Nat} (hb : B ≤ b) (c : Int) (g : Nat → Int) : Below B a (fiveOn W b c g) := ((((h.setCell (p := ⟨b, 0, none⟩) hb _).setCell (p := ⟨b, 1, none⟩) hb _).setCell (p := ⟨b, 2, none⟩) hb _).setCell (p := ⟨b, 3, none⟩) hb _).setCell (p := ⟨b, 4, none⟩) hb _
theorem fiveOn_res {W : World} {b : Nat} {u0 u1 u2 u3 u4 : Value} (h0 : W.cell? ⟨b, 0, none⟩ = some u0) (h1 : W.cell? ⟨b, 1, none⟩ = some u1) (h2 : W.cell? ⟨b, 2, none⟩ = some u2) (h3 : W.cell? ⟨b, 3, none⟩ = some u3) (h4 : W.cell? ⟨b, 4, none⟩ = some u4) (c : Int) (g : Nat → Int) : ResAt (fiveOn W b c g) b c g := by
  unfold fiveOn
  exact res_of (by go_simp) (by go_simp) (by go_simp) (by go_simp) (by go_simp)
theorem ResAt.later {w w' : World} {q : Nat} {c : Int} {g : Nat → Int} (h : ResAt w q c g) (hb : Below w.heap.size w w') : ResAt w' q c g := fun j u hu => cell_later hb (h j u hu)
theorem res_new (W : World) {q : Nat} (hq : W.heap.size = q) (c : Int) (g : Nat → Int) : ResAt (W.alloc (.cells #[.int .i64 c, .int .i64 (g 0), .int .i64 (g 1), .int .i64 (g 2), .int .i64 (g 3)] 36)) q c g := by
  subst hq
  exact res_of (by go_simp) (by go_simp) (by go_simp) (by go_simp) (by go_simp)
theorem box_newAt (W : World) {p : Nat} (hp : W.heap.size = p) (y : Nat → Int) : Box (W.alloc (.cells #[.int .i64 (y 0), .int .i64 (y 1), .int .i64 (y 2), .int .i64 (y 3), .int .i64 (y 4), .int .i64 (y 5), .int .i64 (y 6), .int .i64 (y 7), .int .i64 (y 8), .int .i64 (y 9)] 23)) p y := by subst hp; exact box_new W y
theorem res_kept {w w1 : World} {u : Option Nat} (hk : ∀ b, b < w.heap.size → u ≠ some b → w1.heap[b]? = w.heap[b]?) {q : Nat} (hu : u ≠ some q) {c : Int} {g : Nat → Int} (h : ResAt w q c g) : ResAt w1 q c g := fun j x hx => by
  rw [World.cell?_of_block (w := w) (hk q (World.block_lt_of_cell? w _ (h 0 _ rfl)) hu)]; exact h j x hx
theorem ResAt.drew {w : World} {q : Nat} {c : Int} {g : Nat → Int} (h : ResAt w q c g) : ResAt w.drew q c g := fun j u hu => h j u hu
theorem box_drew {w : World} {p : Nat} {y : Nat → Int} (h : Box w p y) : Box w.drew p y := fun i hi => h i hi
theorem leaf_b {wr w1 : World} {p : Nat} {x : Nat → Int} (hb : Below wr.heap.size wr w1) (hp : wr.heap.size ≤ p) (hx : Box w1 p x) (y : Nat → Int) (c : Int) (g : Nat → Int) :
    Box ((tenOn w1 p y).alloc (.cells #[.int .i64 c, .int .i64 (g 0), .int .i64 (g 1), .int .i64 (g 2), .int .i64 (g 3)] 36)) p y ∧ ResAt ((tenOn w1 p y).alloc (.cells #[.int .i64 c, .int .i64 (g 0), .int .i64 (g 1), .int .i64 (g 2), .int .i64 (g 3)] 36)) w1.heap.size c g ∧ Below wr.heap.size wr ((tenOn w1 p y).alloc (.cells #[.int .i64 c, .int .i64 (g 0), .int .i64 (g 1), .int .i64 (g 2), .int .i64 (g 3)] 36)) :=
  ⟨(tenOn_box hx y).later ((Below.refl _ _).alloc (Nat.le_refl _) _), res_new _ (tenOn_size _ _ _) c g, below_on (tenOn_below hb hp y) _⟩
theorem leaf_c {wr w1 : World} {q : Nat} {u0 u1 u2 u3 u4 : Value} (hb : Below wr.heap.size wr w1) (hq : wr.heap.size ≤ q) (h0 : w1.cell? ⟨q, 0, none⟩ = some u0) (h1 : w1.cell? ⟨q, 1, none⟩ = some u1) (h2 : w1.cell? ⟨q, 2, none⟩ = some u2) (h3 : w1.cell? ⟨q, 3, none⟩ = some u3) (h4 : w1.cell? ⟨q, 4, none⟩ = some u4) (y : Nat → Int) (c : Int) (g : Nat → Int) :
    Box ((fiveOn w1 q c g).alloc (.cells #[.int .i64 (y 0), .int .i64 (y 1), .int .i64 (y 2), .int .i64 (y 3), .int .i64 (y 4), .int .i64 (y 5), .int .i64 (y 6), .int .i64 (y 7), .int .i64 (y 8), .int .i64 (y 9)] 23)) w1.heap.size y ∧ ResAt ((fiveOn w1 q c g).alloc (.cells #[.int .i64 (y 0), .int .i64 (y 1), .int .i64 (y 2), .int .i64 (y 3), .int .i64 (y 4), .int .i64 (y 5), .int .i64 (y 6), .int .i64 (y 7), .int .i64 (y 8), .int .i64 (y 9)] 23)) q c g ∧ Below wr.heap.size wr ((fiveOn w1 q c g).alloc (.cells #[.int .i64 (y 0), .int .i64 (y 1), .int .i64 (y 2), .int .i64 (y 3), .int .i64 (y 4), .int .i64 (y 5), .int .i64 (y 6), .int .i64 (y 7), .int .i64 (y 8), .int .i64 (y 9)] 23)) :=
  ⟨by have := box_new (fiveOn w1 q c g) y; rw [fiveOn_size] at this; exact this, (fiveOn_res h0 h1 h2 h3 h4 c g).later ((Below.refl _ _).alloc (Nat.le_refl _) _), below_on (fiveOn_below hb hq c g) _⟩
theorem leaf_d {wr w1 : World} {p q : Nat} {x : Nat → Int} {u0 u1 u2 u3 u4 : Value} (hb : Below wr.heap.size wr w1) (hp : wr.heap.size ≤ p) (hq : wr.heap.size ≤ q) (hpq : p ≠ q) (hx : Box w1 p x) (h0 : w1.cell? ⟨q, 0, none⟩ = some u0) (h1 : w1.cell? ⟨q, 1, none⟩ = some u1) (h2 : w1.cell? ⟨q, 2, none⟩ = some u2) (h3 : w1.cell? ⟨q, 3, none⟩ = some u3) (h4 : w1.cell? ⟨q, 4, none⟩ = some u4) (y : Nat → Int) (c : Int) (g : Nat → Int) :
    Box (fiveOn (tenOn w1 p y) q c g) p y ∧ ResAt (fiveOn (tenOn w1 p y) q c g) q c g ∧ Below wr.heap.size wr (fiveOn (tenOn w1 p y) q c g) := by
  have hc : ∀ j, (tenOn w1 p y).cell? ⟨q, j, none⟩ = w1.cell? ⟨q, j, none⟩ := fun j => World.cell?_of_block (tenOn_block w1 p y q (Ne.symm hpq))
  have hB := tenOn_box hx y
  have hl := tenOn_below hb hp y
  generalize tenOn w1 p y = T at hc hB hl
  have hd : ∀ j, (fiveOn T q c g).cell? ⟨p, j, none⟩ = T.cell? ⟨p, j, none⟩ := fun j => World.cell?_of_block (fiveOn_block T q c g p hpq)
  exact ⟨fun i hi => (hd i).trans (hB i hi), fiveOn_res ((hc 0).trans h0) ((hc 1).trans h1) ((hc 2).trans h2) ((hc 3).trans h3) ((hc 4).trans h4) c g, fiveOn_below hl hq c g⟩
end Go.Proofs.YthlhbmldfjkagabDoor
