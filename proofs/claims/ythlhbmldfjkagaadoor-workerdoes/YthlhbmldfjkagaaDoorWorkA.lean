/-
  A worker as it lies in memory; worlds that part in some blocks alone.
-/
import Derived.Test.YthlhbmldfjkagaaDoorTabF
import Derived.Test.YthlhbmldfjkagaaDoorMathW
import Derived.StillTailTactics
namespace Go.Proofs.YthlhbmldfjkagaaDoor
open Go.RowKit Go.Shelf

/-- All blocks that lay there are as they were, but for some. -/
structure Grew (S : Nat → Prop) (w w' : World) : Prop where
  os : w'.os = w.os
  tape : w'.tape = w.tape
  output : w'.output = w.output
  size : w.heap.size ≤ w'.heap.size
  block : ∀ k, k < w.heap.size → ¬ S k → w'.heap[k]? = w.heap[k]?
theorem Grew.refl (S : Nat → Prop) (w : World) : Grew S w w := ⟨rfl, rfl, rfl, Nat.le_refl _, fun _ _ _ => rfl⟩
theorem Grew.trans {S : Nat → Prop} {a b c : World} (h : Grew S a b) (k : Grew S b c) : Grew S a c :=
  ⟨k.os.trans h.os, k.tape.trans h.tape, k.output.trans h.output, Nat.le_trans h.size k.size, fun i hi hn => (k.block i (Nat.lt_of_lt_of_le hi h.size) hn).trans (h.block i hi hn)⟩
theorem Grew.of_below {S : Nat → Prop} {w w' : World} (h : Below w.heap.size w w') : Grew S w w' := ⟨h.os, h.tape, h.output, h.size, fun i hi _ => h.block i hi⟩
theorem Grew.of_grown {S : Nat → Prop} {w w' : World} {B : Nat} (h : w.grownBy w' (some B)) (hB : S B) : Grew S w w' :=
  ⟨h.os, h.tape, h.output, h.size, fun i hi hn => h.block i hi (fun e => hn (by cases e; exact hB))⟩
theorem Grew.mono {S S' : Nat → Prop} {w w' : World} (h : Grew S w w') (hS : ∀ k, S k → S' k) : Grew S' w w' := ⟨h.os, h.tape, h.output, h.size, fun i hi hn => h.block i hi (fun e => hn (hS i e))⟩
theorem Grew.drew {S : Nat → Prop} {a w : World} (h : Grew S a w) : Grew S a w.drew := ⟨h.os, h.tape, h.output, h.size, h.block⟩
theorem Grew.cell {S : Nat → Prop} {w w' : World} (h : Grew S w w') {p : Addr} {v : Value} (hp : w.cell? p = some v) (hn : ¬ S p.block) : w'.cell? p = some v := by
  rw [World.cell?_of_block (w := w) (h.block p.block (World.block_lt_of_cell? w _ hp) hn)]; exact hp
theorem Grew.frozen {S : Nat → Prop} {w w' : World} (h : Grew S w w') {p : Addr} (hp : p.block < w.heap.size) (hn : ¬ S p.block) : w'.frozen? p = w.frozen? p := World.frozen?_of_block (w := w) (h.block p.block hp hn)
theorem Grew.below {S : Nat → Prop} {n : Nat} {a w w' : World} (h : Grew S w w') (ha : Below n a w) (hn : n ≤ w.heap.size) (hS : ∀ k, S k → n ≤ k) : Below n a w' :=
  ⟨h.os.trans ha.os, h.tape.trans ha.tape, h.output.trans ha.output, Nat.le_trans ha.size h.size, fun k hk => (h.block k (by omega) (fun e => by have := hS k e; omega)).trans (ha.block k hk)⟩
theorem grown_alloc (w : World) (o : Obj) (row : Option Nat) : w.grownBy (w.alloc o) row := below_grown ((Below.refl _ _).alloc (Nat.le_refl _) _) row
theorem grown_drewN (w : World) (n : Nat) (row : Option Nat) : w.grownBy (w.drewN n) row := ⟨rfl, rfl, rfl, Nat.le_refl _, fun _ _ _ => rfl⟩

/-- A worker: its deed, its number, its place, what it stored, its code, its registers, whether it is over. -/
structure WorkAt (w : World) (C : Nat) (dv : Value) (b : Nat) (x : Wk) : Prop where
  deed : w.cell? ⟨C, 0, none⟩ = some dv
  num : w.cell? ⟨C, 1, none⟩ = some (.int .i64 (b : Int))
  place : w.cell? ⟨C, 2, none⟩ = some (.int .i64 (x.nx : Int))
  sto : ∀ k, k < 10 → w.cell? ⟨C, 3 + k * 2, none⟩ = some (.int .i64 (x.n k))
  is : ∀ k, k < 10 → w.cell? ⟨C, 3 + k * 2 + 1, none⟩ = some (.bool (x.is k))
  code : w.cell? ⟨C, 23, none⟩ = some (.int .i64 x.code)
  reg : ∀ i, i < 4 → w.cell? ⟨C, 24 + i, none⟩ = some (.int .i64 (x.regs i))
  over : w.cell? ⟨C, 28, none⟩ = some (.bool x.over)
  free : ∀ o, w.frozen? ⟨C, o, none⟩ = false

theorem WorkAt.lt {w : World} {C : Nat} {dv : Value} {b : Nat} {x : Wk} (h : WorkAt w C dv b x) : C < w.heap.size := World.block_lt_of_cell? w _ h.deed
theorem WorkAt.kept {w w' : World} {C : Nat} {dv : Value} {b : Nat} {x : Wk} (h : WorkAt w C dv b x) (hb : w'.heap[C]? = w.heap[C]?) : WorkAt w' C dv b x := by
  have hc : ∀ o, w'.cell? ⟨C, o, none⟩ = w.cell? ⟨C, o, none⟩ := fun o => World.cell?_of_block hb
  have hf : ∀ o, w'.frozen? ⟨C, o, none⟩ = w.frozen? ⟨C, o, none⟩ := fun o => World.frozen?_of_block hb
  exact ⟨by rw [hc]; exact h.deed, by rw [hc]; exact h.num, by rw [hc]; exact h.place, fun k hk => by rw [hc]; exact h.sto k hk, fun k hk => by rw [hc]; exact h.is k hk, by rw [hc]; exact h.code, fun k hk => by rw [hc]; exact h.reg k hk, by rw [hc]; exact h.over, fun o => by rw [hf]; exact h.free o⟩
theorem WorkAt.later {w w' : World} {C : Nat} {dv : Value} {b : Nat} {x : Wk} (h : WorkAt w C dv b x) (hb : Below w.heap.size w w') : WorkAt w' C dv b x := h.kept (hb.block C h.lt)
theorem WorkAt.alloc {w : World} {C : Nat} {dv : Value} {b : Nat} {x : Wk} (h : WorkAt w C dv b x) (o : Obj) : WorkAt (w.alloc o) C dv b x := h.later ((Below.refl _ _).alloc (Nat.le_refl _) _)
theorem WorkAt.drew {w : World} {C : Nat} {dv : Value} {b : Nat} {x : Wk} (h : WorkAt w C dv b x) : WorkAt w.drew C dv b x := h.kept rfl
theorem WorkAt.drewN {w : World} {C : Nat} {dv : Value} {b : Nat} {x : Wk} (h : WorkAt w C dv b x) (n : Nat) : WorkAt (w.drewN n) C dv b x := h.kept rfl
theorem WorkAt.grew {S : Nat → Prop} {w w' : World} {C : Nat} {dv : Value} {b : Nat} {x : Wk} (h : WorkAt w C dv b x) (hg : Grew S w w') (hn : ¬ S C) : WorkAt w' C dv b x := h.kept (hg.block C h.lt hn)
theorem WorkAt.grown {w w' : World} {B C : Nat} {dv : Value} {b : Nat} {x : Wk} (h : WorkAt w C dv b x) (hg : w.grownBy w' (some B)) (hn : C ≠ B) : WorkAt w' C dv b x := h.kept (hg.block C h.lt (fun e => hn (by cases e; rfl)))

theorem cell_apart {w : World} {C o m : Nat} (u : Value) (h : o ≠ m) : (w.setCell ⟨C, m, none⟩ u).cell? ⟨C, o, none⟩ = w.cell? ⟨C, o, none⟩ :=
  World.cell?_setCell_other _ _ _ _ (fun h => by simp only [Addr.mk.injEq] at h; omega)

theorem WorkAt.setNext {w : World} {C : Nat} {dv : Value} {b : Nat} {x : Wk} (h : WorkAt w C dv b x) (n : Nat) : WorkAt (w.setCell ⟨C, 2, none⟩ (.int .i64 (n : Int))) C dv b ⟨n, x.is, x.n, x.regs, x.code, x.over⟩ :=
  ⟨by rw [cell_apart _ (by omega)]; exact h.deed, by rw [cell_apart _ (by omega)]; exact h.num, World.cell?_setCell_same _ _ _ h.place, fun k hk => by rw [cell_apart _ (by omega)]; exact h.sto k hk, fun k hk => by rw [cell_apart _ (by omega)]; exact h.is k hk, by rw [cell_apart _ (by omega)]; exact h.code, fun k hk => by rw [cell_apart _ (by omega)]; exact h.reg k hk, by rw [cell_apart _ (by omega)]; exact h.over, fun o => by rw [World.frozen?_setCell]; exact h.free o⟩
theorem WorkAt.setReg {w : World} {C : Nat} {dv : Value} {b : Nat} {x : Wk} (h : WorkAt w C dv b x) {m : Nat} (hm : m < 4) (n : Int) : WorkAt (w.setCell ⟨C, 24 + m, none⟩ (.int .i64 n)) C dv b ⟨x.nx, x.is, x.n, putAt x.regs m n, x.code, x.over⟩ :=
  ⟨by rw [cell_apart _ (by omega)]; exact h.deed, by rw [cell_apart _ (by omega)]; exact h.num, by rw [cell_apart _ (by omega)]; exact h.place, fun k hk => by rw [cell_apart _ (by omega)]; exact h.sto k hk, fun k hk => by rw [cell_apart _ (by omega)]; exact h.is k hk, by rw [cell_apart _ (by omega)]; exact h.code, fun k hk => by
    by_cases e : k = m
    · subst e; rw [World.cell?_setCell_same _ _ _ (h.reg k hk)]; simp [putAt]
    · rw [cell_apart _ (by omega), h.reg k hk]; simp [putAt, e], by rw [cell_apart _ (by omega)]; exact h.over, fun o => by rw [World.frozen?_setCell]; exact h.free o⟩
theorem WorkAt.setSto {w : World} {C : Nat} {dv : Value} {b : Nat} {x : Wk} (h : WorkAt w C dv b x) {m : Nat} (hm : m < 10) (n : Int) : WorkAt ((w.setCell ⟨C, 3 + m * 2, none⟩ (.int .i64 n)).setCell ⟨C, 3 + m * 2 + 1, none⟩ (.bool true)) C dv b ⟨x.nx, fun i => if i = m then true else x.is i, putAt x.n m n, x.regs, x.code, x.over⟩ :=
  ⟨by rw [cell_apart _ (by omega), cell_apart _ (by omega)]; exact h.deed, by rw [cell_apart _ (by omega), cell_apart _ (by omega)]; exact h.num, by rw [cell_apart _ (by omega), cell_apart _ (by omega)]; exact h.place, fun k hk => by
    rw [cell_apart _ (by omega)]
    by_cases e : k = m
    · subst e; rw [World.cell?_setCell_same _ _ _ (h.sto k hk)]; simp [putAt]
    · rw [cell_apart _ (by omega), h.sto k hk]; simp [putAt, e], fun k hk => by
    by_cases e : k = m
    · subst e; rw [World.cell?_setCell_same _ _ _ (by rw [cell_apart _ (by omega)]; exact h.is k hk)]; simp
    · rw [cell_apart _ (by omega), cell_apart _ (by omega), h.is k hk]; simp [e], by rw [cell_apart _ (by omega), cell_apart _ (by omega)]; exact h.code, fun k hk => by rw [cell_apart _ (by omega), cell_apart _ (by omega)]; exact h.reg k hk, by rw [cell_apart _ (by omega), cell_apart _ (by omega)]; exact h.over, fun o => by rw [World.frozen?_setCell, World.frozen?_setCell]; exact h.free o⟩
theorem WorkAt.setOver {w : World} {C : Nat} {dv : Value} {b : Nat} {x : Wk} (h : WorkAt w C dv b x) (c : Int) : WorkAt ((w.setCell ⟨C, 23, none⟩ (.int .i64 c)).setCell ⟨C, 28, none⟩ (.bool true)) C dv b (overW x c) :=
  ⟨by rw [cell_apart _ (by omega), cell_apart _ (by omega)]; exact h.deed, by rw [cell_apart _ (by omega), cell_apart _ (by omega)]; exact h.num, by rw [cell_apart _ (by omega), cell_apart _ (by omega)]; exact h.place, fun k hk => by rw [cell_apart _ (by omega), cell_apart _ (by omega)]; exact h.sto k hk, fun k hk => by rw [cell_apart _ (by omega), cell_apart _ (by omega)]; exact h.is k hk, by rw [cell_apart _ (by omega)]; exact World.cell?_setCell_same _ _ _ h.code, fun k hk => by rw [cell_apart _ (by omega), cell_apart _ (by omega)]; exact h.reg k hk, World.cell?_setCell_same _ _ _ (by rw [cell_apart _ (by omega)]; exact h.over), fun o => by rw [World.frozen?_setCell, World.frozen?_setCell]; exact h.free o⟩
end Go.Proofs.YthlhbmldfjkagaaDoor
