/-
  A log as it lies in memory.
-/
import Derived.Test.YtokjigebjcgdjacDoorRdE
import Derived.Test.YtokjigebjcgdjacDoorEncB
import Derived.Test.YtokjigebjcgdjacDoorMathL
namespace Go.Proofs.YtokjigebjcgdjacDoor
open Go.RowKit

/-- A row of numbers as cells. -/
def intCells (l : List Int) : List Value := l.map (Value.int .i64)
theorem intCells_length (l : List Int) : (intCells l).length = l.length := by simp [intCells]
theorem intCells_append (l m : List Int) : intCells (l ++ m) = intCells l ++ intCells m := by simp [intCells]
theorem intCells_one (l : List Int) : ∀ u ∈ intCells l, u.oneCell' = true := ints_oneCell .i64 l

theorem grew_set {S : Nat → Prop} (w : World) {C : Nat} (hC : S C) (o : Nat) (u : Value) : Grew S w (w.setCell ⟨C, o, none⟩ u) := (grew_cellC w C o u).mono fun k e => by cases e; exact hC
theorem cell_set {w : World} {C o : Nat} {x : Value} (u : Value) (h : w.cell? ⟨C, o, none⟩ = some x) : (w.setCell ⟨C, o, none⟩ u).cell? ⟨C, o, none⟩ = some u := World.cell?_setCell_same _ _ _ h
theorem owns_set {w : World} {base : Nat} {e : TypeId} {size : Nat} {v : Value} {n : Nat} {xs : List Value} (h : w.ownsRow base e size v n xs) {C : Nat} (hC : ∀ g, v.ownBlock = some g → g ≠ C) (o : Nat) (u : Value) : (w.setCell ⟨C, o, none⟩ u).ownsRow base e size v n xs :=
  owns_kept h fun g hg => Below.heap_setCell _ _ _ _ (hC g hg)
/-- A row of which some are left. -/
theorem owns_take {w : World} {base : Nat} {e : TypeId} {n cap : Nat} {a : Option Addr} {xs : List Value} (h : w.ownsRow base e 1 (.slice a n cap) n xs) {m : Nat} (hm : m ≤ n) : w.ownsRow base e 1 (.slice a m cap) m (xs.take m) := by
  have hl := h.1
  rcases h.2 with ⟨e1, rfl⟩ | ⟨g, cap', cur, e1, hb, hg, hnc, hcm, hsz, htake⟩
  · cases e1
    obtain rfl : m = 0 := by omega
    exact ⟨by simp, .inl ⟨rfl, rfl⟩⟩
  · cases e1
    refine ⟨by rw [List.length_take]; omega, .inr ⟨g, cap, cur, rfl, hb, hg, by omega, hcm, hsz, ?_⟩⟩
    rw [← htake, List.take_take, Nat.min_eq_left (by omega), Nat.mul_one]
theorem owns_slice {w : World} {base : Nat} {e : TypeId} {size : Nat} {v : Value} {n : Nat} {xs : List Value} (h : w.ownsRow base e size v n xs) : ∃ a cap, v = .slice a n cap ∧ n ≤ cap := by
  rcases h.2 with ⟨rfl, rfl⟩ | ⟨g, cap, cur, rfl, -, -, hnc, -⟩
  · exact ⟨none, 0, rfl, Nat.le_refl _⟩
  · exact ⟨_, cap, rfl, hnc⟩

/-- What lies in a log's block: bytes, ends, how many bytes are made sure of; in blocks of which something is known. -/
structure LogRaw (P : Nat → Prop) (w : World) (C : Nat) (a e : List Int) (s : Int) (va ve : Value) : Prop where
  c0 : w.cell? ⟨C, 0, none⟩ = some va
  c1 : w.cell? ⟨C, 1, none⟩ = some ve
  c2 : w.cell? ⟨C, 2, none⟩ = some (.int .i64 s)
  fr : ∀ o, w.frozen? ⟨C, o, none⟩ = false
  ra : w.ownsRow 0 5 1 va a.length (byteCells a)
  re : w.ownsRow 0 3 1 ve e.length (intCells e)
  pC : P C
  pa : ∀ g, va.ownBlock = some g → P g ∧ g ≠ C
  pe : ∀ g, ve.ownBlock = some g → P g ∧ g ≠ C
  ne : ∀ g, va.ownBlock = some g → ve.ownBlock ≠ some g
theorem LogRaw.lt {P : Nat → Prop} {w : World} {C : Nat} {a e : List Int} {s : Int} {va ve : Value} (h : LogRaw P w C a e s va ve) : C < w.heap.size := World.block_lt_of_cell? w _ h.c0
theorem LogRaw.grew {P S : Nat → Prop} {w w' : World} {C : Nat} {a e : List Int} {s : Int} {va ve : Value} (h : LogRaw P w C a e s va ve) (hg : Grew S w w') (hS : ∀ b, P b → ¬ S b) : LogRaw P w' C a e s va ve :=
  ⟨hg.cell h.c0 (hS C h.pC), hg.cell h.c1 (hS C h.pC), hg.cell h.c2 (hS C h.pC), fun o => by rw [hg.frozen (p := ⟨C, o, none⟩) h.lt (hS C h.pC)]; exact h.fr o,
    owns_kept h.ra fun g hb => hg.block g (owns_lt h.ra hb).2 (hS g (h.pa g hb).1), owns_kept h.re fun g hb => hg.block g (owns_lt h.re hb).2 (hS g (h.pe g hb).1), h.pC, h.pa, h.pe, h.ne⟩
theorem LogRaw.later {P : Nat → Prop} {w w' : World} {C : Nat} {a e : List Int} {s : Int} {va ve : Value} (h : LogRaw P w C a e s va ve) (hb : Below w.heap.size w w') : LogRaw P w' C a e s va ve := h.grew (S := fun _ => False) (Grew.of_below hb) (fun _ _ h => h)
theorem LogRaw.mono {P Q : Nat → Prop} {w : World} {C : Nat} {a e : List Int} {s : Int} {va ve : Value} (h : LogRaw P w C a e s va ve) (hPQ : ∀ b, b < w.heap.size → P b → Q b) : LogRaw Q w C a e s va ve :=
  ⟨h.c0, h.c1, h.c2, h.fr, h.ra, h.re, hPQ C h.lt h.pC, fun g hg => ⟨hPQ g (owns_lt h.ra hg).2 (h.pa g hg).1, (h.pa g hg).2⟩, fun g hg => ⟨hPQ g (owns_lt h.re hg).2 (h.pe g hg).1, (h.pe g hg).2⟩, h.ne⟩
/-- Its bytes are laid anew, where they lay or in a new block. -/
theorem LogRaw.all {P : Nat → Prop} {w w' : World} {C : Nat} {a e : List Int} {s : Int} {va ve : Value} (h : LogRaw P w C a e s va ve) {a' : List Int} {v : Value} (hg : w.grownBy w' va.ownBlock) (ho : w'.ownsRow 0 5 1 v a'.length (byteCells a')) (hat : v.ownBlock = va.ownBlock ∨ v.ownBlock = some w.heap.size) :
    LogRaw (fun b => P b ∨ w.heap.size ≤ b) (w'.setCell ⟨C, 0, none⟩ v) C a' e s v ve := by
  have hlt := h.lt
  have hG : Grew (fun b => va.ownBlock = some b) w w' := ⟨hg.os, hg.tape, hg.output, hg.size, fun k hk hn => hg.block k hk (fun e => hn e.symm)⟩
  have hC : ¬ va.ownBlock = some C := fun e => (h.pa C e).2 rfl
  have hvC : ∀ g, v.ownBlock = some g → (P g ∨ w.heap.size ≤ g) ∧ g ≠ C := fun g hg => by
    rcases hat with e | e
    · rw [e] at hg; exact ⟨.inl (h.pa g hg).1, (h.pa g hg).2⟩
    · rw [e] at hg; cases hg; exact ⟨.inr (Nat.le_refl _), by omega⟩
  refine ⟨cell_set v (hG.cell h.c0 hC), by rw [cell_apart' _ (by omega)]; exact hG.cell h.c1 hC, by rw [cell_apart' _ (by omega)]; exact hG.cell h.c2 hC, fun o => by rw [World.frozen?_setCell, hG.frozen (p := ⟨C, o, none⟩) hlt hC]; exact h.fr o,
    owns_set ho (fun g hg => (hvC g hg).2) _ _, owns_set (owns_kept h.re fun g hg' => hG.block g (owns_lt h.re hg').2 (fun e => h.ne g e hg')) (fun g hg => (h.pe g hg).2) _ _, .inl h.pC, hvC, fun g hg => ⟨.inl (h.pe g hg).1, (h.pe g hg).2⟩, fun g hg' => ?_⟩
  rcases hat with e | e
  · rw [e] at hg'; exact h.ne g hg'
  · rw [e] at hg'; cases hg'
    intro e'; have := (owns_lt h.re e').2; omega
/-- Its ends are. -/
theorem LogRaw.ends {P : Nat → Prop} {w w' : World} {C : Nat} {a e : List Int} {s : Int} {va ve : Value} (h : LogRaw P w C a e s va ve) {e' : List Int} {v : Value} (hg : w.grownBy w' ve.ownBlock) (ho : w'.ownsRow 0 3 1 v e'.length (intCells e')) (hat : v.ownBlock = ve.ownBlock ∨ v.ownBlock = some w.heap.size) :
    LogRaw (fun b => P b ∨ w.heap.size ≤ b) (w'.setCell ⟨C, 1, none⟩ v) C a e' s va v := by
  have hlt := h.lt
  have hG : Grew (fun b => ve.ownBlock = some b) w w' := ⟨hg.os, hg.tape, hg.output, hg.size, fun k hk hn => hg.block k hk (fun e => hn e.symm)⟩
  have hC : ¬ ve.ownBlock = some C := fun e => (h.pe C e).2 rfl
  have hvC : ∀ g, v.ownBlock = some g → (P g ∨ w.heap.size ≤ g) ∧ g ≠ C := fun g hg => by
    rcases hat with e | e
    · rw [e] at hg; exact ⟨.inl (h.pe g hg).1, (h.pe g hg).2⟩
    · rw [e] at hg; cases hg; exact ⟨.inr (Nat.le_refl _), by omega⟩
  refine ⟨by rw [cell_apart' _ (by omega)]; exact hG.cell h.c0 hC, cell_set v (hG.cell h.c1 hC), by rw [cell_apart' _ (by omega)]; exact hG.cell h.c2 hC, fun o => by rw [World.frozen?_setCell, hG.frozen (p := ⟨C, o, none⟩) hlt hC]; exact h.fr o,
    owns_set (owns_kept h.ra fun g hg' => hG.block g (owns_lt h.ra hg').2 (fun e => h.ne g hg' e)) (fun g hg => (h.pa g hg).2) _ _, owns_set ho (fun g hg => (hvC g hg).2) _ _, .inl h.pC, fun g hg => ⟨.inl (h.pa g hg).1, (h.pa g hg).2⟩, hvC, fun g hg' => ?_⟩
  rcases hat with e | e
  · rw [e]; exact h.ne g hg'
  · rw [e]; intro e'
    have := (owns_lt h.ra hg').2
    have := Option.some.inj e'
    omega
/-- Some of its bytes are cut off. -/
theorem LogRaw.cutAll {P : Nat → Prop} {w : World} {C : Nat} {a e : List Int} {s : Int} {ad : Option Addr} {cap : Nat} {ve : Value} (h : LogRaw P w C a e s (.slice ad a.length cap) ve) {n : Nat} (hn : n ≤ a.length) : LogRaw P (w.setCell ⟨C, 0, none⟩ (.slice ad n cap)) C (a.take n) e s (.slice ad n cap) ve := by
  have hb : (Value.slice ad n cap).ownBlock = (Value.slice ad a.length cap).ownBlock := by cases ad <;> rfl
  refine ⟨cell_set _ h.c0, by rw [cell_apart' _ (by omega)]; exact h.c1, by rw [cell_apart' _ (by omega)]; exact h.c2, fun o => by rw [World.frozen?_setCell]; exact h.fr o,
    owns_set ?_ (fun g hg => (h.pa g (by rw [← hb]; exact hg)).2) _ _, owns_set h.re (fun g hg => (h.pe g hg).2) _ _, h.pC, fun g hg => h.pa g (by rw [← hb]; exact hg), h.pe, fun g hg => h.ne g (by rw [← hb]; exact hg)⟩
  have hl : (a.take n).length = n := by simp; omega
  rw [hl, show byteCells (a.take n) = (byteCells a).take n by simp [byteCells, List.map_take]]
  exact owns_take h.ra hn
theorem LogRaw.cutEnds {P : Nat → Prop} {w : World} {C : Nat} {a e : List Int} {s : Int} {ad : Option Addr} {cap : Nat} {va : Value} (h : LogRaw P w C a e s va (.slice ad e.length cap)) {n : Nat} (hn : n ≤ e.length) : LogRaw P (w.setCell ⟨C, 1, none⟩ (.slice ad n cap)) C a (e.take n) s va (.slice ad n cap) := by
  have hb : (Value.slice ad n cap).ownBlock = (Value.slice ad e.length cap).ownBlock := by cases ad <;> rfl
  refine ⟨by rw [cell_apart' _ (by omega)]; exact h.c0, cell_set _ h.c1, by rw [cell_apart' _ (by omega)]; exact h.c2, fun o => by rw [World.frozen?_setCell]; exact h.fr o,
    owns_set h.ra (fun g hg => (h.pa g hg).2) _ _, owns_set ?_ (fun g hg => (h.pe g (by rw [← hb]; exact hg)).2) _ _, h.pC, h.pa, fun g hg => h.pe g (by rw [← hb]; exact hg), fun g hg => by rw [hb]; exact h.ne g hg⟩
  have hl : (e.take n).length = n := by simp; omega
  rw [hl, show intCells (e.take n) = (intCells e).take n by simp [intCells, List.map_take]]
  exact owns_take h.re hn
theorem LogRaw.sure {P : Nat → Prop} {w : World} {C : Nat} {a e : List Int} {s : Int} {va ve : Value} (h : LogRaw P w C a e s va ve) (s' : Int) : LogRaw P (w.setCell ⟨C, 2, none⟩ (.int .i64 s')) C a e s' va ve :=
  ⟨by rw [cell_apart' _ (by omega)]; exact h.c0, by rw [cell_apart' _ (by omega)]; exact h.c1, cell_set _ h.c2, fun o => by rw [World.frozen?_setCell]; exact h.fr o,
    owns_set h.ra (fun g hg => (h.pa g hg).2) _ _, owns_set h.re (fun g hg => (h.pe g hg).2) _ _, h.pC, h.pa, h.pe, h.ne⟩
theorem LogRaw.bytes {P : Nat → Prop} {w : World} {C : Nat} {a e : List Int} {s : Int} {va ve : Value} (h : LogRaw P w C a e s va ve) : BytesIn P w va a := by
  rcases h.ra.2 with ⟨e1, e2⟩ | ⟨g, cap, cur, rfl, hb, hg, hnc, -⟩
  · obtain rfl : a = [] := List.eq_nil_of_length_eq_zero e2
    subst e1
    exact ⟨none, 0, rfl, Nat.le_refl _, fun i hi => by simp at hi⟩
  · refine ⟨_, cap, rfl, hnc, fun i hi => ⟨g, 0, (h.pa g rfl).1, rfl, ?_⟩⟩
    have := World.ownsRow.cells h.ra (g := g) rfl i (.int .u8 a[i]) (by simp [byteCells, hi])
    rw [addr_add] at this
    exact this
theorem LogRaw.endAt {P : Nat → Prop} {w : World} {C : Nat} {a e : List Int} {s : Int} {va ve : Value} (h : LogRaw P w C a e s va ve) {i : Nat} (hi : i < e.length) : ∃ g cap, ve = .slice (some ⟨g, 0, none⟩) e.length cap ∧ w.cell? ⟨g, i, none⟩ = some (.int .i64 e[i]) := by
  obtain ⟨g, cap, rfl, hc⟩ := owns_cells h.re (by omega)
  exact ⟨g, cap, rfl, hc i _ (by simp [intCells, hi])⟩

/-- A log of rounds, of which the first k are made sure of. -/
def LogAt (P : Nat → Prop) (w : World) (C : Nat) (l : List (List (List Op5))) (k : Nat) : Prop := LogOk l k ∧ ∃ va ve, LogRaw P w C (allB l) (endsB l) (endB l k) va ve
theorem LogAt.grew {P S : Nat → Prop} {w w' : World} {C : Nat} {l : List (List (List Op5))} {k : Nat} (h : LogAt P w C l k) (hg : Grew S w w') (hS : ∀ b, P b → ¬ S b) : LogAt P w' C l k := by
  obtain ⟨ho, va, ve, h⟩ := h
  exact ⟨ho, va, ve, h.grew hg hS⟩
theorem LogAt.later {P : Nat → Prop} {w w' : World} {C : Nat} {l : List (List (List Op5))} {k : Nat} (h : LogAt P w C l k) (hb : Below w.heap.size w w') : LogAt P w' C l k := h.grew (S := fun _ => False) (Grew.of_below hb) (fun _ _ h => h)
theorem LogAt.mono {P Q : Nat → Prop} {w : World} {C : Nat} {l : List (List (List Op5))} {k : Nat} (h : LogAt P w C l k) (hPQ : ∀ b, b < w.heap.size → P b → Q b) : LogAt Q w C l k := by
  obtain ⟨ho, va, ve, h⟩ := h
  exact ⟨ho, va, ve, h.mono hPQ⟩
theorem LogAt.ok {P : Nat → Prop} {w : World} {C : Nat} {l : List (List (List Op5))} {k : Nat} (h : LogAt P w C l k) : LogOk l k := h.1

end Go.Proofs.YtokjigebjcgdjacDoor
