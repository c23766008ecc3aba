/-
  A log as it lies in memory. The walks of a log's small functions: New, Len, Sync, upTo, room, count, Sure. The walk of a log's Crash. The walks of bytes.Clone and of a log's Bytes, Round. The walks of a log's add and Put.
-/
import Derived.Test.YtehkjbpgibdgpadGreatDoorJqRa
import Derived.Test.YtehkjbpgibdgpadGreatDoorJqRb
import Derived.Test.YtehkjbpgibdgpadGreatDoorJqMa
import Derived.Shelf.Abstract
import Derived.StillTailTactics
import Derived.Test.YtehkjbpgibdgpadGreatDoorJqSa
import Derived.Lib.SliceRun
import Derived.Deep.RegionLaw
namespace Go.Proofs.YtehkjbpgibdgpadGreatDoor
open Go.RowKit

/-- A row of numbers as cells. -/
def intCells (l : List Int) : List Value := l.map (Value.int .i64)
theorem intCells_length (l : List Int) : (intCells l).length = l.length := by simp [intCells]
theorem intCells_append (l m : List Int) : intCells (l ++ m) = intCells l ++ intCells m := by simp [intCells]
theorem intCells_one (l : List Int) : ∀ u ∈ intCells l, u.oneCell' = true := ints_oneCell .i64 l

theorem grew_set {S : Nat → Prop} (w : World) {C : Nat} (hC : S C) (o : Nat) (u : Value) : Grew S w (w.setCell ⟨C, o, none⟩ u) := (grew_cellC w C o u).mono fun k e => by cases e; exact hC
theorem cell_set {w : World} {C o : Nat} {x : Value} (u : Value) (h : w.cell? ⟨C, o, none⟩ = some x) : (w.setCell ⟨C, o, none⟩ u).cell? ⟨C, o, none⟩ = some u := World.cell?_setCell_same _ _ _ h
theorem owns_set {w : World} {base : Nat} {e : TypeId} {size : Nat} {v : Value} {n : Nat} {xs : List Value} (h : w.ownsRow base e size v n xs) {C : Nat} (hC : ∀ g, v.ownBlock = some g → g ≠ C) (o : Nat) (u : Value) : (w.setCell ⟨C, o, none⟩ u).ownsRow base e size v n xs :=
  owns_kept h fun g hg => Below.heap_setCell _ _ _ _ (hC g hg)
/-- A row of which some are left. -/
theorem owns_take {w : World} {base : Nat} {e : TypeId} {n cap : Nat} {a : Option Addr} {xs : List Value} (h : w.ownsRow base e 1 (.slice a n cap) n xs) {m : Nat} (hm : m ≤ n) : w.ownsRow base e 1 (.slice a m cap) m (xs.take m) := by
  have hl := h.1
  rcases h.2 with ⟨e1, rfl⟩ | ⟨g, cap', cur, e1, hb, hg, hnc, hcm, hsz, htake⟩
  · cases e1
    obtain rfl : m = 0 := by omega
    exact ⟨by simp, .inl ⟨rfl, rfl⟩⟩
  · cases e1
    refine ⟨by rw [List.length_take]; omega, .inr ⟨g, cap, cur, rfl, hb, hg, by omega, hcm, hsz, ?_⟩⟩
    rw [← htake, List.take_take, Nat.min_eq_left (by omega), Nat.mul_one]
theorem owns_slice {w : World} {base : Nat} {e : TypeId} {size : Nat} {v : Value} {n : Nat} {xs : List Value} (h : w.ownsRow base e size v n xs) : ∃ a cap, v = .slice a n cap ∧ n ≤ cap := by
  rcases h.2 with ⟨rfl, rfl⟩ | ⟨g, cap, cur, rfl, -, -, hnc, -⟩
  · exact ⟨none, 0, rfl, Nat.le_refl _⟩
  · exact ⟨_, cap, rfl, hnc⟩

/-- What lies in a log's block: bytes, ends, how many bytes are made sure of; in blocks of which something is known. -/
structure LogRaw (P : Nat → Prop) (w : World) (C : Nat) (a e : List Int) (s : Int) (va ve : Value) : Prop where
  c0 : w.cell? ⟨C, 0, none⟩ = some va
  c1 : w.cell? ⟨C, 1, none⟩ = some ve
  c2 : w.cell? ⟨C, 2, none⟩ = some (.int .i64 s)
  fr : ∀ o, w.frozen? ⟨C, o, none⟩ = false
  ra : w.ownsRow 0 5 1 va a.length (byteCells a)
  re : w.ownsRow 0 3 1 ve e.length (intCells e)
  pC : P C
  pa : ∀ g, va.ownBlock = some g → P g ∧ g ≠ C
  pe : ∀ g, ve.ownBlock = some g → P g ∧ g ≠ C
  ne : ∀ g, va.ownBlock = some g → ve.ownBlock ≠ some g
theorem LogRaw.lt {P : Nat → Prop} {w : World} {C : Nat} {a e : List Int} {s : Int} {va ve : Value} (h : LogRaw P w C a e s va ve) : C < w.heap.size := World.block_lt_of_cell? w _ h.c0
theorem LogRaw.grew {P S : Nat → Prop} {w w' : World} {C : Nat} {a e : List Int} {s : Int} {va ve : Value} (h : LogRaw P w C a e s va ve) (hg : Grew S w w') (hS : ∀ b, P b → ¬ S b) : LogRaw P w' C a e s va ve :=
  ⟨hg.cell h.c0 (hS C h.pC), hg.cell h.c1 (hS C h.pC), hg.cell h.c2 (hS C h.pC), fun o => by rw [hg.frozen (p := ⟨C, o, none⟩) h.lt (hS C h.pC)]; exact h.fr o,
    owns_kept h.ra fun g hb => hg.block g (owns_lt h.ra hb).2 (hS g (h.pa g hb).1), owns_kept h.re fun g hb => hg.block g (owns_lt h.re hb).2 (hS g (h.pe g hb).1), h.pC, h.pa, h.pe, h.ne⟩
theorem LogRaw.later {P : Nat → Prop} {w w' : World} {C : Nat} {a e : List Int} {s : Int} {va ve : Value} (h : LogRaw P w C a e s va ve) (hb : Below w.heap.size w w') : LogRaw P w' C a e s va ve := h.grew (S := fun _ => False) (Grew.of_below hb) (fun _ _ h => h)
theorem LogRaw.mono {P Q : Nat → Prop} {w : World} {C : Nat} {a e : List Int} {s : Int} {va ve : Value} (h : LogRaw P w C a e s va ve) (hPQ : ∀ b, b < w.heap.size → P b → Q b) : LogRaw Q w C a e s va ve :=
  ⟨h.c0, h.c1, h.c2, h.fr, h.ra, h.re, hPQ C h.lt h.pC, fun g hg => ⟨hPQ g (owns_lt h.ra hg).2 (h.pa g hg).1, (h.pa g hg).2⟩, fun g hg => ⟨hPQ g (owns_lt h.re hg).2 (h.pe g hg).1, (h.pe g hg).2⟩, h.ne⟩
/-- Its bytes are laid anew, where they lay or in a new block. -/
theorem LogRaw.all {P : Nat → Prop} {w w' : World} {C : Nat} {a e : List Int} {s : Int} {va ve : Value} (h : LogRaw P w C a e s va ve) {a' : List Int} {v : Value} (hg : w.grownBy w' va.ownBlock) (ho : w'.ownsRow 0 5 1 v a'.length (byteCells a')) (hat : v.ownBlock = va.ownBlock ∨ v.ownBlock = some w.heap.size) :
    LogRaw (fun b => P b ∨ w.heap.size ≤ b) (w'.setCell ⟨C, 0, none⟩ v) C a' e s v ve := by
  have hlt := h.lt
  have hG : Grew (fun b => va.ownBlock = some b) w w' := ⟨hg.os, hg.tape, hg.output, hg.size, fun k hk hn => hg.block k hk (fun e => hn e.symm)⟩
  have hC : ¬ va.ownBlock = some C := fun e => (h.pa C e).2 rfl
  have hvC : ∀ g, v.ownBlock = some g → (P g ∨ w.heap.size ≤ g) ∧ g ≠ C := fun g hg => by
    rcases hat with e | e
    · rw [e] at hg; exact ⟨.inl (h.pa g hg).1, (h.pa g hg).2⟩
    · rw [e] at hg; cases hg; exact ⟨.inr (Nat.le_refl _), by omega⟩
  refine ⟨cell_set v (hG.cell h.c0 hC), by rw [cell_apart' _ (by omega)]; exact hG.cell h.c1 hC, by rw [cell_apart' _ (by omega)]; exact hG.cell h.c2 hC, fun o => by rw [World.frozen?_setCell, hG.frozen (p := ⟨C, o, none⟩) hlt hC]; exact h.fr o,
    owns_set ho (fun g hg => (hvC g hg).2) _ _, owns_set (owns_kept h.re fun g hg' => hG.block g (owns_lt h.re hg').2 (fun e => h.ne g e hg')) (fun g hg => (h.pe g hg).2) _ _, .inl h.pC, hvC, fun g hg => ⟨.inl (h.pe g hg).1, (h.pe g hg).2⟩, fun g hg' => ?_⟩
  rcases hat with e | e
  · rw [e] at hg'; exact h.ne g hg'
  · rw [e] at hg'; cases hg'
    intro e'; have := (owns_lt h.re e').2; omega
/-- Its ends are. -/
theorem LogRaw.ends {P : Nat → Prop} {w w' : World} {C : Nat} {a e : List Int} {s : Int} {va ve : Value} (h : LogRaw P w C a e s va ve) {e' : List Int} {v : Value} (hg : w.grownBy w' ve.ownBlock) (ho : w'.ownsRow 0 3 1 v e'.length (intCells e')) (hat : v.ownBlock = ve.ownBlock ∨ v.ownBlock = some w.heap.size) :
    LogRaw (fun b => P b ∨ w.heap.size ≤ b) (w'.setCell ⟨C, 1, none⟩ v) C a e' s va v := by
  have hlt := h.lt
  have hG : Grew (fun b => ve.ownBlock = some b) w w' := ⟨hg.os, hg.tape, hg.output, hg.size, fun k hk hn => hg.block k hk (fun e => hn e.symm)⟩
  have hC : ¬ ve.ownBlock = some C := fun e => (h.pe C e).2 rfl
  have hvC : ∀ g, v.ownBlock = some g → (P g ∨ w.heap.size ≤ g) ∧ g ≠ C := fun g hg => by
    rcases hat with e | e
    · rw [e] at hg; exact ⟨.inl (h.pe g hg).1, (h.pe g hg).2⟩
    · rw [e] at hg; cases hg; exact ⟨.inr (Nat.le_refl _), by omega⟩
  refine ⟨by rw [cell_apart' _ (by omega)]; exact hG.cell h.c0 hC, cell_set v (hG.cell h.c1 hC), by rw [cell_apart' _ (by omega)]; exact hG.cell h.c2 hC, fun o => by rw [World.frozen?_setCell, hG.frozen (p := ⟨C, o, none⟩) hlt hC]; exact h.fr o,
    owns_set (owns_kept h.ra fun g hg' => hG.block g (owns_lt h.ra hg').2 (fun e => h.ne g hg' e)) (fun g hg => (h.pa g hg).2) _ _, owns_set ho (fun g hg => (hvC g hg).2) _ _, .inl h.pC, fun g hg => ⟨.inl (h.pa g hg).1, (h.pa g hg).2⟩, hvC, fun g hg' => ?_⟩
  rcases hat with e | e
  · rw [e]; exact h.ne g hg'
  · rw [e]; intro e'
    have := (owns_lt h.ra hg').2
    have := Option.some.inj e'
    omega
/-- Some of its bytes are cut off. -/
theorem LogRaw.cutAll {P : Nat → Prop} {w : World} {C : Nat} {a e : List Int} {s : Int} {ad : Option Addr} {cap : Nat} {ve : Value} (h : LogRaw P w C a e s (.slice ad a.length cap) ve) {n : Nat} (hn : n ≤ a.length) : LogRaw P (w.setCell ⟨C, 0, none⟩ (.slice ad n cap)) C (a.take n) e s (.slice ad n cap) ve := by
  have hb : (Value.slice ad n cap).ownBlock = (Value.slice ad a.length cap).ownBlock := by cases ad <;> rfl
  refine ⟨cell_set _ h.c0, by rw [cell_apart' _ (by omega)]; exact h.c1, by rw [cell_apart' _ (by omega)]; exact h.c2, fun o => by rw [World.frozen?_setCell]; exact h.fr o,
    owns_set ?_ (fun g hg => (h.pa g (by rw [← hb]; exact hg)).2) _ _, owns_set h.re (fun g hg => (h.pe g hg).2) _ _, h.pC, fun g hg => h.pa g (by rw [← hb]; exact hg), h.pe, fun g hg => h.ne g (by rw [← hb]; exact hg)⟩
  have hl : (a.take n).length = n := by simp; omega
  rw [hl, show byteCells (a.take n) = (byteCells a).take n by simp [byteCells, List.map_take]]
  exact owns_take h.ra hn
theorem LogRaw.cutEnds {P : Nat → Prop} {w : World} {C : Nat} {a e : List Int} {s : Int} {ad : Option Addr} {cap : Nat} {va : Value} (h : LogRaw P w C a e s va (.slice ad e.length cap)) {n : Nat} (hn : n ≤ e.length) : LogRaw P (w.setCell ⟨C, 1, none⟩ (.slice ad n cap)) C a (e.take n) s va (.slice ad n cap) := by
  have hb : (Value.slice ad n cap).ownBlock = (Value.slice ad e.length cap).ownBlock := by cases ad <;> rfl
  refine ⟨by rw [cell_apart' _ (by omega)]; exact h.c0, cell_set _ h.c1, by rw [cell_apart' _ (by omega)]; exact h.c2, fun o => by rw [World.frozen?_setCell]; exact h.fr o,
    owns_set h.ra (fun g hg => (h.pa g hg).2) _ _, owns_set ?_ (fun g hg => (h.pe g (by rw [← hb]; exact hg)).2) _ _, h.pC, h.pa, fun g hg => h.pe g (by rw [← hb]; exact hg), fun g hg => by rw [hb]; exact h.ne g hg⟩
  have hl : (e.take n).length = n := by simp; omega
  rw [hl, show intCells (e.take n) = (intCells e).take n by simp [intCells, List.map_take]]
  exact owns_take h.re hn
theorem LogRaw.sure {P : Nat → Prop} {w : World} {C : Nat} {a e : List Int} {s : Int} {va ve : Value} (h : LogRaw P w C a e s va ve) (s' : Int) : LogRaw P (w.setCell ⟨C, 2, none⟩ (.int .i64 s')) C a e s' va ve :=
  ⟨by rw [cell_apart' _ (by omega)]; exact h.c0, by rw [cell_apart' _ (by omega)]; exact h.c1, cell_set _ h.c2, fun o => by rw [World.frozen?_setCell]; exact h.fr o,
    owns_set h.ra (fun g hg => (h.pa g hg).2) _ _, owns_set h.re (fun g hg => (h.pe g hg).2) _ _, h.pC, h.pa, h.pe, h.ne⟩
theorem LogRaw.bytes {P : Nat → Prop} {w : World} {C : Nat} {a e : List Int} {s : Int} {va ve : Value} (h : LogRaw P w C a e s va ve) : BytesIn P w va a := by
  rcases h.ra.2 with ⟨e1, e2⟩ | ⟨g, cap, cur, rfl, hb, hg, hnc, -⟩
  · obtain rfl : a = [] := List.eq_nil_of_length_eq_zero e2
    subst e1
    exact ⟨none, 0, rfl, Nat.le_refl _, fun i hi => by simp at hi⟩
  · refine ⟨_, cap, rfl, hnc, fun i hi => ⟨g, 0, (h.pa g rfl).1, rfl, ?_⟩⟩
    have := World.ownsRow.cells h.ra (g := g) rfl i (.int .u8 a[i]) (by simp [byteCells, hi])
    rw [addr_add] at this
    exact this
theorem LogRaw.endAt {P : Nat → Prop} {w : World} {C : Nat} {a e : List Int} {s : Int} {va ve : Value} (h : LogRaw P w C a e s va ve) {i : Nat} (hi : i < e.length) : ∃ g cap, ve = .slice (some ⟨g, 0, none⟩) e.length cap ∧ w.cell? ⟨g, i, none⟩ = some (.int .i64 e[i]) := by
  obtain ⟨g, cap, rfl, hc⟩ := owns_cells h.re (by omega)
  exact ⟨g, cap, rfl, hc i _ (by simp [intCells, hi])⟩

/-- A log of rounds, of which the first k are made sure of. -/
def LogAt (P : Nat → Prop) (w : World) (C : Nat) (l : List (List (List Op5))) (k : Nat) : Prop := LogOk l k ∧ ∃ va ve, LogRaw P w C (allB l) (endsB l) (endB l k) va ve
theorem LogAt.grew {P S : Nat → Prop} {w w' : World} {C : Nat} {l : List (List (List Op5))} {k : Nat} (h : LogAt P w C l k) (hg : Grew S w w') (hS : ∀ b, P b → ¬ S b) : LogAt P w' C l k := by
  obtain ⟨ho, va, ve, h⟩ := h
  exact ⟨ho, va, ve, h.grew hg hS⟩
theorem LogAt.later {P : Nat → Prop} {w w' : World} {C : Nat} {l : List (List (List Op5))} {k : Nat} (h : LogAt P w C l k) (hb : Below w.heap.size w w') : LogAt P w' C l k := h.grew (S := fun _ => False) (Grew.of_below hb) (fun _ _ h => h)
theorem LogAt.mono {P Q : Nat → Prop} {w : World} {C : Nat} {l : List (List (List Op5))} {k : Nat} (h : LogAt P w C l k) (hPQ : ∀ b, b < w.heap.size → P b → Q b) : LogAt Q w C l k := by
  obtain ⟨ho, va, ve, h⟩ := h
  exact ⟨ho, va, ve, h.mono hPQ⟩
theorem LogAt.ok {P : Nat → Prop} {w : World} {C : Nat} {l : List (List (List Op5))} {k : Nat} (h : LogAt P w C l k) : LogOk l k := h.1

end Go.Proofs.YtehkjbpgibdgpadGreatDoor
namespace Go.Proofs.YtehkjbpgibdgpadGreatDoor
open Go.RowKit

theorem ret_bl {a b : Bool} (h : a = b) : Ending.returned (.bool a) = .returned (.bool b) := by rw [h]
theorem ret_it {a b : Int} (h : a = b) : Ending.returned (.int .i64 a) = .returned (.int .i64 b) := by rw [h]

set_option maxHeartbeats 400000 in
theorem logNew_any (w : World) : Calls Tryz.prog 18 #[] w fun e w' => e = .returned (.pointer (some ⟨w.heap.size, 0, none⟩)) ∧ LogAt (fun b => w.heap.size ≤ b) w' w.heap.size [] 0 ∧ Below w.heap.size w w' := by
  go_enter Tryz.func18, Tryz.ntmps18
  go_wp2_with fail
  go_ret
  refine ⟨rfl, ⟨LogOk.nil, .slice none 0 0, .slice none 0 0, by go_simp, by go_simp, by go_simp; rfl, fun o => by go_simp, by simpa [allB, byteCells] using World.ownsRow_nil _ _ _ _, by simpa [endsB, intCells] using World.ownsRow_nil _ _ _ _, Nat.le_refl _, fun g hg => (by cases hg), fun g hg => (by cases hg), fun g hg => (by cases hg)⟩, (Below.refl _ _).alloc (Nat.le_refl _) _⟩

section
variable {P : Nat → Prop} {w : World} {C : Nat} {l : List (List (List Op5))} {k : Nat}

theorem LogAt.endsV (h : LogAt P w C l k) : ∃ a cap, w.cell? ⟨C, 1, none⟩ = some (.slice a l.length cap) := by
  obtain ⟨-, va, ve, h⟩ := h
  obtain ⟨a, cap, rfl, -⟩ := owns_slice h.re
  have := h.c1
  rw [endsB_length] at this
  exact ⟨a, cap, this⟩

set_option maxHeartbeats 400000 in
theorem logLen_any (h : LogAt P w C l k) : Calls Tryz.prog 83 #[.pointer (some ⟨C, 0, none⟩)] w fun e w' => e = .returned (.int .i64 (l.length : Int)) ∧ w' = w := by
  obtain ⟨a, cap, c1⟩ := h.endsV
  clear h
  go_enter Tryz.func83, Tryz.ntmps83
  go_wp2_with fail
  go_ret
  exact ⟨rfl, rfl⟩

set_option maxHeartbeats 400000 in
theorem logSync_raw {a e : List Int} {s : Int} {va ve : Value} (h : LogRaw P w C a e s va ve) : Calls Tryz.prog 112 #[.pointer (some ⟨C, 0, none⟩)] w fun e' w' => e' = .returned (.tuple #[]) ∧ LogRaw P w' C a e (a.length : Int) va ve ∧ Grew P w w' := by
  obtain ⟨ad, cap, rfl, -⟩ := owns_slice h.ra
  have hL : Hid (LogRaw P (w.setCell ⟨C, 2, none⟩ (.int .i64 (a.length : Int))) C a e (a.length : Int) (.slice ad a.length cap) ve) := h.sure (a.length : Int)
  have c0 := h.c0
  have c2 := h.c2
  have fr := h.fr
  have hp := h.pC
  clear h
  go_enter Tryz.func112, Tryz.ntmps112
  go_wp2_with fail
  go_end0
  exact ⟨rfl, hL.out, grew_set w hp _ _⟩
theorem logSync_any (h : LogAt P w C l k) : Calls Tryz.prog 112 #[.pointer (some ⟨C, 0, none⟩)] w fun e w' => e = .returned (.tuple #[]) ∧ LogAt P w' C l l.length ∧ Grew P w w' := by
  obtain ⟨ho, va, ve, h⟩ := h
  refine (logSync_raw h).mono ?_
  rintro e w' ⟨rfl, h1, h2⟩
  exact ⟨rfl, ⟨ho.sync, va, ve, by rw [endB_all]; exact h1⟩, h2⟩

set_option maxHeartbeats 400000 in
theorem logUpTo_raw {a e : List Int} {s : Int} {va ve : Value} (h : LogRaw P w C a e s va ve) {n : Nat} (hn : n ≤ e.length) (hf : e.length ≤ 25) {x : Int} (h0 : n = 0 → x = 0) (h1 : ∀ m (hm : m < e.length), n = m + 1 → e[m] = x) : Calls Tryz.prog 117 #[.pointer (some ⟨C, 0, none⟩), .int .i64 (n : Int)] w fun e w' => e = .returned (.int .i64 x) ∧ w' = w := by
  cases n with
  | zero =>
    obtain rfl := h0 rfl
    clear h h1
    go_enter Tryz.func117, Tryz.ntmps117
    go_wp2_with fail
    go_ret
    exact ⟨rfl, rfl⟩
  | succ n =>
    obtain ⟨g, cap, rfl, hc⟩ := h.endAt (i := n) (by omega)
    have c1 := h.c1
    rw [h1 n (by omega) rfl] at hc
    clear h h0 h1
    have t0 : (((n + 1 : Nat) : Int) == 0) = false := by rw [beq_eq_false_iff_ne]; omega
    have e1 : (((n + 1 : Nat) : Int) - 1) = (n : Int) := by omega
    go_enter Tryz.func117, Tryz.ntmps117
    go_wp2_with fail
    go_ret
    exact ⟨rfl, rfl⟩
theorem logUpTo_any (h : LogAt P w C l k) {n : Nat} (hn : n ≤ l.length) : Calls Tryz.prog 117 #[.pointer (some ⟨C, 0, none⟩), .int .i64 (n : Int)] w fun e w' => e = .returned (.int .i64 (endB l n : Int)) ∧ w' = w := by
  obtain ⟨ho, va, ve, h⟩ := h
  have hf := ho.few
  have hlen := endsB_length l
  exact logUpTo_raw h (by omega) (by omega) (fun e => by rw [e, endB_zero]; rfl) (fun m hm e => by rw [endsB_get, e])

set_option maxHeartbeats 400000 in
theorem logRoom_any (h : LogAt P w C l k) {n : Nat} (hn : n ≤ 100000) : Calls Tryz.prog 140 #[.pointer (some ⟨C, 0, none⟩), .int .i64 (n : Int)] w fun e w' => e = .returned (.bool (roomF l n)) ∧ w' = w := by
  have hlen := logLen_any h
  have hf := h.ok.few
  have hs := h.ok.short
  obtain ⟨ho, va, ve, h⟩ := h
  obtain ⟨a, cap, rfl, -⟩ := owns_slice h.ra
  have c0 := h.c0
  have hR : Hid (roomF l n = (decide (l.length < 25) && decide ((allB l).length + n ≤ 4000))) := rfl
  clear h ho
  generalize (allB l).length = m at *
  generalize l.length = ll at *
  by_cases h1 : ll < 25
  · have t1 : ((ll : Int) < 25) := by omega
    by_cases h2 : m + n ≤ 4000
    · have t2 : ((m : Int) + (n : Int) ≤ 4000) := by omega
      have hE : Hid (true = roomF l n) := by show _ = _; rw [hR.out]; simp [h1, h2]
      clear hR
      go_enter Tryz.func140, Tryz.ntmps140
      go_wp2_with fail
      refine hlen.mono ?_
      rintro e w1 ⟨rfl, rfl⟩
      go_wp2_with fail
      go_ret
      exact ⟨ret_bl hE.out, rfl⟩
    · have t2 : ¬ ((m : Int) + (n : Int) ≤ 4000) := by omega
      have hE : Hid (false = roomF l n) := by show _ = _; rw [hR.out]; simp [h2]
      clear hR
      go_enter Tryz.func140, Tryz.ntmps140
      go_wp2_with fail
      refine hlen.mono ?_
      rintro e w1 ⟨rfl, rfl⟩
      go_wp2_with fail
      go_ret
      exact ⟨ret_bl ((decide_eq_false (by omega)).trans hE.out), rfl⟩
  · have t1 : ¬ ((ll : Int) < 25) := by omega
    have hE : Hid (false = roomF l n) := by show _ = _; rw [hR.out]; simp [h1]
    clear hR
    go_enter Tryz.func140, Tryz.ntmps140
    go_wp2_with fail
    refine hlen.mono ?_
    rintro e w1 ⟨rfl, rfl⟩
    go_wp2_with fail
    go_ret
    exact ⟨ret_bl hE.out, rfl⟩

/-- A function that tells of an end, whatever lies where. -/
def AsksL (f : Nat) (cap : Array Value) (p : Int → Bool) (w0 : World) : Prop :=
  ∀ (x : Int) (w : World), 0 ≤ x → x ≤ 4000 → Below w0.heap.size w0 w → Calls Tryz.prog f (#[.int .i64 x] ++ cap) w fun e w' => e = .returned (.bool (p x)) ∧ Below w.heap.size w w'

set_option maxRecDepth 100000 in
set_option maxHeartbeats 400000 in
theorem logCount_any {f : Nat} {cp : Array Value} {p : Int → Bool} (h : LogAt P w C l k) (hA : AsksL f cp p w) (hen : ∀ (args : Array Value) (w : World), (callFunc f args).run Tryz.prog w = .ok (.enter f args) w) : Calls Tryz.prog 121 #[.pointer (some ⟨C, 0, none⟩), .func (.func f) #[] cp] w fun e w' => e = .returned (.int .i64 (countF p (endsB l) : Int)) ∧ Below w.heap.size w w' := by
  obtain ⟨ho, va, ve, h⟩ := h
  have hf := ho.few
  have hs := ho.short
  have hlen := endsB_length l
  have HG := fun i (hi : i < (endsB l).length) => h.endAt hi
  have HE : ∀ i (hi : i < (endsB l).length), 0 ≤ (endsB l)[i] ∧ (endsB l)[i] ≤ 4000 := fun i hi => by
    rw [endsB_get]
    have := endB_le (l := l) (i := i + 1) (by omega)
    omega
  obtain ⟨a, cap, rfl, -⟩ := owns_slice h.re
  have c1 := h.c1
  rw [← hlen] at hf
  clear h ho hs hlen
  generalize endsB l = E at *
  go_enter Tryz.func121, Tryz.ntmps121
  go_wp2_with fail
  go_loopg [5, 13] E.length (fun g n i wr => ∃ j : Nat, j ≤ E.length ∧ g = E.length - j ∧ i = .int .i64 (j : Int) ∧ n = .int .i64 (countF p (E.take j) : Int) ∧ Below w.heap.size w wr)
  case atStart => exact ⟨0, by omega, by omega, rfl, rfl, Below.refl _ _⟩
  case round =>
    obtain ⟨j, hj, hg, rfl, rfl, hB⟩ := hrel
    by_cases hlt : j < E.length
    · obtain ⟨g, cap', e, hc⟩ := HG j hlt
      cases e
      obtain ⟨e0, e1⟩ := HE j hlt
      replace hc := cell_later hB hc
      have hC := countF_take (p := p) hlt
      have hle : countF p (E.take j) ≤ 25 := Nat.le_trans (countF_le _ _) (by simp; omega)
      have hasks := fun w' (hb : Below w.heap.size w w') => hA E[j] w' e0 e1 hb
      have HB : Hid (Below w.heap.size w wr) := hB
      clear HG HE hA hB
      generalize countF p (E.take j) = c0' at *
      generalize E[j] = x at *
      go_wp2_with fail
      refine (hasks _ HB.out).mono ?_
      rintro e w1 ⟨rfl, hb1⟩
      have hB1 : Below w.heap.size w w1 := HB.out.trans (hb1.mono HB.out.size)
      clear hasks hc hb1 HB
      cases hp : p x with
      | true =>
        rw [hp, if_pos rfl] at hC
        go_wp2_with fail
        go_roundg (E.length - (j + 1))
        case measure => omega
        case rel => exact ⟨j + 1, by omega, rfl, by go_num, by rw [hC]; go_num, hB1⟩
      | false =>
        rw [hp, if_neg (by simp)] at hC
        go_wp2_with fail
        go_roundg (E.length - (j + 1))
        case measure => omega
        case rel => exact ⟨j + 1, by omega, rfl, by go_num, by rw [hC, Nat.add_zero], hB1⟩
    · obtain rfl : j = E.length := by omega
      rw [List.take_length]
      clear HG HE hA
      go_wp2_with fail
      go_ret
      exact ⟨rfl, hB⟩

theorem sureAsks {B : Nat} {w0 : World} {s : Int} (hb : w0.cell? ⟨B, 0, none⟩ = some (.pointer (some ⟨C, 0, none⟩))) (hc : w0.cell? ⟨C, 2, none⟩ = some (.int .i64 s)) : AsksL 122 #[.pointer (some ⟨B, 0, none⟩)] (fun x => decide (x ≤ s)) w0 := by
  intro x w1 h0 h1 hB
  replace hb := cell_later hB hb
  replace hc := cell_later hB hc
  show Calls Tryz.prog 122 #[.int .i64 x, .pointer (some ⟨B, 0, none⟩)] w1 _
  go_enter Tryz.func122, Tryz.ntmps122
  go_wp2_with fail
  go_ret
  exact ⟨rfl, Below.refl _ _⟩

set_option maxHeartbeats 400000 in
theorem logSure_any (h : LogAt P w C l k) : Calls Tryz.prog 87 #[.pointer (some ⟨C, 0, none⟩)] w fun e w' => e = .returned (.int .i64 (k : Int)) ∧ Below w.heap.size w w' := by
  have hk := count_sure h.ok.sure
  have hb : Below w.heap.size w (w.alloc (.cells #[.pointer (some ⟨C, 0, none⟩)] 61)) := (Below.refl _ _).alloc (Nat.le_refl _) _
  have hA : AsksL 122 #[.pointer (some ⟨w.heap.size, 0, none⟩)] (fun x => decide (x ≤ (endB l k : Int))) (w.alloc (.cells #[.pointer (some ⟨C, 0, none⟩)] 61)) := by
    obtain ⟨-, va, ve, h⟩ := h
    exact sureAsks (C := C) (by go_simp) (cell_later hb h.c2)
  have hc := logCount_any (h.later hb) hA (enters_of Tryz.func122 (by kernel_rfl) rfl)
  rw [hk] at hc
  clear hA hk h
  go_enter Tryz.func87, Tryz.ntmps87
  go_wp2_with fail
  refine hc.mono ?_
  rintro e w1 ⟨rfl, hb1⟩
  go_wp2_with fail
  go_ret
  exact ⟨rfl, hb.trans (hb1.mono hb.size)⟩
end
end Go.Proofs.YtehkjbpgibdgpadGreatDoor
namespace Go.Proofs.YtehkjbpgibdgpadGreatDoor
open Go.RowKit

theorem sliced_zero (a : Option Addr) (n cap : Nat) : sliced a 0 n cap 1 = .slice a n cap := by
  unfold sliced
  cases a with
  | none => simp
  | some a => simp [Addr.add]
theorem sizeI (w : World) : (sizeOf (Tryz.prog.elem 72)).run Tryz.prog w = .ok 1 w := by kernel_rfl
theorem slI : Tryz.prog.underlying 72 = some (.slice (Tryz.prog.elem 72)) := by kernel_rfl
theorem cutI_to (a : Option Addr) {m cap n : Nat} (h : n ≤ m) (hm : m ≤ cap) (w : World) : (Instr.slice 72 (.slice a m cap) none (some (.int .i64 (n : Int))) none).run Tryz.prog w = .ok (.slice a n cap) w := by
  rw [run_slice_h w _ _ _ _ slI .i64 (n : Int) (by omega) (by omega), sizeI]
  simp only [Result.andThen_ok, Int.toNat_natCast, sliced_zero]
theorem cutB_to (a : Option Addr) {m cap n : Nat} (h : n ≤ m) (hm : m ≤ cap) (w : World) : (Instr.slice 53 (.slice a m cap) none (some (.int .i64 (n : Int))) none).run Tryz.prog w = .ok (.slice a n cap) w := by
  rw [run_slice_h w _ _ _ _ slB .i64 (n : Int) (by omega) (by omega), sizeB]
  simp only [Result.andThen_ok, Int.toNat_natCast, sliced_zero]

section
variable {P : Nat → Prop} {w : World} {C : Nat} {l : List (List (List Op5))} {k : Nat}

set_option maxHeartbeats 400000 in
theorem crashAsks {B D : Nat} {w0 : World} {s keep : Int} (hs0 : 0 ≤ s) (hs1 : s ≤ 4000) (hb : w0.cell? ⟨B, 0, none⟩ = some (.pointer (some ⟨C, 0, none⟩))) (hd : w0.cell? ⟨D, 0, none⟩ = some (.int .i64 keep)) (hc : w0.cell? ⟨C, 2, none⟩ = some (.int .i64 s)) : AsksL 163 #[.pointer (some ⟨B, 0, none⟩), .pointer (some ⟨D, 0, none⟩)] (fun x => decide (x - s ≤ max keep 0)) w0 := by
  intro x w1 h0 h1 hB
  replace hb := cell_later hB hb
  replace hc := cell_later hB hc
  replace hd := cell_later hB hd
  show Calls Tryz.prog 163 #[.int .i64 x, .pointer (some ⟨B, 0, none⟩), .pointer (some ⟨D, 0, none⟩)] w1 _
  go_enter Tryz.func163, Tryz.ntmps163
  go_wp2_with fail
  go_region
  all_goals go_wp2_with fail
  all_goals go_ret
  all_goals refine ⟨ret_bl ?_, (Below.refl _ _).drew⟩
  all_goals first | rw [Int.max_eq_left (by omega)] | rw [Int.max_eq_right (by omega)]

set_option maxRecDepth 100000 in
set_option maxHeartbeats 1000000 in
theorem logCrash_any (h : LogAt P w C l k) (keep : Int) : Calls Tryz.prog 143 #[.pointer (some ⟨C, 0, none⟩), .int .i64 keep] w fun e w' => e = .returned (.tuple #[]) ∧ LogAt P w' C (l.take (wholeF l k (max keep 0))) (wholeF l k (max keep 0)) ∧ Grew P w w' := by
  have ho := h.ok
  have hn := whole_le l k (max keep 0)
  have hf := ho.few
  have hb : Below w.heap.size w ((w.alloc (.cells #[.pointer (some ⟨C, 0, none⟩)] 61)).alloc (.cells #[.int .i64 keep] 3)) := ((Below.refl _ _).alloc (Nat.le_refl _) _).alloc (by simp) _
  have hA : AsksL 163 #[.pointer (some ⟨w.heap.size, 0, none⟩), .pointer (some ⟨w.heap.size + 1, 0, none⟩)] (fun x => decide (x - (endB l k : Int) ≤ max keep 0)) ((w.alloc (.cells #[.pointer (some ⟨C, 0, none⟩)] 61)).alloc (.cells #[.int .i64 keep] 3)) := by
    have := ho.endk
    obtain ⟨-, va, ve, h⟩ := h
    exact crashAsks (C := C) (by omega) (by omega) (by go_simp) (by go_simp) (cell_later hb h.c2)
  have hc := logCount_any (h.later hb) hA (enters_of Tryz.func163 (by kernel_rfl) rfl)
  have q0 : ((w.alloc (.cells #[.pointer (some ⟨C, 0, none⟩)] 61)).alloc (.cells #[.int .i64 keep] 3)).cell? ⟨w.heap.size, 0, none⟩ = some (.pointer (some ⟨C, 0, none⟩)) := by go_simp
  obtain ⟨-, va, ve, h⟩ := h
  have hlt := h.lt
  have HR : LogRaw P _ C (allB l) (endsB l) (endB l k) va ve := h.later hb
  have hlen := endsB_length l
  have HT : Hid ((endsB l).take (wholeF l k (max keep 0)) = endsB (l.take (wholeF l k (max keep 0)))) := endsB_take l hn
  have HA : Hid ((allB l).take (endB l (wholeF l k (max keep 0))) = allB (l.take (wholeF l k (max keep 0)))) := allB_take l _
  have HO : Hid (LogOk (l.take (wholeF l k (max keep 0))) (wholeF l k (max keep 0))) := ho.cut hn
  change Calls Tryz.prog _ _ _ (fun e w' => e = .returned (.int .i64 (wholeF l k (max keep 0) : Int)) ∧ Below _ _ w') at hc
  have he := endB_le (l := l) hn
  have hs := ho.short
  have hE : Hid (∀ m (hm : m < ((endsB l).take (wholeF l k (max keep 0))).length), wholeF l k (max keep 0) = m + 1 → ((endsB l).take (wholeF l k (max keep 0)))[m] = (endB l (wholeF l k (max keep 0)) : Int)) := fun m hm e => by
    rw [List.getElem_take, endsB_get, e]
  have hE0 : Hid (wholeF l k (max keep 0) = 0 → (endB l (wholeF l k (max keep 0)) : Int) = 0) := fun e => by rw [e, endB_zero]; rfl
  have hEl : Hid (endB (l.take (wholeF l k (max keep 0))) (wholeF l k (max keep 0)) = endB l (wholeF l k (max keep 0))) := endB_take l (Nat.le_refl _)
  clear hA h ho
  generalize wholeF l k (max keep 0) = n at *
  obtain ⟨W0, e0⟩ : ∃ W0, W0 = (w.alloc (.cells #[.pointer (some ⟨C, 0, none⟩)] 61)).alloc (.cells #[.int .i64 keep] 3) := ⟨_, rfl⟩
  go_enter Tryz.func143, Tryz.ntmps143
  go_wp2_with fail
  rw [← e0] at hb hc q0 HR ⊢
  clear e0
  refine hc.mono ?_
  rintro e w1 ⟨rfl, hb1⟩
  have HR1 := HR.later hb1
  replace q0 := cell_later hb1 q0
  have hB1 : Below w.heap.size w w1 := hb.trans (hb1.mono hb.size)
  clear HR hc hb1 hb
  obtain ⟨ea, ecap, rfl, hecap⟩ := owns_slice HR1.re
  have hcI := cutI_to ea (m := (endsB l).length) (cap := ecap) (n := n) (by omega) hecap
  have c1 := HR1.c1
  have fr1 := HR1.fr
  have hpC := HR1.pC
  have HR2 : Hid (LogRaw P (w1.setCell ⟨C, 1, none⟩ (.slice ea n ecap)) C (allB l) ((endsB l).take n) (endB l k) va (.slice ea n ecap)) := HR1.cutEnds (by omega)
  clear HR1
  go_wp2_with fail
  go_region
  have HR3 := HR2.out.later (Below.refl _ _).drew
  replace q0 : (w1.setCell ⟨C, 1, none⟩ (.slice ea n ecap)).drew.cell? ⟨w.heap.size, 0, none⟩ = some (.pointer (some ⟨C, 0, none⟩)) := by
    show (w1.setCell ⟨C, 1, none⟩ (.slice ea n ecap)).cell? _ = _
    rw [World.cell?_setCell_other _ _ _ _ (fun h => by simp only [Addr.mk.injEq] at h; omega)]; exact q0
  have hG3 : Grew P w (w1.setCell ⟨C, 1, none⟩ (.slice ea n ecap)).drew := ((Grew.of_below hB1).trans (grew_set w1 hpC _ _)).drew
  generalize (w1.setCell ⟨C, 1, none⟩ (.slice ea n ecap)).drew = W2 at *
  clear HR2 c1 fr1 hB1 hcI
  obtain ⟨aa, acap, rfl, hacap⟩ := owns_slice HR3.ra
  have c0 := HR3.c0
  have fr3 := HR3.fr
  have hup := logUpTo_raw (HR3.later (Below.refl _ _).drew) (n := n) (by simp; omega) (by simp; omega) hE0.out hE.out
  have HR4 : Hid (LogRaw P (W2.setCell ⟨C, 0, none⟩ (.slice aa (endB l n) acap)) C ((allB l).take (endB l n)) ((endsB l).take n) (endB l k) (.slice aa (endB l n) acap) (.slice ea n ecap)) := HR3.cutAll he
  have hcB := cutB_to aa (m := (allB l).length) (cap := acap) (n := endB l n) he hacap
  have hlt2 : w.heap.size < W2.heap.size := World.block_lt_of_cell? W2 _ q0
  clear HR3 hE hE0
  generalize endB l n = E at *
  generalize (allB l).length = A at *
  go_wp2_with fail
  refine wp_region_still_tail 11 (by kernel_rfl) (by kernel_rfl) ?_
  simp only [List.take_succ_cons, List.take_zero, List.drop_succ_cons, List.drop_zero]
  repeat (first | still_step | still_call hup)
  refine wpStill_nil ?_
  go_wp2_with fail
  have HR5 := HR4.out.later (Below.refl _ _).drew
  have hG5 : Grew P w (W2.setCell ⟨C, 0, none⟩ (.slice aa E acap)).drew := (hG3.trans (grew_set W2 hpC _ _)).drew
  refine (logSync_raw HR5).mono ?_
  rintro e w3 ⟨rfl, HR6, hG6⟩
  rw [HA.out, HT.out] at HR6
  have hl : endB (l.take n) n = (allB (l.take n)).length := by
    unfold endB; rw [List.take_of_length_le (by simp; omega)]
  clear hup HR4 HR5
  go_wp2_with fail
  go_end0
  exact ⟨rfl, ⟨HO.out, _, _, by rw [hl]; exact HR6⟩, hG5.trans hG6⟩
end
end Go.Proofs.YtehkjbpgibdgpadGreatDoor
namespace Go.Proofs.YtehkjbpgibdgpadGreatDoor
open Go.RowKit

theorem nilB (w : World) (a : Option Addr) (n c n' c' : Nat) : (binOp .eql 53 (.slice a n c) (.slice none n' c')).run Tryz.prog w = .ok (.bool a.isNone) w := Lib.run_eql_slice_nil w _ _ a n c n' c' Tryz.underlying53

theorem wpList_append_none0 {w : World} {ops : Array Oper} {rest : List Oper} {o : Oper} {a : Act} {Q : Exit → Act → World → Prop} (hgd : o.guard = none) (x y : Operand)
    (ho : o.op = .call { callee := .builtin .append, args := #[x, y], argTypes := #[53, 53] }) (g n cap : Nat) (hx : a.eval x = .slice (some ⟨g, 0, none⟩) n cap) (hn : n ≤ cap) (da : Option Addr) (c : Nat) (hy : a.eval y = .slice da 0 c)
    (h : wpList Tryz.prog ops Q rest (a.put o.dst (.slice (some ⟨g, 0, none⟩) n cap)) w) : wpList Tryz.prog ops Q (o :: rest) a w := by
  refine wpList_plain hgd fun K hK => ?_
  have hrun := run_append_none w o.type g n cap c hn da
  unfold Oper.wp
  simp [execOp, ho, resolve, invoke, builtin, hx, hy, hrun, Result.andThen]
  exact hK _ _ h


section
variable {P : Nat → Prop} {w : World} {C : Nat} {l : List (List (List Op5))} {k : Nat}

/-- What Round tells. -/
def RoundOut (w' : World) (e : Ending) (l : List (List (List Op5))) (n : Int) : Prop := (∃ h : n.toNat < l.length, 0 ≤ n ∧ ∃ u, e = .returned (.tuple #[u, .bool true]) ∧ RoundAt w' u l[n.toNat]) ∨ ((n < 0 ∨ (l.length : Int) ≤ n) ∧ e = .returned (.tuple #[.slice none 0 0, .bool false]))

set_option maxRecDepth 100000 in
set_option maxHeartbeats 1000000 in
theorem logRound_any (h : LogAt P w C l k) (n : Int) (hL : Lim w) : Calls Tryz.prog 84 #[.pointer (some ⟨C, 0, none⟩), .int .i64 n] w fun e w' => RoundOut w' e l n ∧ Below w.heap.size w w' := by
  have hlen := logLen_any h
  have ho := h.ok
  by_cases h1 : n < 0
  · clear h hlen
    go_enter Tryz.func84, Tryz.ntmps84
    go_wp2_with fail
    refine bodyPost_ret (results_tmp2 rfl _ _ _) rfl ?_
    exact ⟨.inr ⟨.inl h1, rfl⟩, Below.refl _ _⟩
  · by_cases h2 : (l.length : Int) ≤ n
    · clear h
      go_enter Tryz.func84, Tryz.ntmps84
      go_wp2_with fail
      refine hlen.mono ?_
      rintro e w1 ⟨rfl, rfl⟩
      go_wp2_with fail
      refine bodyPost_ret (results_tmp2 rfl _ _ _) rfl ?_
      exact ⟨.inr ⟨.inr h2, rfl⟩, Below.refl _ _⟩
    · obtain ⟨m, rfl⟩ := Int.eq_ofNat_of_zero_le (by omega : 0 ≤ n)
      have hm : m < l.length := by omega
      have hup := fun (w' : World) (hb : Below w.heap.size w w') => logUpTo_any (h.later hb) (n := m) (by omega)
      obtain ⟨-, va, ve, h⟩ := h
      have hs := ho.short
      have hB := h.bytes
      obtain ⟨aa, acap, rfl, -⟩ := owns_slice h.ra
      have c0 := h.c0
      have he := endB_le (l := l) (i := m) (by omega)
      obtain ⟨sv, hsv, hS⟩ := cut_l (W := w) hB.at (m := (endB l m : Int)) (by omega) (by omega)
      rw [Int.toNat_natCast, allB_drop] at hS
      have hD : Hid (decF (allB (l.drop m)) = (l[m], ((encB l[m]).length : Int), 0)) := by
        show _ = _
        rw [allB_at hm]; exact (ho.good _ (List.getElem_mem hm)).dec _
      have hA : AllB (allB (l.drop m)) := allB_all fun r hr => ho.good r (List.mem_of_mem_drop hr)
      have hdl : (allB (l.drop m)).length ≤ 4000 := by rw [← allB_drop, List.length_drop]; omega
      have HS : Hid (BytesAt w sv (allB (l.drop m))) := hS
      have t1 : ¬ ((m : Int) < 0) := h1
      have t2 : ¬ ((l.length : Int) ≤ (m : Int)) := h2
      have c0d : w.drew.cell? ⟨C, 0, none⟩ = some (.slice aa (allB l).length acap) := c0
      have hupd := hup _ (Below.refl _ _).drew
      clear h hB hS hup
      generalize allB (l.drop m) = Z at *
      generalize endB l m = E at *
      generalize (allB l).length = A at *
      go_enter Tryz.func84, Tryz.ntmps84
      go_wp2_with fail
      refine hlen.mono ?_
      rintro e w1 ⟨rfl, rfl⟩
      go_wp2_with fail
      have hdec := dec_any (HS.out.later (Below.refl _ _).drew) hA (by omega) (hL.later (Below.refl _ _).drew)
      rw [hD.out] at hdec
      clear hlen HS hL hD hA t1 t2 ho
      go_region_with (first | (go_at_call 117; refine hupd.mono ?_; rintro e w2 ⟨rfl, rfl⟩) | (go_at_call 116; refine hdec.mono ?_; rintro e w3 ⟨⟨y, rfl, hY⟩, hb3⟩))
      all_goals go_wp2_with fail
      all_goals refine bodyPost_ret (results_tmp2 rfl _ _ _) rfl ?_
      all_goals exact ⟨.inl ⟨by rw [Int.toNat_natCast]; exact hm, by omega, _, rfl, hY⟩, (Below.refl _ _).drew.trans hb3⟩
end
theorem RoundOut.yes {w' : World} {e : Ending} {l : List (List (List Op5))} {n : Nat} (h : RoundOut w' e l (n : Int)) (hn : n < l.length) : ∃ u, e = .returned (.tuple #[u, .bool true]) ∧ RoundAt w' u l[n] := by
  rcases h with ⟨h1, -, u, h2, h3⟩ | ⟨h1, -⟩
  · exact ⟨u, h2, h3⟩
  · omega
end Go.Proofs.YtehkjbpgibdgpadGreatDoor
namespace Go.Proofs.YtehkjbpgibdgpadGreatDoor
open Go.RowKit

theorem infoI : (Tryz.prog.info? 3).map (fun i => (i.zero, i.size, i.bytes)) = some (some (.int .i64 0), 1, 8) := by kernel_rfl

section
variable {P : Nat → Prop} {w : World} {C : Nat} {l : List (List (List Op5))} {k : Nat}

set_option maxRecDepth 100000 in
set_option maxHeartbeats 1000000 in
theorem logAdd_any {r : List (List Op5)} {v : Value} (h : LogAt P w C l k) (hv : BytesAt w v (encB r)) (hr : Good r) (hroom : roomF l (encB r).length = true) :
    Calls Tryz.prog 141 #[.pointer (some ⟨C, 0, none⟩), v] w fun e w' => e = .returned (.tuple #[]) ∧ LogAt (fun b => P b ∨ w.heap.size ≤ b) w' C (l ++ [r]) k ∧ Grew P w w' := by
  obtain ⟨i0, hi, hz0, hz1, hz2⟩ := info_parts infoU8
  obtain ⟨j0, hj, hy0, hy1, hy2⟩ := info_parts infoI
  obtain ⟨ho, va, ve, h⟩ := h
  have HO : Hid (LogOk (l ++ [r]) k) := ho.put hr hroom
  obtain ⟨a, cap, rfl, -⟩ := id hv
  obtain ⟨b, off, rfl, hc⟩ := BytesIn.cells hv (by have := enc_pos r; omega)
  have HN : Hid (∀ j u, (byteCells (encB r))[j]? = some u → w.cell? ((⟨b, off, none⟩ : Addr).add j) = some u) := hc
  have HL : Hid ((byteCells (encB r)).length = (encB r).length * 1) := by show _ = _; rw [byteCells_length]; omega
  have hlr := hr.len
  have hs := ho.short
  have hf := ho.few
  obtain ⟨aa, acap, rfl, -⟩ := owns_slice h.ra
  obtain ⟨ea, ecap, rfl, -⟩ := owns_slice h.re
  have c0 := h.c0
  have c1 := h.c1
  have fr := h.fr
  have HR : Hid (LogRaw P w C (allB l) (endsB l) (endB l k) (.slice aa (allB l).length acap) (.slice ea (endsB l).length ecap)) := h
  have hra := h.ra
  have hpC := h.pC
  have hlen : (endsB l).length ≤ 25 := by rw [endsB_length]; exact hf
  have hEs : Hid (endsB (l ++ [r]) = endsB l ++ [((allB l).length + (encB r).length : Int)]) := by
    show _ = _
    rw [endsB_snoc, allB_snoc, List.length_append]; rfl
  have hAs : Hid (allB (l ++ [r]) = allB l ++ encB r) := allB_snoc l r
  have hEk : Hid (endB (l ++ [r]) k = endB l k) := endB_append l [r] ho.sure
  clear hc hv h ho hr hroom
  generalize encB r = X at *
  generalize allB l = A at *
  generalize endsB l = E at *
  go_enter Tryz.func141, Tryz.ntmps141
  go_wp2_with (at_builtin; refine wpList_append_own_at _ rfl _ (.tmp 9) 53 rfl 0 5 i0 (.int .u8 0) 1 1 Tryz.underlying53 hi hz0 hz1 hz2 rfl (by decide) _ _ _ rfl hra ⟨b, off, none⟩ X.length cap (byteCells X) rfl HL.out HN.out (byteCells_one _) (by unfold maxLen; omega) (by omega) (Nat.zero_le _) ?_; intro v1 w1 hO1 hg1 _ hat1; obtain ⟨va1, cap1, rfl, -⟩ := owns_slice hO1; have hG1 : Grew (fun b => (Value.slice aa A.length acap).ownBlock = some b) w w1 := ⟨hg1.os, hg1.tape, hg1.output, hg1.size, fun k hk hn => hg1.block k hk (fun e => hn e.symm)⟩; have hCn : ¬ (Value.slice aa A.length acap).ownBlock = some C := fun e => (HR.out.pa C e).2 rfl; have e0 := hG1.cell c0 hCn; have e1 : w1.frozen? ⟨C, 0, none⟩ = false := (hG1.frozen (p := ⟨C, 0, none⟩) HR.out.lt hCn).trans (fr 0))
  rw [← byteCells_append] at hO1
  have HR1 := HR.out.all (a' := A ++ X) hg1 (by rw [List.length_append]; exact hO1) hat1
  have hGA : Grew P w (w1.setCell ⟨C, 0, none⟩ (.slice va1 (A.length + X.length) cap1)) := (hG1.mono fun b e => (HR.out.pa b e).1).trans (grew_set w1 hpC _ _)
  have hlt := HR.out.lt
  have hpe := HR.out.pe
  have hse := fun g hg => (owns_lt (g := g) HR.out.re hg).2
  generalize w1.setCell ⟨C, 0, none⟩ (.slice va1 (A.length + X.length) cap1) = W1 at *
  clear hg1 hO1 hat1 hG1 hCn e0 e1 HR hra c0 c1 fr HN HL w1
  have c0 := HR1.c0
  have c1 := HR1.c1
  have fr := HR1.fr
  have hpe1 := HR1.pe
  have hlt1 := HR1.lt
  obtain ⟨m, hm⟩ : ∃ m, m = A.length + X.length := ⟨_, rfl⟩
  have hEs' : endsB (l ++ [r]) = E ++ [(m : Int)] := by rw [hEs.out, hm]; simp
  rw [← hm] at HR1 c0 ⊢
  have hbA : Below W1.heap.size W1 (World.drew (W1.alloc (.cells #[.int .i64 (m : Int)] 3))) := ((Below.refl _ _).alloc (Nat.le_refl _) _).drew
  have hr2 := HR1.later hbA
  have HO' : Hid (World.ownsRow (World.drew (W1.alloc (.cells #[.int .i64 (m : Int)] 3))) 0 3 1 (.slice ea E.length ecap) E.length (intCells E)) := hr2.re
  have HN : Hid (∀ j u, [Value.int .i64 (m : Int)][j]? = some u → World.cell? (World.drew (W1.alloc (.cells #[.int .i64 (m : Int)] 3))) ((⟨W1.heap.size, 0, none⟩ : Addr).add j) = some u) := cell_one_new W1 _ _
  have HC : Hid (∀ w6, World.grownBy (World.drew (W1.alloc (.cells #[.int .i64 (m : Int)] 3))) w6 (Value.slice ea E.length ecap).ownBlock → w6.cell? ⟨C, 1, none⟩ = some (.slice ea E.length ecap) ∧ ∀ o, w6.frozen? ⟨C, o, none⟩ = false) := fun w6 hg6 => by
    have hblk : w6.heap[C]? = W1.heap[C]? := (hg6.block C (by have := hbA.size; omega) (fun e => (hpe1 C e.symm).2 rfl)).trans (hbA.block C hlt1)
    exact ⟨by rw [World.cell?_of_block (w := W1) hblk]; exact c1, fun o => by rw [World.frozen?_of_block (w := W1) hblk]; exact fr o⟩
  have HK : Hid (∀ w6 v1, w6.ownsRow 0 3 1 v1 (E.length + 1) (intCells E ++ [.int .i64 (m : Int)]) → World.grownBy (World.drew (W1.alloc (.cells #[.int .i64 (m : Int)] 3))) w6 (Value.slice ea E.length ecap).ownBlock → (v1.ownBlock = (Value.slice ea E.length ecap).ownBlock ∨ v1.ownBlock = some (World.heap (World.drew (W1.alloc (.cells #[.int .i64 (m : Int)] 3)))).size) → LogAt (fun b => P b ∨ w.heap.size ≤ b) (w6.setCell ⟨C, 1, none⟩ v1) C (l ++ [r]) k ∧ Grew P w (w6.setCell ⟨C, 1, none⟩ v1)) := fun w6 v1 ho hg hat => by
    have h6 := hr2.ends (e' := E ++ [(m : Int)]) hg (by rw [intCells_append, List.length_append]; exact ho) hat
    have hsz := hGA.size
    have hsz2 := hbA.size
    refine ⟨⟨HO.out, .slice va1 m cap1, v1, ?_⟩, ?_⟩
    · rw [hEk.out, hAs.out, hEs']
      exact h6.mono fun b _ hb => by
        rcases hb with hb | hb
        · exact hb
        · exact .inr (by omega)
    · refine (hGA.trans ((Grew.of_below hbA).trans ⟨hg.os, hg.tape, hg.output, hg.size, fun b hb hn => hg.block b hb fun e => hn (hpe b e.symm).1⟩)).trans (grew_set w6 hpC _ _)
  clear hbA hr2 hpe1 HR1 hGA HO hEs hEs' hAs hEk hm
  go_wp2_with fail
  go_region_law (refine step_append_at rfl (.tmp 17) (.tmp 23) 72 rfl 0 3 j0 (.int .i64 0) 1 8 Tryz.underlying72 hj hy0 hy1 hy2 rfl (by decide) (.slice ea E.length ecap) E.length (intCells E) (by simp [Act.eval]) HO'.out ⟨W1.heap.size, 0, none⟩ 1 1 [.int .i64 (m : Int)] (by simp [Act.eval]) rfl HN.out (by simp [Value.oneCell']) (by unfold maxLen; omega) (by omega) (Nat.zero_le _) ?_; intro v1 w6 ho1 hg1 hat1; have HKX := HK.out w6 v1 ho1 hg1 hat1; obtain ⟨g2, cap2, rfl, -⟩ := owns_cells ho1 (by omega); obtain ⟨qc, qf⟩ := HC.out w6 hg1)
  all_goals go_wp2_with fail
  all_goals go_end0
  all_goals exact ⟨rfl, HKX⟩

/-- Does a round come behind these? -/
def okP (l : List (List (List Op5))) (r : List (List Op5)) : Bool := decide (roundF r = 0) && roomF l (encB r).length
/-- Its code, where it does not. -/
def codeP (r : List (List Op5)) : Int := if roundF r = 0 then 8 else roundF r
theorem codeP_ne (r : List (List Op5)) : codeP r ≠ 0 := by
  unfold codeP; split
  · decide
  · assumption
/-- What Put tells, and what comes of the log. -/
def PutOut (P : Nat → Prop) (w' : World) (C : Nat) (e : Ending) (l : List (List (List Op5))) (k : Nat) (r : List (List Op5)) : Prop :=
  (okP l r = true ∧ e = .returned (.tuple #[.int .i64 (l.length : Int), .int .i64 0]) ∧ LogAt P w' C (l ++ [r]) k) ∨ (okP l r = false ∧ ∃ c : Int, c = codeP r ∧ e = .returned (.tuple #[.int .i64 0, .int .i64 c]) ∧ LogAt P w' C l k)

set_option maxRecDepth 100000 in
set_option maxHeartbeats 1000000 in
theorem logPut_any {r : List (List Op5)} {v : Value} (h : LogAt P w C l k) (hr : RoundAt w v r) (fr : Fits r) (nr : R64 r) (hL : Lim w) :
    Calls Tryz.prog 111 #[.pointer (some ⟨C, 0, none⟩), v] w fun e w' => PutOut (fun b => P b ∨ w.heap.size ≤ b) w' C e l k r ∧ Grew P w w' := by
  go_enter Tryz.func111, Tryz.ntmps111
  go_wp2_with fail
  refine (enc_any hr fr hL).mono ?_
  rintro e w1 ⟨⟨u, rfl, hU⟩, hb1⟩
  have h1 := h.later hb1
  have hz1 := hb1.size
  clear hr hL h
  rcases hU with ⟨h0, hU⟩ | ⟨h0, rfl⟩
  · rw [h0]
    have hg := good_of h0 nr
    have hlr := hg.len
    have hroom := logRoom_any h1 (n := (encB r).length) (by omega)
    cases hR : roomF l (encB r).length with
    | false =>
      rw [hR] at hroom
      have hK : Hid (okP l r = false) := by show okP l r = false; simp [okP, hR]
      have h8 : Hid ((8 : Int) = codeP r) := by show _ = _; rw [codeP, if_pos h0]
      obtain ⟨ua, ucap, rfl, -⟩ := hU
      clear hg hR
      generalize (encB r).length = n at *
      go_wp2_with fail
      refine hroom.mono ?_
      rintro e w2 ⟨rfl, rfl⟩
      clear hroom
      go_wp2_with fail
      refine bodyPost_ret (results_tmp2 rfl _ _ _) rfl ?_
      exact ⟨.inr ⟨hK.out, 8, h8.out, rfl, h1.mono fun b _ hb => .inl hb⟩, Grew.of_below hb1⟩
    | true =>
      rw [hR] at hroom
      have hK : Hid (okP l r = true) := by show okP l r = true; simp [okP, hR, h0]
      have hadd := logAdd_any h1 hU hg hR
      have hf := (h1.ok.put hg hR).few
      simp only [List.length_append, List.length_singleton] at hf
      obtain ⟨ua, ucap, rfl, -⟩ := hU
      clear hg hR h1
      generalize (encB r).length = n at *
      go_wp2_with fail
      refine hroom.mono ?_
      rintro e w2 ⟨rfl, rfl⟩
      clear hroom
      go_wp2_with fail
      refine hadd.mono ?_
      rintro e w3 ⟨rfl, h3, hG3⟩
      clear hadd
      have hlen := logLen_any h3
      rw [List.length_append, List.length_singleton] at hlen
      go_wp2_with fail
      refine hlen.mono ?_
      rintro e w4 ⟨rfl, rfl⟩
      clear hlen
      have e1 : (((l.length + 1 : Nat) : Int) - 1) = (l.length : Int) := by omega
      go_wp2_with fail
      refine bodyPost_ret (results_tmp2 rfl _ _ _) rfl ?_
      refine ⟨.inl ⟨hK.out, ?_, h3.mono fun b _ hb => hb.imp id fun hb => by omega⟩, (Grew.of_below hb1).trans hG3⟩
      simp
  · have hK : Hid (okP l r = false) := by show okP l r = false; simp [okP, h0]
    have t0 : (roundF r != 0) = true := by simp [h0]
    have h8 : Hid (roundF r = codeP r) := by show _ = _; rw [codeP, if_neg h0]
    go_wp2_with fail
    refine bodyPost_ret (results_tmp2 rfl _ _ _) rfl ?_
    exact ⟨.inr ⟨hK.out, _, h8.out, rfl, h1.mono fun b _ hb => .inl hb⟩, Grew.of_below hb1⟩
end
theorem PutOut.yes {P : Nat → Prop} {w' : World} {C : Nat} {e : Ending} {l : List (List (List Op5))} {k : Nat} {r : List (List Op5)} (h : PutOut P w' C e l k r) (hk : okP l r = true) : e = .returned (.tuple #[.int .i64 (l.length : Int), .int .i64 0]) ∧ LogAt P w' C (l ++ [r]) k := by
  rcases h with ⟨-, h1, h2⟩ | ⟨h, -⟩
  · exact ⟨h1, h2⟩
  · rw [hk] at h; cases h
theorem PutOut.no {P : Nat → Prop} {w' : World} {C : Nat} {e : Ending} {l : List (List (List Op5))} {k : Nat} {r : List (List Op5)} (h : PutOut P w' C e l k r) (hk : okP l r = false) : (∃ c : Int, c ≠ 0 ∧ e = .returned (.tuple #[.int .i64 0, .int .i64 c])) ∧ LogAt P w' C l k := by
  rcases h with ⟨h, -⟩ | ⟨-, c, h1, h2, h3⟩
  · rw [hk] at h; cases h
  · exact ⟨⟨c, by rw [h1]; exact codeP_ne r, h2⟩, h3⟩
theorem PutOut.told {P : Nat → Prop} {w' : World} {C : Nat} {e : Ending} {l : List (List (List Op5))} {k : Nat} {r : List (List Op5)} (h : PutOut P w' C e l k r) (hk : okP l r = false) : e = .returned (.tuple #[.int .i64 0, .int .i64 (codeP r)]) ∧ LogAt P w' C l k := by
  rcases h with ⟨h, -⟩ | ⟨-, c, rfl, h2, h3⟩
  · rw [hk] at h; cases h
  · exact ⟨h2, h3⟩
end Go.Proofs.YtehkjbpgibdgpadGreatDoor
