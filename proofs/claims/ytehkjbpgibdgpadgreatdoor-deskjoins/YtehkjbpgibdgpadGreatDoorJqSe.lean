/-
  The walks of serial.Arith and of a runner's step. The walks of a step of a runner, kind by kind. The walk of serial.run.
-/
import Derived.Test.YtehkjbpgibdgpadGreatDoorJqWa
import Derived.Deep.QuietTactic
import Derived.BigQuiet
import Derived.StillTailTactics
namespace Go.Proofs.YtehkjbpgibdgpadGreatDoor
open Go.RowKit

set_option maxHeartbeats 400000 in
theorem arith_any (k a b : Int) (w : World) :
    Calls Tryz.prog 167 #[.int .i64 k, .int .i64 a, .int .i64 b] w fun e w' => e = .returned (.int .i64 (arithF k a b)) ∧ w' = w := by
  by_cases h3 : k = 3
  · have hF : Hid (wrap64 (a + b) = arithF k a b) := by unfold arithF; rw [if_pos h3]; rfl
    go_enter Tryz.func167, Tryz.ntmps167
    go_wp2
    go_ret
    exact ⟨ret_int hF.out, rfl⟩
  by_cases h4 : k = 4
  · have hF : Hid (wrap64 (a - b) = arithF k a b) := by unfold arithF; rw [if_neg h3, if_pos h4]; rfl
    go_enter Tryz.func167, Tryz.ntmps167
    go_wp2
    go_ret
    exact ⟨ret_int hF.out, rfl⟩
  by_cases h5 : k = 5
  · have hF : Hid (wrap64 (a * b) = arithF k a b) := by unfold arithF; rw [if_neg h3, if_neg h4, if_pos h5]; rfl
    go_enter Tryz.func167, Tryz.ntmps167
    go_wp2
    go_ret
    exact ⟨ret_int hF.out, rfl⟩
  by_cases h6 : k = 6
  · subst h6
    by_cases hl : a < b
    · have hF : Hid (1 = arithF 6 a b) := by unfold arithF; rw [if_neg h3, if_neg h4, if_neg h5, if_pos ⟨rfl, hl⟩]; rfl
      go_enter Tryz.func167, Tryz.ntmps167
      go_wp2
      go_ret
      exact ⟨ret_int hF.out, rfl⟩
    · have hF : Hid (0 = arithF 6 a b) := by unfold arithF; rw [if_neg h3, if_neg h4, if_neg h5, if_neg (by omega)]; rfl
      go_enter Tryz.func167, Tryz.ntmps167
      go_wp2
      go_ret
      exact ⟨ret_int hF.out, rfl⟩
  · have hF : Hid (0 = arithF k a b) := by unfold arithF; rw [if_neg h3, if_neg h4, if_neg h5, if_neg (by omega)]; rfl
    go_enter Tryz.func167, Tryz.ntmps167
    go_wp2
    go_ret
    exact ⟨ret_int hF.out, rfl⟩

/-- A runner as it lies in memory: four registers, ten keys, the place of the next operation. -/
structure RunAt (w : World) (R : Nat) (r : Run) : Prop where
  reg : ∀ i, i < 4 → w.cell? ⟨R, i, none⟩ = some (.int .i64 (r.regs i))
  key : ∀ i, i < 10 → w.cell? ⟨R, 4 + i, none⟩ = some (.int .i64 (r.st i))
  place : w.cell? ⟨R, 14, none⟩ = some (.int .i64 r.next)
  free : ∀ o, w.frozen? ⟨R, o, none⟩ = false

theorem RunAt.alloc {w : World} {R : Nat} {r : Run} (h : RunAt w R r) (o : Obj) : RunAt (w.alloc o) R r := by
  have hR : R < w.heap.size := World.block_lt_of_cell? w _ h.place
  have hb : Below w.heap.size w (w.alloc o) := (Below.refl _ _).alloc (Nat.le_refl _) _
  exact ⟨fun i hi => cell_later hb (h.reg i hi), fun i hi => cell_later hb (h.key i hi), cell_later hb h.place, fun o => by rw [hb.frozen (p := ⟨R, o, none⟩) hR]; exact h.free o⟩
theorem RunAt.drew {w : World} {R : Nat} {r : Run} (h : RunAt w R r) : RunAt w.drew R r :=
  ⟨fun i hi => by simpa using h.reg i hi, fun i hi => by simpa using h.key i hi, by simpa using h.place, fun o => by simpa using h.free o⟩
theorem RunAt.lt {w : World} {R : Nat} {r : Run} (h : RunAt w R r) : R < w.heap.size := World.block_lt_of_cell? w _ h.place

theorem RunAt.setReg {w : World} {R : Nat} {r : Run} (h : RunAt w R r) {m : Nat} (hm : m < 4) (n : Int) : RunAt (w.setCell ⟨R, m, none⟩ (.int .i64 n)) R ⟨putAt r.regs m n, r.st, r.next⟩ := by
  refine ⟨fun i hi => ?_, fun i hi => ?_, ?_, fun o => ?_⟩
  · by_cases e : i = m
    · subst e; rw [World.cell?_setCell_same _ _ _ (h.reg i hi)]; simp [putAt]
    · rw [World.cell?_setCell_other _ _ _ _ (fun h => by simp only [Addr.mk.injEq] at h; omega), h.reg i hi]; simp [putAt, e]
  · rw [World.cell?_setCell_other _ _ _ _ (fun h => by simp only [Addr.mk.injEq] at h; omega), h.key i hi]
  · rw [World.cell?_setCell_other _ _ _ _ (fun h => by simp only [Addr.mk.injEq] at h; omega), h.place]
  · rw [World.frozen?_setCell]; exact h.free o
theorem RunAt.setKey {w : World} {R : Nat} {r : Run} (h : RunAt w R r) {m : Nat} (hm : m < 10) (n : Int) : RunAt (w.setCell ⟨R, 4 + m, none⟩ (.int .i64 n)) R ⟨r.regs, putAt r.st m n, r.next⟩ := by
  refine ⟨fun i hi => ?_, fun i hi => ?_, ?_, fun o => ?_⟩
  · rw [World.cell?_setCell_other _ _ _ _ (fun h => by simp only [Addr.mk.injEq] at h; omega), h.reg i hi]
  · by_cases e : i = m
    · subst e; rw [World.cell?_setCell_same _ _ _ (h.key i hi)]; simp [putAt]
    · rw [World.cell?_setCell_other _ _ _ _ (fun h => by simp only [Addr.mk.injEq] at h; omega), h.key i hi]; simp [putAt, e]
  · rw [World.cell?_setCell_other _ _ _ _ (fun h => by simp only [Addr.mk.injEq] at h; omega), h.place]
  · rw [World.frozen?_setCell]; exact h.free o
theorem RunAt.setNext {w : World} {R : Nat} {r : Run} (h : RunAt w R r) (n : Nat) : RunAt (w.setCell ⟨R, 14, none⟩ (.int .i64 n)) R ⟨r.regs, r.st, n⟩ := by
  refine ⟨fun i hi => ?_, fun i hi => ?_, ?_, fun o => ?_⟩
  · rw [World.cell?_setCell_other _ _ _ _ (fun h => by simp only [Addr.mk.injEq] at h; omega), h.reg i hi]
  · rw [World.cell?_setCell_other _ _ _ _ (fun h => by simp only [Addr.mk.injEq] at h; omega), h.key i hi]
  · rw [World.cell?_setCell_same _ _ _ h.place]
  · rw [World.frozen?_setCell]; exact h.free o

end Go.Proofs.YtehkjbpgibdgpadGreatDoor
namespace Go.Proofs.YtehkjbpgibdgpadGreatDoor
open Go.RowKit

theorem cast_next (n : Nat) : ((n : Int) + 1) = ((n + 1 : Nat) : Int) := by omega

set_option maxHeartbeats 400000 in
theorem step_num (R m : Nat) (b c n : Int) (r : Run) (w : World) (hr : RunAt w R r) (hm : m < 4) (hn : r.next < 100) :
    Calls Tryz.prog 145 #[.pointer (some ⟨R, 0, none⟩), .agg #[.int .i64 1, .int .i64 m, .int .i64 b, .int .i64 c, .int .i64 n]] w fun e w' => e = .returned (.tuple #[]) ∧ RunAt w' R (stepF ⟨1, m, b, c, n⟩ r) ∧ Below R w w' := by
  have hR := hr.lt
  have h14 := hr.place
  have hm' := hr.reg m hm
  have hf := hr.free
  have p1 : (m : Int) < 4 := by omega
  have hne : ¬ R = w.heap.size := by omega
  go_enter Tryz.func145, Tryz.ntmps145
  go_wp2_with fail
  go_region
  go_wp2_with fail
  go_end0
  rw [cast_next]
  exact ⟨rfl, (((hr.setNext (r.next + 1)).setReg hm n).alloc _).drew, ((((Below.refl _ _).setCell (p := ⟨R, 14, none⟩) (Nat.le_refl _) _).setCell (p := ⟨R, m, none⟩) (Nat.le_refl _) _).alloc (by simp; omega) _).drew⟩

set_option maxHeartbeats 400000 in
theorem step_load (R m l : Nat) (c n : Int) (r : Run) (w : World) (hr : RunAt w R r) (hm : m < 4) (hl : l < 10) (hn : r.next < 100) :
    Calls Tryz.prog 145 #[.pointer (some ⟨R, 0, none⟩), .agg #[.int .i64 2, .int .i64 m, .int .i64 l, .int .i64 c, .int .i64 n]] w fun e w' => e = .returned (.tuple #[]) ∧ RunAt w' R (stepF ⟨2, m, l, c, n⟩ r) ∧ Below R w w' := by
  have hR := hr.lt
  have h14 := hr.place
  have hm' := hr.reg m hm
  have hl' := hr.key l hl
  have hf := hr.free
  have p1 : (m : Int) < 4 := by omega
  have p2 : (l : Int) < 10 := by omega
  have hne : ¬ R = w.heap.size := by omega
  go_enter Tryz.func145, Tryz.ntmps145
  go_wp2_with fail
  go_region
  go_wp2_with fail
  go_end0
  rw [cast_next]
  exact ⟨rfl, (((hr.setNext (r.next + 1)).setReg hm (r.st l)).alloc _).drew, ((((Below.refl _ _).setCell (p := ⟨R, 14, none⟩) (Nat.le_refl _) _).setCell (p := ⟨R, m, none⟩) (Nat.le_refl _) _).alloc (by simp; omega) _).drew⟩

set_option maxHeartbeats 400000 in
theorem step_store (R m l : Nat) (c n : Int) (r : Run) (w : World) (hr : RunAt w R r) (hm : m < 10) (hl : l < 4) (hn : r.next < 100) :
    Calls Tryz.prog 145 #[.pointer (some ⟨R, 0, none⟩), .agg #[.int .i64 7, .int .i64 m, .int .i64 l, .int .i64 c, .int .i64 n]] w fun e w' => e = .returned (.tuple #[]) ∧ RunAt w' R (stepF ⟨7, m, l, c, n⟩ r) ∧ Below R w w' := by
  have hR := hr.lt
  have h14 := hr.place
  have hm' := hr.key m hm
  have hl' := hr.reg l hl
  have hf := hr.free
  have p1 : (m : Int) < 10 := by omega
  have p2 : (l : Int) < 4 := by omega
  have hne : ¬ R = w.heap.size := by omega
  go_enter Tryz.func145, Tryz.ntmps145
  go_wp2_with fail
  go_region
  go_wp2_with fail
  go_end0
  rw [cast_next]
  exact ⟨rfl, (((hr.setNext (r.next + 1)).setKey hm (r.regs l)).alloc _).drew, ((((Below.refl _ _).setCell (p := ⟨R, 14, none⟩) (Nat.le_refl _) _).setCell (p := ⟨R, 4 + m, none⟩) (Nat.le_refl _) _).alloc (by simp; omega) _).drew⟩
theorem RunAt.drewN {w : World} {R : Nat} {r : Run} (h : RunAt w R r) (n : Nat) : RunAt (w.drewN n) R r := ⟨h.reg, h.key, h.place, h.free⟩

set_option maxHeartbeats 400000 in
theorem step_stop (R : Nat) (a b c n : Int) (r : Run) (w : World) (hr : RunAt w R r) (hn : r.next < 100) :
    Calls Tryz.prog 145 #[.pointer (some ⟨R, 0, none⟩), .agg #[.int .i64 8, .int .i64 a, .int .i64 b, .int .i64 c, .int .i64 n]] w fun e w' => e = .returned (.tuple #[]) ∧ RunAt w' R (stepF ⟨8, a, b, c, n⟩ r) ∧ Below R w w' := by
  have hR := hr.lt
  have h14 := hr.place
  have hf := hr.free
  have hne : ¬ R = w.heap.size := by omega
  go_enter Tryz.func145, Tryz.ntmps145
  go_wp2_with fail
  go_end0
  rw [cast_next]
  exact ⟨rfl, ((hr.setNext (r.next + 1)).alloc _), (((Below.refl _ _).setCell (p := ⟨R, 14, none⟩) (Nat.le_refl _) _).alloc (by simp; omega) _)⟩

set_option maxHeartbeats 400000 in
theorem step_skip (R m l : Nat) (c n : Int) (r : Run) (w : World) (hr : RunAt w R r) (hm : m < 4) (hl : l < 14) (hn : r.next < 100) :
    Calls Tryz.prog 145 #[.pointer (some ⟨R, 0, none⟩), .agg #[.int .i64 9, .int .i64 m, .int .i64 l, .int .i64 c, .int .i64 n]] w fun e w' => e = .returned (.tuple #[]) ∧ RunAt w' R (stepF ⟨9, m, l, c, n⟩ r) ∧ Below R w w' := by
  have hR := hr.lt
  have h14 := hr.place
  have hm' := hr.reg m hm
  have hf := hr.free
  have p1 : (m : Int) < 4 := by omega
  have p2 : (l : Int) < 14 := by omega
  have hne : ¬ R = w.heap.size := by omega
  by_cases h0 : r.regs m = 0
  · have t0 : (r.regs m == 0) = true := by simp [h0]
    have hS : Hid (stepF ⟨9, m, l, c, n⟩ r = ⟨r.regs, r.st, r.next + 1 + l⟩) := by show _ = _; simp [stepF, h0]
    have hc : Hid (((r.next : Int) + 1 + l) = ((r.next + 1 + l : Nat) : Int)) := by show _ = _; omega
    clear h0
    go_enter Tryz.func145, Tryz.ntmps145
    go_wp2_with fail
    go_quiet (fail)
    go_wp2_with fail
    go_region
    go_wp2_with fail
    go_end0
    rw [hc.out, hS.out, cast_next]
    exact ⟨rfl, (((hr.setNext (r.next + 1)).alloc _).drewN _).setNext (r.next + 1 + l), (drewN_below (((Below.refl _ _).setCell (p := ⟨R, 14, none⟩) (Nat.le_refl _) _).alloc (by simp; omega) _) _).setCell (p := ⟨R, 14, none⟩) (Nat.le_refl _) _⟩
  · have t0 : (r.regs m == 0) = false := by simp [h0]
    have hS : Hid (stepF ⟨9, m, l, c, n⟩ r = ⟨r.regs, r.st, r.next + 1⟩) := by show _ = _; simp [stepF, h0]
    clear h0
    go_enter Tryz.func145, Tryz.ntmps145
    go_wp2_with fail
    go_quiet (fail)
    go_wp2_with fail
    go_end0
    rw [cast_next, hS.out]
    exact ⟨rfl, ((hr.setNext (r.next + 1)).alloc _).drewN _, drewN_below (((Below.refl _ _).setCell (p := ⟨R, 14, none⟩) (Nat.le_refl _) _).alloc (by simp; omega) _) _⟩


set_option maxRecDepth 100000 in
set_option maxHeartbeats 1000000 in
theorem step_add (R m l q : Nat) (n : Int) (r : Run) (w : World) (hr : RunAt w R r) (hm : m < 4) (hl : l < 4) (hq : q < 4) (hn : r.next < 100) :
    Calls Tryz.prog 145 #[.pointer (some ⟨R, 0, none⟩), .agg #[.int .i64 3, .int .i64 m, .int .i64 l, .int .i64 q, .int .i64 n]] w fun e w' => e = .returned (.tuple #[]) ∧ RunAt w' R (stepF ⟨3, m, l, q, n⟩ r) ∧ Below R w w' := by
  have hR := hr.lt
  have h14 := hr.place
  have hm' := hr.reg m hm
  have hl' := hr.reg l hl
  have hq' := hr.reg q hq
  have hf := hr.free
  have p1 : (m : Int) < 4 := by omega
  have p2 : (l : Int) < 4 := by omega
  have p3 : (q : Int) < 4 := by omega
  have hne : ¬ R = w.heap.size := by omega
  go_enter Tryz.func145, Tryz.ntmps145
  go_wp2_with fail
  obtain ⟨W, hWe⟩ : ∃ W, W = (w.setCell ⟨R, 14, none⟩ (.int .i64 (r.next + 1))).alloc (.cells #[.int .i64 3, .int .i64 m, .int .i64 l, .int .i64 q, .int .i64 n] 121) := ⟨_, rfl⟩
  have hrW : RunAt W R ⟨r.regs, r.st, r.next + 1⟩ := by rw [hWe, cast_next]; exact (hr.setNext (r.next + 1)).alloc _
  have hBW : Below R w W := by rw [hWe]; exact ((Below.refl _ _).setCell (p := ⟨R, 14, none⟩) (Nat.le_refl _) _).alloc (by simp; omega) _
  have g0 : W.cell? ⟨w.heap.size, 0, none⟩ = some (.int .i64 3) := by rw [hWe]; go_simp
  have g1 : W.cell? ⟨w.heap.size, 1, none⟩ = some (.int .i64 m) := by rw [hWe]; go_simp
  have g2 : W.cell? ⟨w.heap.size, 2, none⟩ = some (.int .i64 l) := by rw [hWe]; go_simp
  have g3 : W.cell? ⟨w.heap.size, 3, none⟩ = some (.int .i64 q) := by rw [hWe]; go_simp
  have g4 := hrW.reg m hm
  have g5 := hrW.reg l hl
  have g6 := hrW.reg q hq
  have g7 := hrW.free
  rw [← hWe]
  clear hWe
  refine wp_region_still_tail 23 (by kernel_rfl) (by kernel_rfl) ?_
  simp only [List.take_succ_cons, List.take_zero, List.drop_succ_cons, List.drop_zero]
  repeat (first | still_step | still_call (arith_any _ _ _ _))
  refine wpStill_nil ?_
  go_wp2_with fail
  go_end0
  exact ⟨rfl, (hrW.setReg hm _).drew, (hBW.setCell (p := ⟨R, m, none⟩) (Nat.le_refl _) _).drew⟩

set_option maxRecDepth 100000 in
set_option maxHeartbeats 1000000 in
theorem step_sub (R m l q : Nat) (n : Int) (r : Run) (w : World) (hr : RunAt w R r) (hm : m < 4) (hl : l < 4) (hq : q < 4) (hn : r.next < 100) :
    Calls Tryz.prog 145 #[.pointer (some ⟨R, 0, none⟩), .agg #[.int .i64 4, .int .i64 m, .int .i64 l, .int .i64 q, .int .i64 n]] w fun e w' => e = .returned (.tuple #[]) ∧ RunAt w' R (stepF ⟨4, m, l, q, n⟩ r) ∧ Below R w w' := by
  have hR := hr.lt
  have h14 := hr.place
  have hm' := hr.reg m hm
  have hl' := hr.reg l hl
  have hq' := hr.reg q hq
  have hf := hr.free
  have p1 : (m : Int) < 4 := by omega
  have p2 : (l : Int) < 4 := by omega
  have p3 : (q : Int) < 4 := by omega
  have hne : ¬ R = w.heap.size := by omega
  go_enter Tryz.func145, Tryz.ntmps145
  go_wp2_with fail
  obtain ⟨W, hWe⟩ : ∃ W, W = (w.setCell ⟨R, 14, none⟩ (.int .i64 (r.next + 1))).alloc (.cells #[.int .i64 4, .int .i64 m, .int .i64 l, .int .i64 q, .int .i64 n] 121) := ⟨_, rfl⟩
  have hrW : RunAt W R ⟨r.regs, r.st, r.next + 1⟩ := by rw [hWe, cast_next]; exact (hr.setNext (r.next + 1)).alloc _
  have hBW : Below R w W := by rw [hWe]; exact ((Below.refl _ _).setCell (p := ⟨R, 14, none⟩) (Nat.le_refl _) _).alloc (by simp; omega) _
  have g0 : W.cell? ⟨w.heap.size, 0, none⟩ = some (.int .i64 4) := by rw [hWe]; go_simp
  have g1 : W.cell? ⟨w.heap.size, 1, none⟩ = some (.int .i64 m) := by rw [hWe]; go_simp
  have g2 : W.cell? ⟨w.heap.size, 2, none⟩ = some (.int .i64 l) := by rw [hWe]; go_simp
  have g3 : W.cell? ⟨w.heap.size, 3, none⟩ = some (.int .i64 q) := by rw [hWe]; go_simp
  have g4 := hrW.reg m hm
  have g5 := hrW.reg l hl
  have g6 := hrW.reg q hq
  have g7 := hrW.free
  rw [← hWe]
  clear hWe
  refine wp_region_still_tail 23 (by kernel_rfl) (by kernel_rfl) ?_
  simp only [List.take_succ_cons, List.take_zero, List.drop_succ_cons, List.drop_zero]
  repeat (first | still_step | still_call (arith_any _ _ _ _))
  refine wpStill_nil ?_
  go_wp2_with fail
  go_end0
  exact ⟨rfl, (hrW.setReg hm _).drew, (hBW.setCell (p := ⟨R, m, none⟩) (Nat.le_refl _) _).drew⟩

set_option maxRecDepth 100000 in
set_option maxHeartbeats 1000000 in
theorem step_mul (R m l q : Nat) (n : Int) (r : Run) (w : World) (hr : RunAt w R r) (hm : m < 4) (hl : l < 4) (hq : q < 4) (hn : r.next < 100) :
    Calls Tryz.prog 145 #[.pointer (some ⟨R, 0, none⟩), .agg #[.int .i64 5, .int .i64 m, .int .i64 l, .int .i64 q, .int .i64 n]] w fun e w' => e = .returned (.tuple #[]) ∧ RunAt w' R (stepF ⟨5, m, l, q, n⟩ r) ∧ Below R w w' := by
  have hR := hr.lt
  have h14 := hr.place
  have hm' := hr.reg m hm
  have hl' := hr.reg l hl
  have hq' := hr.reg q hq
  have hf := hr.free
  have p1 : (m : Int) < 4 := by omega
  have p2 : (l : Int) < 4 := by omega
  have p3 : (q : Int) < 4 := by omega
  have hne : ¬ R = w.heap.size := by omega
  go_enter Tryz.func145, Tryz.ntmps145
  go_wp2_with fail
  obtain ⟨W, hWe⟩ : ∃ W, W = (w.setCell ⟨R, 14, none⟩ (.int .i64 (r.next + 1))).alloc (.cells #[.int .i64 5, .int .i64 m, .int .i64 l, .int .i64 q, .int .i64 n] 121) := ⟨_, rfl⟩
  have hrW : RunAt W R ⟨r.regs, r.st, r.next + 1⟩ := by rw [hWe, cast_next]; exact (hr.setNext (r.next + 1)).alloc _
  have hBW : Below R w W := by rw [hWe]; exact ((Below.refl _ _).setCell (p := ⟨R, 14, none⟩) (Nat.le_refl _) _).alloc (by simp; omega) _
  have g0 : W.cell? ⟨w.heap.size, 0, none⟩ = some (.int .i64 5) := by rw [hWe]; go_simp
  have g1 : W.cell? ⟨w.heap.size, 1, none⟩ = some (.int .i64 m) := by rw [hWe]; go_simp
  have g2 : W.cell? ⟨w.heap.size, 2, none⟩ = some (.int .i64 l) := by rw [hWe]; go_simp
  have g3 : W.cell? ⟨w.heap.size, 3, none⟩ = some (.int .i64 q) := by rw [hWe]; go_simp
  have g4 := hrW.reg m hm
  have g5 := hrW.reg l hl
  have g6 := hrW.reg q hq
  have g7 := hrW.free
  rw [← hWe]
  clear hWe
  refine wp_region_still_tail 23 (by kernel_rfl) (by kernel_rfl) ?_
  simp only [List.take_succ_cons, List.take_zero, List.drop_succ_cons, List.drop_zero]
  repeat (first | still_step | still_call (arith_any _ _ _ _))
  refine wpStill_nil ?_
  go_wp2_with fail
  go_end0
  exact ⟨rfl, (hrW.setReg hm _).drew, (hBW.setCell (p := ⟨R, m, none⟩) (Nat.le_refl _) _).drew⟩

set_option maxRecDepth 100000 in
set_option maxHeartbeats 1000000 in
theorem step_less (R m l q : Nat) (n : Int) (r : Run) (w : World) (hr : RunAt w R r) (hm : m < 4) (hl : l < 4) (hq : q < 4) (hn : r.next < 100) :
    Calls Tryz.prog 145 #[.pointer (some ⟨R, 0, none⟩), .agg #[.int .i64 6, .int .i64 m, .int .i64 l, .int .i64 q, .int .i64 n]] w fun e w' => e = .returned (.tuple #[]) ∧ RunAt w' R (stepF ⟨6, m, l, q, n⟩ r) ∧ Below R w w' := by
  have hR := hr.lt
  have h14 := hr.place
  have hm' := hr.reg m hm
  have hl' := hr.reg l hl
  have hq' := hr.reg q hq
  have hf := hr.free
  have p1 : (m : Int) < 4 := by omega
  have p2 : (l : Int) < 4 := by omega
  have p3 : (q : Int) < 4 := by omega
  have hne : ¬ R = w.heap.size := by omega
  go_enter Tryz.func145, Tryz.ntmps145
  go_wp2_with fail
  obtain ⟨W, hWe⟩ : ∃ W, W = (w.setCell ⟨R, 14, none⟩ (.int .i64 (r.next + 1))).alloc (.cells #[.int .i64 6, .int .i64 m, .int .i64 l, .int .i64 q, .int .i64 n] 121) := ⟨_, rfl⟩
  have hrW : RunAt W R ⟨r.regs, r.st, r.next + 1⟩ := by rw [hWe, cast_next]; exact (hr.setNext (r.next + 1)).alloc _
  have hBW : Below R w W := by rw [hWe]; exact ((Below.refl _ _).setCell (p := ⟨R, 14, none⟩) (Nat.le_refl _) _).alloc (by simp; omega) _
  have g0 : W.cell? ⟨w.heap.size, 0, none⟩ = some (.int .i64 6) := by rw [hWe]; go_simp
  have g1 : W.cell? ⟨w.heap.size, 1, none⟩ = some (.int .i64 m) := by rw [hWe]; go_simp
  have g2 : W.cell? ⟨w.heap.size, 2, none⟩ = some (.int .i64 l) := by rw [hWe]; go_simp
  have g3 : W.cell? ⟨w.heap.size, 3, none⟩ = some (.int .i64 q) := by rw [hWe]; go_simp
  have g4 := hrW.reg m hm
  have g5 := hrW.reg l hl
  have g6 := hrW.reg q hq
  have g7 := hrW.free
  rw [← hWe]
  clear hWe
  refine wp_region_still_tail 23 (by kernel_rfl) (by kernel_rfl) ?_
  simp only [List.take_succ_cons, List.take_zero, List.drop_succ_cons, List.drop_zero]
  repeat (first | still_step | still_call (arith_any _ _ _ _))
  refine wpStill_nil ?_
  go_wp2_with fail
  go_end0
  exact ⟨rfl, (hrW.setReg hm _).drew, (hBW.setCell (p := ⟨R, m, none⟩) (Nat.le_refl _) _).drew⟩


/-- A step of whatever operation is well made. -/
theorem step_any (R : Nat) (o : Op5) (ho : aloneF o = 0) (r : Run) (w : World) (hr : RunAt w R r) (hn : r.next < 100) :
    Calls Tryz.prog 145 #[.pointer (some ⟨R, 0, none⟩), .agg #[.int .i64 o.k, .int .i64 o.a, .int .i64 o.b, .int .i64 o.c, .int .i64 o.n]] w fun e w' => e = .returned (.tuple #[]) ∧ RunAt w' R (stepF o r) ∧ Below R w w' := by
  have hp := alone_parts ho
  obtain ⟨k, a, b, c, n⟩ := o
  dsimp only at hp ⊢
  rcases hp with ⟨rfl, h0, h1⟩ | ⟨rfl, h0, h1, h2, h3⟩ | ⟨hk, h0, h1, h2, h3, h4, h5⟩ | ⟨rfl, h0, h1, h2, h3⟩ | ⟨rfl, h0, h1⟩ | ⟨rfl, h0, h1, h2, h3⟩
  · obtain ⟨m, rfl⟩ : ∃ m : Nat, a = (m : Int) := ⟨a.toNat, by omega⟩
    exact step_num R m b c n r w hr (by omega) hn
  · obtain ⟨m, rfl⟩ : ∃ m : Nat, a = (m : Int) := ⟨a.toNat, by omega⟩
    obtain ⟨l, rfl⟩ : ∃ l : Nat, b = (l : Int) := ⟨b.toNat, by omega⟩
    exact step_load R m l c n r w hr (by omega) (by omega) hn
  · obtain ⟨m, rfl⟩ : ∃ m : Nat, a = (m : Int) := ⟨a.toNat, by omega⟩
    obtain ⟨l, rfl⟩ : ∃ l : Nat, b = (l : Int) := ⟨b.toNat, by omega⟩
    obtain ⟨q, rfl⟩ : ∃ q : Nat, c = (q : Int) := ⟨c.toNat, by omega⟩
    rcases hk with rfl | rfl | rfl | rfl
    · exact step_add R m l q n r w hr (by omega) (by omega) (by omega) hn
    · exact step_sub R m l q n r w hr (by omega) (by omega) (by omega) hn
    · exact step_mul R m l q n r w hr (by omega) (by omega) (by omega) hn
    · exact step_less R m l q n r w hr (by omega) (by omega) (by omega) hn
  · obtain ⟨m, rfl⟩ : ∃ m : Nat, a = (m : Int) := ⟨a.toNat, by omega⟩
    obtain ⟨l, rfl⟩ : ∃ l : Nat, b = (l : Int) := ⟨b.toNat, by omega⟩
    exact step_store R m l c n r w hr (by omega) (by omega) hn
  · exact step_stop R a b c n r w hr hn
  · obtain ⟨m, rfl⟩ : ∃ m : Nat, a = (m : Int) := ⟨a.toNat, by omega⟩
    obtain ⟨l, rfl⟩ : ∃ l : Nat, b = (l : Int) := ⟨b.toNat, by omega⟩
    exact step_skip R m l c n r w hr (by omega) (by omega) hn
end Go.Proofs.YtehkjbpgibdgpadGreatDoor
namespace Go.Proofs.YtehkjbpgibdgpadGreatDoor
open Go.RowKit

/-- The variables of a run: the state that came in, the two results. -/
structure RunBase (w : World) (B : Nat) (s : Nat → Int) : Prop where
  box : ∀ i, i < 10 → w.cell? ⟨B, i, none⟩ = some (.int .i64 (s i))
  one : ∀ i, i < 10 → w.cell? ⟨B + 1, i, none⟩ = some (.int .i64 0)
  two : ∀ i, i < 5 → w.cell? ⟨B + 1 + 1, i, none⟩ = some (.int .i64 0)
  free1 : ∀ o, w.frozen? ⟨B + 1, o, none⟩ = false
  free2 : ∀ o, w.frozen? ⟨B + 1 + 1, o, none⟩ = false

theorem RunBase.later {w w' : World} {B : Nat} {s : Nat → Int} (h : RunBase w B s) (hb : Below (B + 3) w w') : RunBase w' B s :=
  ⟨fun i hi => by rw [hb.cell (p := ⟨B, i, none⟩) (by simp)]; exact h.box i hi, fun i hi => by rw [hb.cell (p := ⟨B + 1, i, none⟩) (by simp)]; exact h.one i hi,
   fun i hi => by rw [hb.cell (p := ⟨B + 1 + 1, i, none⟩) (by simp)]; exact h.two i hi, fun o => by rw [hb.frozen (p := ⟨B + 1, o, none⟩) (by simp)]; exact h.free1 o,
   fun o => by rw [hb.frozen (p := ⟨B + 1 + 1, o, none⟩) (by simp)]; exact h.free2 o⟩

theorem stepF_bound {o : Op5} (ho : aloneF o = 0) {r : Run} (h : r.next < 14) : (stepF o r).next < 30 := by
  have := alone_parts ho
  unfold stepF
  repeat' split
  all_goals dsimp only
  all_goals omega

theorem RunAt.keys {w : World} {R : Nat} {r : Run} (h : RunAt w R r) : w.cell? ⟨R, 4, none⟩ = some (.int .i64 (r.st 0)) ∧ w.cell? ⟨R, 5, none⟩ = some (.int .i64 (r.st 1)) ∧ w.cell? ⟨R, 6, none⟩ = some (.int .i64 (r.st 2)) ∧ w.cell? ⟨R, 7, none⟩ = some (.int .i64 (r.st 3)) ∧ w.cell? ⟨R, 8, none⟩ = some (.int .i64 (r.st 4)) ∧ w.cell? ⟨R, 9, none⟩ = some (.int .i64 (r.st 5)) ∧ w.cell? ⟨R, 10, none⟩ = some (.int .i64 (r.st 6)) ∧ w.cell? ⟨R, 11, none⟩ = some (.int .i64 (r.st 7)) ∧ w.cell? ⟨R, 12, none⟩ = some (.int .i64 (r.st 8)) ∧ w.cell? ⟨R, 13, none⟩ = some (.int .i64 (r.st 9)) :=
  ⟨h.key 0 (by omega), h.key 1 (by omega), h.key 2 (by omega), h.key 3 (by omega), h.key 4 (by omega), h.key 5 (by omega), h.key 6 (by omega), h.key 7 (by omega), h.key 8 (by omega), h.key 9 (by omega)⟩
theorem RunAt.regs4 {w : World} {R : Nat} {r : Run} (h : RunAt w R r) : w.cell? ⟨R, 0, none⟩ = some (.int .i64 (r.regs 0)) ∧ w.cell? ⟨R, 1, none⟩ = some (.int .i64 (r.regs 1)) ∧ w.cell? ⟨R, 2, none⟩ = some (.int .i64 (r.regs 2)) ∧ w.cell? ⟨R, 3, none⟩ = some (.int .i64 (r.regs 3)) :=
  ⟨h.reg 0 (by omega), h.reg 1 (by omega), h.reg 2 (by omega), h.reg 3 (by omega)⟩
theorem RunBase.boxes {w : World} {B : Nat} {s : Nat → Int} (h : RunBase w B s) : w.cell? ⟨B, 0, none⟩ = some (.int .i64 (s 0)) ∧ w.cell? ⟨B, 1, none⟩ = some (.int .i64 (s 1)) ∧ w.cell? ⟨B, 2, none⟩ = some (.int .i64 (s 2)) ∧ w.cell? ⟨B, 3, none⟩ = some (.int .i64 (s 3)) ∧ w.cell? ⟨B, 4, none⟩ = some (.int .i64 (s 4)) ∧ w.cell? ⟨B, 5, none⟩ = some (.int .i64 (s 5)) ∧ w.cell? ⟨B, 6, none⟩ = some (.int .i64 (s 6)) ∧ w.cell? ⟨B, 7, none⟩ = some (.int .i64 (s 7)) ∧ w.cell? ⟨B, 8, none⟩ = some (.int .i64 (s 8)) ∧ w.cell? ⟨B, 9, none⟩ = some (.int .i64 (s 9)) :=
  ⟨h.box 0 (by omega), h.box 1 (by omega), h.box 2 (by omega), h.box 3 (by omega), h.box 4 (by omega), h.box 5 (by omega), h.box 6 (by omega), h.box 7 (by omega), h.box 8 (by omega), h.box 9 (by omega)⟩
theorem RunBase.ones {w : World} {B : Nat} {s : Nat → Int} (h : RunBase w B s) : w.cell? ⟨B + 1, 0, none⟩ = some (.int .i64 0) ∧ w.cell? ⟨B + 1, 1, none⟩ = some (.int .i64 0) ∧ w.cell? ⟨B + 1, 2, none⟩ = some (.int .i64 0) ∧ w.cell? ⟨B + 1, 3, none⟩ = some (.int .i64 0) ∧ w.cell? ⟨B + 1, 4, none⟩ = some (.int .i64 0) ∧ w.cell? ⟨B + 1, 5, none⟩ = some (.int .i64 0) ∧ w.cell? ⟨B + 1, 6, none⟩ = some (.int .i64 0) ∧ w.cell? ⟨B + 1, 7, none⟩ = some (.int .i64 0) ∧ w.cell? ⟨B + 1, 8, none⟩ = some (.int .i64 0) ∧ w.cell? ⟨B + 1, 9, none⟩ = some (.int .i64 0) :=
  ⟨h.one 0 (by omega), h.one 1 (by omega), h.one 2 (by omega), h.one 3 (by omega), h.one 4 (by omega), h.one 5 (by omega), h.one 6 (by omega), h.one 7 (by omega), h.one 8 (by omega), h.one 9 (by omega)⟩
theorem RunBase.twos {w : World} {B : Nat} {s : Nat → Int} (h : RunBase w B s) : w.cell? ⟨B + 1 + 1, 0, none⟩ = some (.int .i64 0) ∧ w.cell? ⟨B + 1 + 1, 1, none⟩ = some (.int .i64 0) ∧ w.cell? ⟨B + 1 + 1, 2, none⟩ = some (.int .i64 0) ∧ w.cell? ⟨B + 1 + 1, 3, none⟩ = some (.int .i64 0) ∧ w.cell? ⟨B + 1 + 1, 4, none⟩ = some (.int .i64 0) :=
  ⟨h.two 0 (by omega), h.two 1 (by omega), h.two 2 (by omega), h.two 3 (by omega), h.two 4 (by omega)⟩

set_option maxHeartbeats 1000000 in
theorem run_any (v : Value) (d : List Op5) (s : Nat → Int) (w : World) (hd : DeedAt w v d) (hlen : d.length ≤ 14) (ha : ∀ o ∈ d, aloneF o = 0) :
    Calls Tryz.prog 119 #[stV s, v] w fun e w' => e = .returned (.tuple #[stV (doF s d).st, resV (doF s d).code (doF s d).regs]) ∧ Below w.heap.size w w' := by
  obtain ⟨a, cap, rfl, hd⟩ := hd
  have HA : Hid (∀ j (h : j < d.length), aloneF d[j] = 0) := fun j h => ha _ (List.getElem_mem h)
  clear ha
  show Calls Tryz.prog 119 #[.agg #[.int .i64 (s 0), .int .i64 (s 1), .int .i64 (s 2), .int .i64 (s 3), .int .i64 (s 4), .int .i64 (s 5), .int .i64 (s 6), .int .i64 (s 7), .int .i64 (s 8), .int .i64 (s 9)], _] w _
  go_enter Tryz.func119, Tryz.ntmps119
  go_wp2_with fail
  obtain ⟨W0, e0⟩ : ∃ W0, W0 = ((((w.alloc (.cells #[.int .i64 (s 0), .int .i64 (s 1), .int .i64 (s 2), .int .i64 (s 3), .int .i64 (s 4), .int .i64 (s 5), .int .i64 (s 6), .int .i64 (s 7), .int .i64 (s 8), .int .i64 (s 9)] 32)).alloc (.cells #[.int .i64 0, .int .i64 0, .int .i64 0, .int .i64 0, .int .i64 0, .int .i64 0, .int .i64 0, .int .i64 0, .int .i64 0, .int .i64 0] 32)).alloc (.cells #[.int .i64 0, .int .i64 0, .int .i64 0, .int .i64 0, .int .i64 0] 102)).alloc (.cells #[.int .i64 0, .int .i64 0, .int .i64 0, .int .i64 0, .int .i64 (s 0), .int .i64 (s 1), .int .i64 (s 2), .int .i64 (s 3), .int .i64 (s 4), .int .i64 (s 5), .int .i64 (s 6), .int .i64 (s 7), .int .i64 (s 8), .int .i64 (s 9), .int .i64 0] 194)) := ⟨_, rfl⟩
  rw [← e0]
  have hB0 : Below w.heap.size w W0 := by
    rw [e0]
    exact ((((Below.refl _ _).alloc (Nat.le_refl _) _).alloc (by simp) _).alloc (by simp; omega) _).alloc (by simp; omega) _
  have hsz : W0.heap.size = w.heap.size + 4 := by rw [e0]; simp
  have hR0 : RunAt W0 (w.heap.size + 1 + 1 + 1) ⟨fun _ => 0, s, 0⟩ := by
    rw [e0]
    exact ⟨lt4 (by go_simp) (by go_simp) (by go_simp) (by go_simp), lt10 (by go_simp) (by go_simp) (by go_simp) (by go_simp) (by go_simp) (by go_simp) (by go_simp) (by go_simp) (by go_simp) (by go_simp), by go_simp, fun o => by go_simp⟩
  have hS0 : RunBase W0 w.heap.size s := by
    rw [e0]
    exact ⟨lt10 (by go_simp) (by go_simp) (by go_simp) (by go_simp) (by go_simp) (by go_simp) (by go_simp) (by go_simp) (by go_simp) (by go_simp), lt10 (by go_simp) (by go_simp) (by go_simp) (by go_simp) (by go_simp) (by go_simp) (by go_simp) (by go_simp) (by go_simp) (by go_simp), lt5 (by go_simp) (by go_simp) (by go_simp) (by go_simp) (by go_simp), fun o => by go_simp, fun o => by go_simp⟩
  clear e0
  go_loopg [7] d.length (fun g x wr => ∃ r : Run, g = d.length - r.next ∧ r.next < 30 ∧ RunAt wr (w.heap.size + 1 + 1 + 1) r ∧ Hid (runF s d r = doF s d) ∧ Below (w.heap.size + 3) W0 wr)
  case atStart => exact ⟨⟨fun _ => 0, s, 0⟩, by simp, by simp, hR0, rfl, Below.refl _ _⟩
  case round =>
    obtain ⟨r, hg, h30, hR, hF, hB⟩ := hrel
    have h14 := hR.place
    have hz : w.heap.size + 1 + 1 + 1 < wr.heap.size := hR.lt
    have hne : ¬ w.heap.size + 1 + 1 + 1 = wr.heap.size := by omega
    have hne0 : ¬ w.heap.size = wr.heap.size := by omega
    have hne1 : ¬ w.heap.size + 1 = wr.heap.size := by omega
    have hne2 : ¬ w.heap.size + 1 + 1 = wr.heap.size := by omega
    by_cases hlt : r.next < d.length
    · obtain ⟨b, off, rfl, c0, c1, c2, c3, c4⟩ := hd r.next hlt
      have hB' : Below w.heap.size w wr := hB0.trans (hB.mono (by omega))
      replace c0 := cell_later hB' c0
      replace c1 := cell_later hB' c1
      replace c2 := cell_later hB' c2
      replace c3 := cell_later hB' c3
      replace c4 := cell_later hB' c4
      have hal := HA.out r.next hlt
      have hparts := alone_parts hal
      have HAL : Hid (aloneF d[r.next] = 0) := hal
      clear hd hal
      by_cases h8 : d[r.next].k = 8
      · have t8 : (d[r.next].k == 8) = true := by simp [h8]
        have q0 : 0 ≤ d[r.next].a := by omega
        have q1 : d[r.next].a < 4 := by omega
        have hreg := hR.reg d[r.next].a.toNat (by omega)
        by_cases h0 : r.regs d[r.next].a.toNat = 0
        · have t0 : (r.regs d[r.next].a.toNat != 0) = false := by simp [h0]
          have hF' : Hid (runF s d (stepF d[r.next] r) = doF s d) := (runF_step hlt (by simp [h0])).trans hF.out
          clear hF h0 hparts h8
          go_wp2_with fail
          refine (step_any _ d[r.next] HAL.out r _ (hR.alloc _) (by omega)).mono ?_
          rintro e w1 ⟨rfl, hR1, hb1⟩
          have h30' := stepF_bound HAL.out (r := r) (by omega)
          have hB1 : Below (w.heap.size + 3) W0 w1 := (hB.alloc (by omega) _).trans hb1
          have hnx := stepF_next d[r.next] r
          clear c0 c1 c2 c3 c4 hB hb1 hreg h14
          go_wp2_with fail
          go_roundg (d.length - (stepF d[r.next] r).next)
          case measure => omega
          case rel => exact ⟨_, rfl, h30', hR1, hF', hB1⟩
        · have t0 : (r.regs d[r.next].a.toNat != 0) = true := by simp [h0]
          have hF' : Hid (doF s d = ⟨s, 9, r.regs⟩) := hF.out.symm.trans (runF_stop hlt h8 (by simpa using h0))
          clear hF h0 hparts h8
          go_wp2_with fail
          obtain ⟨W1, e1⟩ : ∃ W1, W1 = wr.alloc (.cells #[.int .i64 d[r.next].k, .int .i64 d[r.next].a, .int .i64 d[r.next].b, .int .i64 d[r.next].c, .int .i64 d[r.next].n] 121) := ⟨_, rfl⟩
          rw [← e1]
          have hR1 : RunAt W1 (w.heap.size + 1 + 1 + 1) r := by rw [e1]; exact hR.alloc _
          have hB1 : Below (w.heap.size + 3) W0 W1 := by rw [e1]; exact hB.alloc (by omega) _
          have hBw : Below w.heap.size w W1 := hB0.trans (hB1.mono (by omega))
          have hS := hS0.later hB1
          obtain ⟨k0, k1, k2, k3, k4, k5, k6, k7, k8, k9⟩ := hS.boxes
          obtain ⟨y0, y1, y2, y3, y4, y5, y6, y7, y8, y9⟩ := hS.ones
          obtain ⟨z0, z1, z2, z3, z4⟩ := hS.twos
          obtain ⟨g0, g1, g2, g3⟩ := hR1.regs4
          have k4' := hS.free1
          have k5' := hS.free2
          clear e1 hR hB hS c0 c1 c2 c3 c4 hreg h14 hB' hne hne0 hne1 hne2
          go_region
          all_goals go_wp2_with fail
          all_goals exact bodyPost_ret (v := .tuple #[stV s, resV 9 r.regs]) (by simp [results, Tryz.results119, go_sem, stV, resV, y0, y1, y2, y3, y4, y5, y6, y7, y8, y9, z0, z1, z2, z3, z4]) rfl ⟨ret_tuple2 hF'.out rfl rfl rfl, below_res hBw (by omega) (by omega) _ _ _ _ _ _ _ _ _ _ _ _ _ _ _⟩
      · have t8 : (d[r.next].k == 8) = false := by simp [h8]
        have hF' : Hid (runF s d (stepF d[r.next] r) = doF s d) := (runF_step hlt (fun h => h8 h.1)).trans hF.out
        clear hF hparts h8
        go_wp2_with fail
        refine (step_any _ d[r.next] HAL.out r _ (hR.alloc _) (by omega)).mono ?_
        rintro e w1 ⟨rfl, hR1, hb1⟩
        have h30' := stepF_bound HAL.out (r := r) (by omega)
        have hB1 : Below (w.heap.size + 3) W0 w1 := (hB.alloc (by omega) _).trans hb1
        have hnx := stepF_next d[r.next] r
        clear c0 c1 c2 c3 c4 hB hb1 h14
        go_wp2_with fail
        go_roundg (d.length - (stepF d[r.next] r).next)
        case measure => omega
        case rel => exact ⟨_, rfl, h30', hR1, hF', hB1⟩
    · have hF' : Hid (doF s d = ⟨r.st, 0, r.regs⟩) := hF.out.symm.trans (runF_end hlt)
      have hS := hS0.later hB
      have hBw : Below w.heap.size w wr := hB0.trans (hB.mono (by omega))
      obtain ⟨k0, k1, k2, k3, k4, k5, k6, k7, k8, k9⟩ := hR.keys
      obtain ⟨y0, y1, y2, y3, y4, y5, y6, y7, y8, y9⟩ := hS.ones
      obtain ⟨z0, z1, z2, z3, z4⟩ := hS.twos
      obtain ⟨g0, g1, g2, g3⟩ := hR.regs4
      have k4' := hS.free1
      have k5' := hS.free2
      clear hF hS hd
      go_wp2_with fail
      clear hne hne0 hne1 hne2
      go_region
      all_goals go_wp2_with fail
      all_goals exact bodyPost_ret (v := .tuple #[stV r.st, resV 0 r.regs]) (by simp [results, Tryz.results119, go_sem, stV, resV, y0, y1, y2, y3, y4, y5, y6, y7, y8, y9, z0, z1, z2, z3, z4]) rfl ⟨ret_tuple2 hF'.out rfl rfl rfl, below_res hBw (by omega) (by omega) _ _ _ _ _ _ _ _ _ _ _ _ _ _ _⟩
end Go.Proofs.YtehkjbpgibdgpadGreatDoor
