/-
  The walks of a step of a runner, kind by kind.
-/
import Derived.Test.YtihfjmdjjeciiacDoorSerAJ
import Derived.Deep.QuietTactic
import Derived.BigQuiet
import Derived.StillTailTactics
namespace Go.Proofs.YtihfjmdjjeciiacDoor
open Go.RowKit

theorem cast_next (n : Nat) : ((n : Int) + 1) = ((n + 1 : Nat) : Int) := by omega

set_option maxHeartbeats 400000 in
theorem step_num (R m : Nat) (b c n : Int) (r : Run) (w : World) (hr : RunAt w R r) (hm : m < 4) (hn : r.next < 100) :
    Calls Tryd.prog 74 #[.pointer (some ⟨R, 0, none⟩), .agg #[.int .i64 1, .int .i64 m, .int .i64 b, .int .i64 c, .int .i64 n]] w fun e w' => e = .returned (.tuple #[]) ∧ RunAt w' R (stepF ⟨1, m, b, c, n⟩ r) ∧ Below R w w' := by
  have hR := hr.lt
  have h14 := hr.place
  have hm' := hr.reg m hm
  have hf := hr.free
  have p1 : (m : Int) < 4 := by omega
  have hne : ¬ R = w.heap.size := by omega
  go_enter Tryd.func74, Tryd.ntmps74
  go_wp2_with fail
  go_region
  go_wp2_with fail
  go_end0
  rw [cast_next]
  exact ⟨rfl, (((hr.setNext (r.next + 1)).setReg hm n).alloc _).drew, ((((Below.refl _ _).setCell (p := ⟨R, 14, none⟩) (Nat.le_refl _) _).setCell (p := ⟨R, m, none⟩) (Nat.le_refl _) _).alloc (by simp; omega) _).drew⟩

set_option maxHeartbeats 400000 in
theorem step_load (R m l : Nat) (c n : Int) (r : Run) (w : World) (hr : RunAt w R r) (hm : m < 4) (hl : l < 10) (hn : r.next < 100) :
    Calls Tryd.prog 74 #[.pointer (some ⟨R, 0, none⟩), .agg #[.int .i64 2, .int .i64 m, .int .i64 l, .int .i64 c, .int .i64 n]] w fun e w' => e = .returned (.tuple #[]) ∧ RunAt w' R (stepF ⟨2, m, l, c, n⟩ r) ∧ Below R w w' := by
  have hR := hr.lt
  have h14 := hr.place
  have hm' := hr.reg m hm
  have hl' := hr.key l hl
  have hf := hr.free
  have p1 : (m : Int) < 4 := by omega
  have p2 : (l : Int) < 10 := by omega
  have hne : ¬ R = w.heap.size := by omega
  go_enter Tryd.func74, Tryd.ntmps74
  go_wp2_with fail
  go_region
  go_wp2_with fail
  go_end0
  rw [cast_next]
  exact ⟨rfl, (((hr.setNext (r.next + 1)).setReg hm (r.st l)).alloc _).drew, ((((Below.refl _ _).setCell (p := ⟨R, 14, none⟩) (Nat.le_refl _) _).setCell (p := ⟨R, m, none⟩) (Nat.le_refl _) _).alloc (by simp; omega) _).drew⟩

set_option maxHeartbeats 400000 in
theorem step_store (R m l : Nat) (c n : Int) (r : Run) (w : World) (hr : RunAt w R r) (hm : m < 10) (hl : l < 4) (hn : r.next < 100) :
    Calls Tryd.prog 74 #[.pointer (some ⟨R, 0, none⟩), .agg #[.int .i64 7, .int .i64 m, .int .i64 l, .int .i64 c, .int .i64 n]] w fun e w' => e = .returned (.tuple #[]) ∧ RunAt w' R (stepF ⟨7, m, l, c, n⟩ r) ∧ Below R w w' := by
  have hR := hr.lt
  have h14 := hr.place
  have hm' := hr.key m hm
  have hl' := hr.reg l hl
  have hf := hr.free
  have p1 : (m : Int) < 10 := by omega
  have p2 : (l : Int) < 4 := by omega
  have hne : ¬ R = w.heap.size := by omega
  go_enter Tryd.func74, Tryd.ntmps74
  go_wp2_with fail
  go_region
  go_wp2_with fail
  go_end0
  rw [cast_next]
  exact ⟨rfl, (((hr.setNext (r.next + 1)).setKey hm (r.regs l)).alloc _).drew, ((((Below.refl _ _).setCell (p := ⟨R, 14, none⟩) (Nat.le_refl _) _).setCell (p := ⟨R, 4 + m, none⟩) (Nat.le_refl _) _).alloc (by simp; omega) _).drew⟩
theorem RunAt.drewN {w : World} {R : Nat} {r : Run} (h : RunAt w R r) (n : Nat) : RunAt (w.drewN n) R r := ⟨h.reg, h.key, h.place, h.free⟩

set_option maxHeartbeats 400000 in
theorem step_stop (R : Nat) (a b c n : Int) (r : Run) (w : World) (hr : RunAt w R r) (hn : r.next < 100) :
    Calls Tryd.prog 74 #[.pointer (some ⟨R, 0, none⟩), .agg #[.int .i64 8, .int .i64 a, .int .i64 b, .int .i64 c, .int .i64 n]] w fun e w' => e = .returned (.tuple #[]) ∧ RunAt w' R (stepF ⟨8, a, b, c, n⟩ r) ∧ Below R w w' := by
  have hR := hr.lt
  have h14 := hr.place
  have hf := hr.free
  have hne : ¬ R = w.heap.size := by omega
  go_enter Tryd.func74, Tryd.ntmps74
  go_wp2_with fail
  go_end0
  rw [cast_next]
  exact ⟨rfl, ((hr.setNext (r.next + 1)).alloc _), (((Below.refl _ _).setCell (p := ⟨R, 14, none⟩) (Nat.le_refl _) _).alloc (by simp; omega) _)⟩

set_option maxHeartbeats 400000 in
theorem step_skip (R m l : Nat) (c n : Int) (r : Run) (w : World) (hr : RunAt w R r) (hm : m < 4) (hl : l < 14) (hn : r.next < 100) :
    Calls Tryd.prog 74 #[.pointer (some ⟨R, 0, none⟩), .agg #[.int .i64 9, .int .i64 m, .int .i64 l, .int .i64 c, .int .i64 n]] w fun e w' => e = .returned (.tuple #[]) ∧ RunAt w' R (stepF ⟨9, m, l, c, n⟩ r) ∧ Below R w w' := by
  have hR := hr.lt
  have h14 := hr.place
  have hm' := hr.reg m hm
  have hf := hr.free
  have p1 : (m : Int) < 4 := by omega
  have p2 : (l : Int) < 14 := by omega
  have hne : ¬ R = w.heap.size := by omega
  by_cases h0 : r.regs m = 0
  · have t0 : (r.regs m == 0) = true := by simp [h0]
    have hS : Hid (stepF ⟨9, m, l, c, n⟩ r = ⟨r.regs, r.st, r.next + 1 + l⟩) := by show _ = _; simp [stepF, h0]
    have hc : Hid (((r.next : Int) + 1 + l) = ((r.next + 1 + l : Nat) : Int)) := by show _ = _; omega
    clear h0
    go_enter Tryd.func74, Tryd.ntmps74
    go_wp2_with fail
    go_quiet (fail)
    go_wp2_with fail
    go_region
    go_wp2_with fail
    go_end0
    rw [hc.out, hS.out, cast_next]
    exact ⟨rfl, (((hr.setNext (r.next + 1)).alloc _).drewN _).setNext (r.next + 1 + l), (drewN_below (((Below.refl _ _).setCell (p := ⟨R, 14, none⟩) (Nat.le_refl _) _).alloc (by simp; omega) _) _).setCell (p := ⟨R, 14, none⟩) (Nat.le_refl _) _⟩
  · have t0 : (r.regs m == 0) = false := by simp [h0]
    have hS : Hid (stepF ⟨9, m, l, c, n⟩ r = ⟨r.regs, r.st, r.next + 1⟩) := by show _ = _; simp [stepF, h0]
    clear h0
    go_enter Tryd.func74, Tryd.ntmps74
    go_wp2_with fail
    go_quiet (fail)
    go_wp2_with fail
    go_end0
    rw [cast_next, hS.out]
    exact ⟨rfl, ((hr.setNext (r.next + 1)).alloc _).drewN _, drewN_below (((Below.refl _ _).setCell (p := ⟨R, 14, none⟩) (Nat.le_refl _) _).alloc (by simp; omega) _) _⟩


set_option maxRecDepth 100000 in
set_option maxHeartbeats 1000000 in
theorem step_add (R m l q : Nat) (n : Int) (r : Run) (w : World) (hr : RunAt w R r) (hm : m < 4) (hl : l < 4) (hq : q < 4) (hn : r.next < 100) :
    Calls Tryd.prog 74 #[.pointer (some ⟨R, 0, none⟩), .agg #[.int .i64 3, .int .i64 m, .int .i64 l, .int .i64 q, .int .i64 n]] w fun e w' => e = .returned (.tuple #[]) ∧ RunAt w' R (stepF ⟨3, m, l, q, n⟩ r) ∧ Below R w w' := by
  have hR := hr.lt
  have h14 := hr.place
  have hm' := hr.reg m hm
  have hl' := hr.reg l hl
  have hq' := hr.reg q hq
  have hf := hr.free
  have p1 : (m : Int) < 4 := by omega
  have p2 : (l : Int) < 4 := by omega
  have p3 : (q : Int) < 4 := by omega
  have hne : ¬ R = w.heap.size := by omega
  go_enter Tryd.func74, Tryd.ntmps74
  go_wp2_with fail
  obtain ⟨W, hWe⟩ : ∃ W, W = (w.setCell ⟨R, 14, none⟩ (.int .i64 (r.next + 1))).alloc (.cells #[.int .i64 3, .int .i64 m, .int .i64 l, .int .i64 q, .int .i64 n] 63) := ⟨_, rfl⟩
  have hrW : RunAt W R ⟨r.regs, r.st, r.next + 1⟩ := by rw [hWe, cast_next]; exact (hr.setNext (r.next + 1)).alloc _
  have hBW : Below R w W := by rw [hWe]; exact ((Below.refl _ _).setCell (p := ⟨R, 14, none⟩) (Nat.le_refl _) _).alloc (by simp; omega) _
  have g0 : W.cell? ⟨w.heap.size, 0, none⟩ = some (.int .i64 3) := by rw [hWe]; go_simp
  have g1 : W.cell? ⟨w.heap.size, 1, none⟩ = some (.int .i64 m) := by rw [hWe]; go_simp
  have g2 : W.cell? ⟨w.heap.size, 2, none⟩ = some (.int .i64 l) := by rw [hWe]; go_simp
  have g3 : W.cell? ⟨w.heap.size, 3, none⟩ = some (.int .i64 q) := by rw [hWe]; go_simp
  have g4 := hrW.reg m hm
  have g5 := hrW.reg l hl
  have g6 := hrW.reg q hq
  have g7 := hrW.free
  rw [← hWe]
  clear hWe
  refine wp_region_still_tail 23 (by kernel_rfl) (by kernel_rfl) ?_
  simp only [List.take_succ_cons, List.take_zero, List.drop_succ_cons, List.drop_zero]
  repeat (first | still_step | still_call (arith_any _ _ _ _))
  refine wpStill_nil ?_
  go_wp2_with fail
  go_end0
  exact ⟨rfl, (hrW.setReg hm _).drew, (hBW.setCell (p := ⟨R, m, none⟩) (Nat.le_refl _) _).drew⟩

set_option maxRecDepth 100000 in
set_option maxHeartbeats 1000000 in
theorem step_sub (R m l q : Nat) (n : Int) (r : Run) (w : World) (hr : RunAt w R r) (hm : m < 4) (hl : l < 4) (hq : q < 4) (hn : r.next < 100) :
    Calls Tryd.prog 74 #[.pointer (some ⟨R, 0, none⟩), .agg #[.int .i64 4, .int .i64 m, .int .i64 l, .int .i64 q, .int .i64 n]] w fun e w' => e = .returned (.tuple #[]) ∧ RunAt w' R (stepF ⟨4, m, l, q, n⟩ r) ∧ Below R w w' := by
  have hR := hr.lt
  have h14 := hr.place
  have hm' := hr.reg m hm
  have hl' := hr.reg l hl
  have hq' := hr.reg q hq
  have hf := hr.free
  have p1 : (m : Int) < 4 := by omega
  have p2 : (l : Int) < 4 := by omega
  have p3 : (q : Int) < 4 := by omega
  have hne : ¬ R = w.heap.size := by omega
  go_enter Tryd.func74, Tryd.ntmps74
  go_wp2_with fail
  obtain ⟨W, hWe⟩ : ∃ W, W = (w.setCell ⟨R, 14, none⟩ (.int .i64 (r.next + 1))).alloc (.cells #[.int .i64 4, .int .i64 m, .int .i64 l, .int .i64 q, .int .i64 n] 63) := ⟨_, rfl⟩
  have hrW : RunAt W R ⟨r.regs, r.st, r.next + 1⟩ := by rw [hWe, cast_next]; exact (hr.setNext (r.next + 1)).alloc _
  have hBW : Below R w W := by rw [hWe]; exact ((Below.refl _ _).setCell (p := ⟨R, 14, none⟩) (Nat.le_refl _) _).alloc (by simp; omega) _
  have g0 : W.cell? ⟨w.heap.size, 0, none⟩ = some (.int .i64 4) := by rw [hWe]; go_simp
  have g1 : W.cell? ⟨w.heap.size, 1, none⟩ = some (.int .i64 m) := by rw [hWe]; go_simp
  have g2 : W.cell? ⟨w.heap.size, 2, none⟩ = some (.int .i64 l) := by rw [hWe]; go_simp
  have g3 : W.cell? ⟨w.heap.size, 3, none⟩ = some (.int .i64 q) := by rw [hWe]; go_simp
  have g4 := hrW.reg m hm
  have g5 := hrW.reg l hl
  have g6 := hrW.reg q hq
  have g7 := hrW.free
  rw [← hWe]
  clear hWe
  refine wp_region_still_tail 23 (by kernel_rfl) (by kernel_rfl) ?_
  simp only [List.take_succ_cons, List.take_zero, List.drop_succ_cons, List.drop_zero]
  repeat (first | still_step | still_call (arith_any _ _ _ _))
  refine wpStill_nil ?_
  go_wp2_with fail
  go_end0
  exact ⟨rfl, (hrW.setReg hm _).drew, (hBW.setCell (p := ⟨R, m, none⟩) (Nat.le_refl _) _).drew⟩

set_option maxRecDepth 100000 in
set_option maxHeartbeats 1000000 in
theorem step_mul (R m l q : Nat) (n : Int) (r : Run) (w : World) (hr : RunAt w R r) (hm : m < 4) (hl : l < 4) (hq : q < 4) (hn : r.next < 100) :
    Calls Tryd.prog 74 #[.pointer (some ⟨R, 0, none⟩), .agg #[.int .i64 5, .int .i64 m, .int .i64 l, .int .i64 q, .int .i64 n]] w fun e w' => e = .returned (.tuple #[]) ∧ RunAt w' R (stepF ⟨5, m, l, q, n⟩ r) ∧ Below R w w' := by
  have hR := hr.lt
  have h14 := hr.place
  have hm' := hr.reg m hm
  have hl' := hr.reg l hl
  have hq' := hr.reg q hq
  have hf := hr.free
  have p1 : (m : Int) < 4 := by omega
  have p2 : (l : Int) < 4 := by omega
  have p3 : (q : Int) < 4 := by omega
  have hne : ¬ R = w.heap.size := by omega
  go_enter Tryd.func74, Tryd.ntmps74
  go_wp2_with fail
  obtain ⟨W, hWe⟩ : ∃ W, W = (w.setCell ⟨R, 14, none⟩ (.int .i64 (r.next + 1))).alloc (.cells #[.int .i64 5, .int .i64 m, .int .i64 l, .int .i64 q, .int .i64 n] 63) := ⟨_, rfl⟩
  have hrW : RunAt W R ⟨r.regs, r.st, r.next + 1⟩ := by rw [hWe, cast_next]; exact (hr.setNext (r.next + 1)).alloc _
  have hBW : Below R w W := by rw [hWe]; exact ((Below.refl _ _).setCell (p := ⟨R, 14, none⟩) (Nat.le_refl _) _).alloc (by simp; omega) _
  have g0 : W.cell? ⟨w.heap.size, 0, none⟩ = some (.int .i64 5) := by rw [hWe]; go_simp
  have g1 : W.cell? ⟨w.heap.size, 1, none⟩ = some (.int .i64 m) := by rw [hWe]; go_simp
  have g2 : W.cell? ⟨w.heap.size, 2, none⟩ = some (.int .i64 l) := by rw [hWe]; go_simp
  have g3 : W.cell? ⟨w.heap.size, 3, none⟩ = some (.int .i64 q) := by rw [hWe]; go_simp
  have g4 := hrW.reg m hm
  have g5 := hrW.reg l hl
  have g6 := hrW.reg q hq
  have g7 := hrW.free
  rw [← hWe]
  clear hWe
  refine wp_region_still_tail 23 (by kernel_rfl) (by kernel_rfl) ?_
  simp only [List.take_succ_cons, List.take_zero, List.drop_succ_cons, List.drop_zero]
  repeat (first | still_step | still_call (arith_any _ _ _ _))
  refine wpStill_nil ?_
  go_wp2_with fail
  go_end0
  exact ⟨rfl, (hrW.setReg hm _).drew, (hBW.setCell (p := ⟨R, m, none⟩) (Nat.le_refl _) _).drew⟩

set_option maxRecDepth 100000 in
set_option maxHeartbeats 1000000 in
theorem step_less (R m l q : Nat) (n : Int) (r : Run) (w : World) (hr : RunAt w R r) (hm : m < 4) (hl : l < 4) (hq : q < 4) (hn : r.next < 100) :
    Calls Tryd.prog 74 #[.pointer (some ⟨R, 0, none⟩), .agg #[.int .i64 6, .int .i64 m, .int .i64 l, .int .i64 q, .int .i64 n]] w fun e w' => e = .returned (.tuple #[]) ∧ RunAt w' R (stepF ⟨6, m, l, q, n⟩ r) ∧ Below R w w' := by
  have hR := hr.lt
  have h14 := hr.place
  have hm' := hr.reg m hm
  have hl' := hr.reg l hl
  have hq' := hr.reg q hq
  have hf := hr.free
  have p1 : (m : Int) < 4 := by omega
  have p2 : (l : Int) < 4 := by omega
  have p3 : (q : Int) < 4 := by omega
  have hne : ¬ R = w.heap.size := by omega
  go_enter Tryd.func74, Tryd.ntmps74
  go_wp2_with fail
  obtain ⟨W, hWe⟩ : ∃ W, W = (w.setCell ⟨R, 14, none⟩ (.int .i64 (r.next + 1))).alloc (.cells #[.int .i64 6, .int .i64 m, .int .i64 l, .int .i64 q, .int .i64 n] 63) := ⟨_, rfl⟩
  have hrW : RunAt W R ⟨r.regs, r.st, r.next + 1⟩ := by rw [hWe, cast_next]; exact (hr.setNext (r.next + 1)).alloc _
  have hBW : Below R w W := by rw [hWe]; exact ((Below.refl _ _).setCell (p := ⟨R, 14, none⟩) (Nat.le_refl _) _).alloc (by simp; omega) _
  have g0 : W.cell? ⟨w.heap.size, 0, none⟩ = some (.int .i64 6) := by rw [hWe]; go_simp
  have g1 : W.cell? ⟨w.heap.size, 1, none⟩ = some (.int .i64 m) := by rw [hWe]; go_simp
  have g2 : W.cell? ⟨w.heap.size, 2, none⟩ = some (.int .i64 l) := by rw [hWe]; go_simp
  have g3 : W.cell? ⟨w.heap.size, 3, none⟩ = some (.int .i64 q) := by rw [hWe]; go_simp
  have g4 := hrW.reg m hm
  have g5 := hrW.reg l hl
  have g6 := hrW.reg q hq
  have g7 := hrW.free
  rw [← hWe]
  clear hWe
  refine wp_region_still_tail 23 (by kernel_rfl) (by kernel_rfl) ?_
  simp only [List.take_succ_cons, List.take_zero, List.drop_succ_cons, List.drop_zero]
  repeat (first | still_step | still_call (arith_any _ _ _ _))
  refine wpStill_nil ?_
  go_wp2_with fail
  go_end0
  exact ⟨rfl, (hrW.setReg hm _).drew, (hBW.setCell (p := ⟨R, m, none⟩) (Nat.le_refl _) _).drew⟩


/-- A step of whatever operation is well made. -/
theorem step_any (R : Nat) (o : Op5) (ho : aloneF o = 0) (r : Run) (w : World) (hr : RunAt w R r) (hn : r.next < 100) :
    Calls Tryd.prog 74 #[.pointer (some ⟨R, 0, none⟩), .agg #[.int .i64 o.k, .int .i64 o.a, .int .i64 o.b, .int .i64 o.c, .int .i64 o.n]] w fun e w' => e = .returned (.tuple #[]) ∧ RunAt w' R (stepF o r) ∧ Below R w w' := by
  have hp := alone_parts ho
  obtain ⟨k, a, b, c, n⟩ := o
  dsimp only at hp ⊢
  rcases hp with ⟨rfl, h0, h1⟩ | ⟨rfl, h0, h1, h2, h3⟩ | ⟨hk, h0, h1, h2, h3, h4, h5⟩ | ⟨rfl, h0, h1, h2, h3⟩ | ⟨rfl, h0, h1⟩ | ⟨rfl, h0, h1, h2, h3⟩
  · obtain ⟨m, rfl⟩ : ∃ m : Nat, a = (m : Int) := ⟨a.toNat, by omega⟩
    exact step_num R m b c n r w hr (by omega) hn
  · obtain ⟨m, rfl⟩ : ∃ m : Nat, a = (m : Int) := ⟨a.toNat, by omega⟩
    obtain ⟨l, rfl⟩ : ∃ l : Nat, b = (l : Int) := ⟨b.toNat, by omega⟩
    exact step_load R m l c n r w hr (by omega) (by omega) hn
  · obtain ⟨m, rfl⟩ : ∃ m : Nat, a = (m : Int) := ⟨a.toNat, by omega⟩
    obtain ⟨l, rfl⟩ : ∃ l : Nat, b = (l : Int) := ⟨b.toNat, by omega⟩
    obtain ⟨q, rfl⟩ : ∃ q : Nat, c = (q : Int) := ⟨c.toNat, by omega⟩
    rcases hk with rfl | rfl | rfl | rfl
    · exact step_add R m l q n r w hr (by omega) (by omega) (by omega) hn
    · exact step_sub R m l q n r w hr (by omega) (by omega) (by omega) hn
    · exact step_mul R m l q n r w hr (by omega) (by omega) (by omega) hn
    · exact step_less R m l q n r w hr (by omega) (by omega) (by omega) hn
  · obtain ⟨m, rfl⟩ : ∃ m : Nat, a = (m : Int) := ⟨a.toNat, by omega⟩
    obtain ⟨l, rfl⟩ : ∃ l : Nat, b = (l : Int) := ⟨b.toNat, by omega⟩
    exact step_store R m l c n r w hr (by omega) (by omega) hn
  · exact step_stop R a b c n r w hr hn
  · obtain ⟨m, rfl⟩ : ∃ m : Nat, a = (m : Int) := ⟨a.toNat, by omega⟩
    obtain ⟨l, rfl⟩ : ∃ l : Nat, b = (l : Int) := ⟨b.toNat, by omega⟩
    exact step_skip R m l c n r w hr (by omega) (by omega) hn
end Go.Proofs.YtihfjmdjjeciiacDoor
