/-
  The walks of a worker's run, kind by kind.
-/
import Derived.Test.YtihfjmdjjeciiacDoorJqWo
import Derived.Test.YtihfjmdjjeciiacDoorSerAJ
namespace Go.Proofs.YtihfjmdjjeciiacDoor
open Go.RowKit Go.Shelf

theorem castN (n : Nat) : ((n : Int) + 1) = ((n + 1 : Nat) : Int) := by omega

set_option maxHeartbeats 400000 in
theorem work_num (C m : Nat) (p q n : Int) (dv : Value) (b : Nat) (x : Wk) (w : World) (hx : WorkAt w C dv b x) (hm : m < 4) (hn : x.nx < 100) :
    Calls Tryd.prog 111 #[.pointer (some ⟨C, 0, none⟩), .agg #[.int .i64 1, .int .i64 m, .int .i64 p, .int .i64 q, .int .i64 n]] w fun e w' => e = .returned (.tuple #[]) ∧ WorkAt w' C dv b (runW ⟨1, m, p, q, n⟩ x) ∧ w.grownBy w' (some C) := by
  have hC := hx.lt
  have h2 := hx.place
  have hm' := hx.reg m hm
  have hf := hx.free
  have p1 : (m : Int) < 4 := by omega
  have hne : ¬ C = w.heap.size := by omega
  go_enter Tryd.func111, Tryd.ntmps111
  go_wp2_with fail
  go_region
  go_wp2_with fail
  go_end0
  rw [castN]
  exact ⟨rfl, (((hx.setNext (x.nx + 1)).setReg hm n).alloc _).drew, grown_trans (grown_trans (grown_trans (grown_setCell w ⟨C, 2, none⟩ _) (grown_setCell _ ⟨C, 24 + m, none⟩ _)) (grown_alloc _ _ _)) (grown_drew _ _)⟩

set_option maxHeartbeats 400000 in
theorem work_store (C m l : Nat) (q n : Int) (dv : Value) (b : Nat) (x : Wk) (w : World) (hx : WorkAt w C dv b x) (hm : m < 10) (hl : l < 4) (hn : x.nx < 100) :
    Calls Tryd.prog 111 #[.pointer (some ⟨C, 0, none⟩), .agg #[.int .i64 7, .int .i64 m, .int .i64 l, .int .i64 q, .int .i64 n]] w fun e w' => e = .returned (.tuple #[]) ∧ WorkAt w' C dv b (runW ⟨7, m, l, q, n⟩ x) ∧ w.grownBy w' (some C) := by
  have hC := hx.lt
  have h2 := hx.place
  have hm' := hx.sto m hm
  have hm'' := hx.is m hm
  have hl' := hx.reg l hl
  have hf := hx.free
  have p1 : (m : Int) < 10 := by omega
  have p2 : (l : Int) < 4 := by omega
  have hne : ¬ C = w.heap.size := by omega
  go_enter Tryd.func111, Tryd.ntmps111
  go_wp2_with fail
  go_region
  go_wp2_with fail
  go_end0
  rw [castN]
  exact ⟨rfl, (((hx.setNext (x.nx + 1)).setSto hm (x.regs l)).alloc _).drew, grown_trans (grown_trans (grown_trans (grown_trans (grown_setCell w ⟨C, 2, none⟩ _) (grown_setCell _ ⟨C, 3 + m * 2, none⟩ _)) (grown_setCell _ ⟨C, 3 + m * 2 + 1, none⟩ _)) (grown_alloc _ _ _)) (grown_drew _ _)⟩

set_option maxHeartbeats 400000 in
theorem work_stop (C : Nat) (a p q n : Int) (dv : Value) (b : Nat) (x : Wk) (w : World) (hx : WorkAt w C dv b x) (hn : x.nx < 100) :
    Calls Tryd.prog 111 #[.pointer (some ⟨C, 0, none⟩), .agg #[.int .i64 8, .int .i64 a, .int .i64 p, .int .i64 q, .int .i64 n]] w fun e w' => e = .returned (.tuple #[]) ∧ WorkAt w' C dv b (runW ⟨8, a, p, q, n⟩ x) ∧ w.grownBy w' (some C) := by
  have hC := hx.lt
  have h2 := hx.place
  have hf := hx.free
  have hne : ¬ C = w.heap.size := by omega
  go_enter Tryd.func111, Tryd.ntmps111
  go_wp2_with fail
  go_end0
  rw [castN]
  exact ⟨rfl, (hx.setNext (x.nx + 1)).alloc _, grown_trans (grown_setCell w ⟨C, 2, none⟩ _) (grown_alloc _ _ _)⟩

set_option maxHeartbeats 400000 in
theorem work_skip (C m l : Nat) (q n : Int) (dv : Value) (b : Nat) (x : Wk) (w : World) (hx : WorkAt w C dv b x) (hm : m < 4) (hl : l < 14) (hn : x.nx < 100) :
    Calls Tryd.prog 111 #[.pointer (some ⟨C, 0, none⟩), .agg #[.int .i64 9, .int .i64 m, .int .i64 l, .int .i64 q, .int .i64 n]] w fun e w' => e = .returned (.tuple #[]) ∧ WorkAt w' C dv b (runW ⟨9, m, l, q, n⟩ x) ∧ w.grownBy w' (some C) := by
  have hC := hx.lt
  have h2 := hx.place
  have hm' := hx.reg m hm
  have hf := hx.free
  have p1 : (m : Int) < 4 := by omega
  have p2 : (l : Int) < 14 := by omega
  have hne : ¬ C = w.heap.size := by omega
  by_cases h0 : x.regs m = 0
  · have t0 : (x.regs m == 0) = true := by simp [h0]
    have hS : Hid (runW ⟨9, m, l, q, n⟩ x = ⟨x.nx + 1 + l, x.is, x.n, x.regs, x.code, x.over⟩) := by show _ = _; simp [runW, h0]
    have hc : Hid (((x.nx : Int) + 1 + l) = ((x.nx + 1 + l : Nat) : Int)) := by show _ = _; omega
    clear h0
    go_enter Tryd.func111, Tryd.ntmps111
    go_wp2_with fail
    go_quiet (fail)
    go_wp2_with fail
    go_region
    go_wp2_with fail
    go_end0
    rw [hc.out, hS.out, castN]
    exact ⟨rfl, (((hx.setNext (x.nx + 1)).alloc _).drewN _).setNext (x.nx + 1 + l), grown_trans (grown_trans (grown_trans (grown_setCell w ⟨C, 2, none⟩ _) (grown_alloc _ _ _)) (grown_drewN _ _ _)) (grown_setCell _ ⟨C, 2, none⟩ _)⟩
  · have t0 : (x.regs m == 0) = false := by simp [h0]
    have hS : Hid (runW ⟨9, m, l, q, n⟩ x = ⟨x.nx + 1, x.is, x.n, x.regs, x.code, x.over⟩) := by show _ = _; simp [runW, h0]
    clear h0
    go_enter Tryd.func111, Tryd.ntmps111
    go_wp2_with fail
    go_quiet (fail)
    go_wp2_with fail
    go_end0
    rw [castN, hS.out]
    exact ⟨rfl, ((hx.setNext (x.nx + 1)).alloc _).drewN _, grown_trans (grown_trans (grown_setCell w ⟨C, 2, none⟩ _) (grown_alloc _ _ _)) (grown_drewN _ _ _)⟩

set_option maxRecDepth 100000 in
set_option maxHeartbeats 1000000 in
theorem work_arith (k : Int) (hk : k = 3 ∨ k = 4 ∨ k = 5 ∨ k = 6) (C m l q : Nat) (n : Int) (dv : Value) (b : Nat) (x : Wk) (w : World) (hx : WorkAt w C dv b x) (hm : m < 4) (hl : l < 4) (hq : q < 4) (hn : x.nx < 100) :
    Calls Tryd.prog 111 #[.pointer (some ⟨C, 0, none⟩), .agg #[.int .i64 k, .int .i64 m, .int .i64 l, .int .i64 q, .int .i64 n]] w fun e w' => e = .returned (.tuple #[]) ∧ WorkAt w' C dv b (runW ⟨k, m, l, q, n⟩ x) ∧ w.grownBy w' (some C) := by
  have hC := hx.lt
  have h2 := hx.place
  have hm' := hx.reg m hm
  have hl' := hx.reg l hl
  have hq' := hx.reg q hq
  have hf := hx.free
  have p1 : (m : Int) < 4 := by omega
  have p2 : (l : Int) < 4 := by omega
  have p3 : (q : Int) < 4 := by omega
  have hne : ¬ C = w.heap.size := by omega
  have hS : Hid (runW ⟨k, m, l, q, n⟩ x = ⟨x.nx + 1, x.is, x.n, putAt x.regs m (arithF k (x.regs l) (x.regs q)), x.code, x.over⟩) := by
    show _ = _
    unfold runW
    dsimp only
    rw [if_neg (by omega), if_neg (by omega), if_neg (by omega), if_pos hk]; simp
  rcases hk with rfl | rfl | rfl | rfl
  · go_enter Tryd.func111, Tryd.ntmps111
    go_wp2_with fail
    obtain ⟨W, hWe⟩ : ∃ W, W = (w.setCell ⟨C, 2, none⟩ (.int .i64 ((x.nx : Int) + 1))).alloc (.cells #[.int .i64 3, .int .i64 m, .int .i64 l, .int .i64 q, .int .i64 n] 63) := ⟨_, rfl⟩
    have hxW : WorkAt W C dv b ⟨x.nx + 1, x.is, x.n, x.regs, x.code, x.over⟩ := by rw [hWe, castN]; exact (hx.setNext (x.nx + 1)).alloc _
    have hgW : w.grownBy W (some C) := by rw [hWe]; exact grown_trans (grown_setCell w ⟨C, 2, none⟩ _) (grown_alloc _ _ _)
    have g0 : W.cell? ⟨w.heap.size, 0, none⟩ = some (.int .i64 3) := by rw [hWe]; go_simp
    have g1 : W.cell? ⟨w.heap.size, 1, none⟩ = some (.int .i64 m) := by rw [hWe]; go_simp
    have g2 : W.cell? ⟨w.heap.size, 2, none⟩ = some (.int .i64 l) := by rw [hWe]; go_simp
    have g3 : W.cell? ⟨w.heap.size, 3, none⟩ = some (.int .i64 q) := by rw [hWe]; go_simp
    have g4 := hxW.reg m hm
    have g5 := hxW.reg l hl
    have g6 := hxW.reg q hq
    have g7 := hxW.free
    rw [← hWe]
    clear hWe
    refine wp_region_still_tail 20 (by kernel_rfl) (by kernel_rfl) ?_
    simp only [List.take_succ_cons, List.take_zero, List.drop_succ_cons, List.drop_zero]
    repeat (first | still_step | still_call (arith_any _ _ _ _))
    refine wpStill_nil ?_
    go_wp2_with fail
    go_end0
    rw [hS.out]
    exact ⟨rfl, (hxW.setReg hm _).drew, grown_trans (grown_trans hgW (grown_setCell _ ⟨C, 24 + m, none⟩ _)) (grown_drew _ _)⟩
  · go_enter Tryd.func111, Tryd.ntmps111
    go_wp2_with fail
    obtain ⟨W, hWe⟩ : ∃ W, W = (w.setCell ⟨C, 2, none⟩ (.int .i64 ((x.nx : Int) + 1))).alloc (.cells #[.int .i64 4, .int .i64 m, .int .i64 l, .int .i64 q, .int .i64 n] 63) := ⟨_, rfl⟩
    have hxW : WorkAt W C dv b ⟨x.nx + 1, x.is, x.n, x.regs, x.code, x.over⟩ := by rw [hWe, castN]; exact (hx.setNext (x.nx + 1)).alloc _
    have hgW : w.grownBy W (some C) := by rw [hWe]; exact grown_trans (grown_setCell w ⟨C, 2, none⟩ _) (grown_alloc _ _ _)
    have g0 : W.cell? ⟨w.heap.size, 0, none⟩ = some (.int .i64 4) := by rw [hWe]; go_simp
    have g1 : W.cell? ⟨w.heap.size, 1, none⟩ = some (.int .i64 m) := by rw [hWe]; go_simp
    have g2 : W.cell? ⟨w.heap.size, 2, none⟩ = some (.int .i64 l) := by rw [hWe]; go_simp
    have g3 : W.cell? ⟨w.heap.size, 3, none⟩ = some (.int .i64 q) := by rw [hWe]; go_simp
    have g4 := hxW.reg m hm
    have g5 := hxW.reg l hl
    have g6 := hxW.reg q hq
    have g7 := hxW.free
    rw [← hWe]
    clear hWe
    refine wp_region_still_tail 20 (by kernel_rfl) (by kernel_rfl) ?_
    simp only [List.take_succ_cons, List.take_zero, List.drop_succ_cons, List.drop_zero]
    repeat (first | still_step | still_call (arith_any _ _ _ _))
    refine wpStill_nil ?_
    go_wp2_with fail
    go_end0
    rw [hS.out]
    exact ⟨rfl, (hxW.setReg hm _).drew, grown_trans (grown_trans hgW (grown_setCell _ ⟨C, 24 + m, none⟩ _)) (grown_drew _ _)⟩
  · go_enter Tryd.func111, Tryd.ntmps111
    go_wp2_with fail
    obtain ⟨W, hWe⟩ : ∃ W, W = (w.setCell ⟨C, 2, none⟩ (.int .i64 ((x.nx : Int) + 1))).alloc (.cells #[.int .i64 5, .int .i64 m, .int .i64 l, .int .i64 q, .int .i64 n] 63) := ⟨_, rfl⟩
    have hxW : WorkAt W C dv b ⟨x.nx + 1, x.is, x.n, x.regs, x.code, x.over⟩ := by rw [hWe, castN]; exact (hx.setNext (x.nx + 1)).alloc _
    have hgW : w.grownBy W (some C) := by rw [hWe]; exact grown_trans (grown_setCell w ⟨C, 2, none⟩ _) (grown_alloc _ _ _)
    have g0 : W.cell? ⟨w.heap.size, 0, none⟩ = some (.int .i64 5) := by rw [hWe]; go_simp
    have g1 : W.cell? ⟨w.heap.size, 1, none⟩ = some (.int .i64 m) := by rw [hWe]; go_simp
    have g2 : W.cell? ⟨w.heap.size, 2, none⟩ = some (.int .i64 l) := by rw [hWe]; go_simp
    have g3 : W.cell? ⟨w.heap.size, 3, none⟩ = some (.int .i64 q) := by rw [hWe]; go_simp
    have g4 := hxW.reg m hm
    have g5 := hxW.reg l hl
    have g6 := hxW.reg q hq
    have g7 := hxW.free
    rw [← hWe]
    clear hWe
    refine wp_region_still_tail 20 (by kernel_rfl) (by kernel_rfl) ?_
    simp only [List.take_succ_cons, List.take_zero, List.drop_succ_cons, List.drop_zero]
    repeat (first | still_step | still_call (arith_any _ _ _ _))
    refine wpStill_nil ?_
    go_wp2_with fail
    go_end0
    rw [hS.out]
    exact ⟨rfl, (hxW.setReg hm _).drew, grown_trans (grown_trans hgW (grown_setCell _ ⟨C, 24 + m, none⟩ _)) (grown_drew _ _)⟩
  · go_enter Tryd.func111, Tryd.ntmps111
    go_wp2_with fail
    obtain ⟨W, hWe⟩ : ∃ W, W = (w.setCell ⟨C, 2, none⟩ (.int .i64 ((x.nx : Int) + 1))).alloc (.cells #[.int .i64 6, .int .i64 m, .int .i64 l, .int .i64 q, .int .i64 n] 63) := ⟨_, rfl⟩
    have hxW : WorkAt W C dv b ⟨x.nx + 1, x.is, x.n, x.regs, x.code, x.over⟩ := by rw [hWe, castN]; exact (hx.setNext (x.nx + 1)).alloc _
    have hgW : w.grownBy W (some C) := by rw [hWe]; exact grown_trans (grown_setCell w ⟨C, 2, none⟩ _) (grown_alloc _ _ _)
    have g0 : W.cell? ⟨w.heap.size, 0, none⟩ = some (.int .i64 6) := by rw [hWe]; go_simp
    have g1 : W.cell? ⟨w.heap.size, 1, none⟩ = some (.int .i64 m) := by rw [hWe]; go_simp
    have g2 : W.cell? ⟨w.heap.size, 2, none⟩ = some (.int .i64 l) := by rw [hWe]; go_simp
    have g3 : W.cell? ⟨w.heap.size, 3, none⟩ = some (.int .i64 q) := by rw [hWe]; go_simp
    have g4 := hxW.reg m hm
    have g5 := hxW.reg l hl
    have g6 := hxW.reg q hq
    have g7 := hxW.free
    rw [← hWe]
    clear hWe
    refine wp_region_still_tail 20 (by kernel_rfl) (by kernel_rfl) ?_
    simp only [List.take_succ_cons, List.take_zero, List.drop_succ_cons, List.drop_zero]
    repeat (first | still_step | still_call (arith_any _ _ _ _))
    refine wpStill_nil ?_
    go_wp2_with fail
    go_end0
    rw [hS.out]
    exact ⟨rfl, (hxW.setReg hm _).drew, grown_trans (grown_trans hgW (grown_setCell _ ⟨C, 24 + m, none⟩ _)) (grown_drew _ _)⟩
end Go.Proofs.YtihfjmdjjeciiacDoor
