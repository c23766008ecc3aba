/-
  The walks of a worker's run, kind by kind. The walks of a worker's load, end and Result. The walk of a worker's Step.
-/
import Derived.Test.YtehkjbpgibdgpadGreatDoorJqWo
import Derived.Test.YtehkjbpgibdgpadGreatDoorJqSe
import Derived.Test.YtehkjbpgibdgpadGreatDoorJqTb
import Derived.Deep.CutRange
namespace Go.Proofs.YtehkjbpgibdgpadGreatDoor
open Go.RowKit Go.Shelf

theorem castN (n : Nat) : ((n : Int) + 1) = ((n + 1 : Nat) : Int) := by omega

set_option maxHeartbeats 400000 in
theorem work_num (C m : Nat) (p q n : Int) (dv : Value) (b : Nat) (x : Wk) (w : World) (hx : WorkAt w C dv b x) (hm : m < 4) (hn : x.nx < 100) :
    Calls Tryz.prog 191 #[.pointer (some ⟨C, 0, none⟩), .agg #[.int .i64 1, .int .i64 m, .int .i64 p, .int .i64 q, .int .i64 n]] w fun e w' => e = .returned (.tuple #[]) ∧ WorkAt w' C dv b (runW ⟨1, m, p, q, n⟩ x) ∧ w.grownBy w' (some C) := by
  have hC := hx.lt
  have h2 := hx.place
  have hm' := hx.reg m hm
  have hf := hx.free
  have p1 : (m : Int) < 4 := by omega
  have hne : ¬ C = w.heap.size := by omega
  go_enter Tryz.func191, Tryz.ntmps191
  go_wp2_with fail
  go_region
  go_wp2_with fail
  go_end0
  rw [castN]
  exact ⟨rfl, (((hx.setNext (x.nx + 1)).setReg hm n).alloc _).drew, grown_trans (grown_trans (grown_trans (grown_setCell w ⟨C, 2, none⟩ _) (grown_setCell _ ⟨C, 24 + m, none⟩ _)) (grown_alloc _ _ _)) (grown_drew _ _)⟩

set_option maxHeartbeats 400000 in
theorem work_store (C m l : Nat) (q n : Int) (dv : Value) (b : Nat) (x : Wk) (w : World) (hx : WorkAt w C dv b x) (hm : m < 10) (hl : l < 4) (hn : x.nx < 100) :
    Calls Tryz.prog 191 #[.pointer (some ⟨C, 0, none⟩), .agg #[.int .i64 7, .int .i64 m, .int .i64 l, .int .i64 q, .int .i64 n]] w fun e w' => e = .returned (.tuple #[]) ∧ WorkAt w' C dv b (runW ⟨7, m, l, q, n⟩ x) ∧ w.grownBy w' (some C) := by
  have hC := hx.lt
  have h2 := hx.place
  have hm' := hx.sto m hm
  have hm'' := hx.is m hm
  have hl' := hx.reg l hl
  have hf := hx.free
  have p1 : (m : Int) < 10 := by omega
  have p2 : (l : Int) < 4 := by omega
  have hne : ¬ C = w.heap.size := by omega
  go_enter Tryz.func191, Tryz.ntmps191
  go_wp2_with fail
  go_region
  go_wp2_with fail
  go_end0
  rw [castN]
  exact ⟨rfl, (((hx.setNext (x.nx + 1)).setSto hm (x.regs l)).alloc _).drew, grown_trans (grown_trans (grown_trans (grown_trans (grown_setCell w ⟨C, 2, none⟩ _) (grown_setCell _ ⟨C, 3 + m * 2, none⟩ _)) (grown_setCell _ ⟨C, 3 + m * 2 + 1, none⟩ _)) (grown_alloc _ _ _)) (grown_drew _ _)⟩

set_option maxHeartbeats 400000 in
theorem work_stop (C : Nat) (a p q n : Int) (dv : Value) (b : Nat) (x : Wk) (w : World) (hx : WorkAt w C dv b x) (hn : x.nx < 100) :
    Calls Tryz.prog 191 #[.pointer (some ⟨C, 0, none⟩), .agg #[.int .i64 8, .int .i64 a, .int .i64 p, .int .i64 q, .int .i64 n]] w fun e w' => e = .returned (.tuple #[]) ∧ WorkAt w' C dv b (runW ⟨8, a, p, q, n⟩ x) ∧ w.grownBy w' (some C) := by
  have hC := hx.lt
  have h2 := hx.place
  have hf := hx.free
  have hne : ¬ C = w.heap.size := by omega
  go_enter Tryz.func191, Tryz.ntmps191
  go_wp2_with fail
  go_end0
  rw [castN]
  exact ⟨rfl, (hx.setNext (x.nx + 1)).alloc _, grown_trans (grown_setCell w ⟨C, 2, none⟩ _) (grown_alloc _ _ _)⟩

set_option maxHeartbeats 400000 in
theorem work_skip (C m l : Nat) (q n : Int) (dv : Value) (b : Nat) (x : Wk) (w : World) (hx : WorkAt w C dv b x) (hm : m < 4) (hl : l < 14) (hn : x.nx < 100) :
    Calls Tryz.prog 191 #[.pointer (some ⟨C, 0, none⟩), .agg #[.int .i64 9, .int .i64 m, .int .i64 l, .int .i64 q, .int .i64 n]] w fun e w' => e = .returned (.tuple #[]) ∧ WorkAt w' C dv b (runW ⟨9, m, l, q, n⟩ x) ∧ w.grownBy w' (some C) := by
  have hC := hx.lt
  have h2 := hx.place
  have hm' := hx.reg m hm
  have hf := hx.free
  have p1 : (m : Int) < 4 := by omega
  have p2 : (l : Int) < 14 := by omega
  have hne : ¬ C = w.heap.size := by omega
  by_cases h0 : x.regs m = 0
  · have t0 : (x.regs m == 0) = true := by simp [h0]
    have hS : Hid (runW ⟨9, m, l, q, n⟩ x = ⟨x.nx + 1 + l, x.is, x.n, x.regs, x.code, x.over⟩) := by show _ = _; simp [runW, h0]
    have hc : Hid (((x.nx : Int) + 1 + l) = ((x.nx + 1 + l : Nat) : Int)) := by show _ = _; omega
    clear h0
    go_enter Tryz.func191, Tryz.ntmps191
    go_wp2_with fail
    go_quiet (fail)
    go_wp2_with fail
    go_region
    go_wp2_with fail
    go_end0
    rw [hc.out, hS.out, castN]
    exact ⟨rfl, (((hx.setNext (x.nx + 1)).alloc _).drewN _).setNext (x.nx + 1 + l), grown_trans (grown_trans (grown_trans (grown_setCell w ⟨C, 2, none⟩ _) (grown_alloc _ _ _)) (grown_drewN _ _ _)) (grown_setCell _ ⟨C, 2, none⟩ _)⟩
  · have t0 : (x.regs m == 0) = false := by simp [h0]
    have hS : Hid (runW ⟨9, m, l, q, n⟩ x = ⟨x.nx + 1, x.is, x.n, x.regs, x.code, x.over⟩) := by show _ = _; simp [runW, h0]
    clear h0
    go_enter Tryz.func191, Tryz.ntmps191
    go_wp2_with fail
    go_quiet (fail)
    go_wp2_with fail
    go_end0
    rw [castN, hS.out]
    exact ⟨rfl, ((hx.setNext (x.nx + 1)).alloc _).drewN _, grown_trans (grown_trans (grown_setCell w ⟨C, 2, none⟩ _) (grown_alloc _ _ _)) (grown_drewN _ _ _)⟩

set_option maxRecDepth 100000 in
set_option maxHeartbeats 1000000 in
theorem work_arith (k : Int) (hk : k = 3 ∨ k = 4 ∨ k = 5 ∨ k = 6) (C m l q : Nat) (n : Int) (dv : Value) (b : Nat) (x : Wk) (w : World) (hx : WorkAt w C dv b x) (hm : m < 4) (hl : l < 4) (hq : q < 4) (hn : x.nx < 100) :
    Calls Tryz.prog 191 #[.pointer (some ⟨C, 0, none⟩), .agg #[.int .i64 k, .int .i64 m, .int .i64 l, .int .i64 q, .int .i64 n]] w fun e w' => e = .returned (.tuple #[]) ∧ WorkAt w' C dv b (runW ⟨k, m, l, q, n⟩ x) ∧ w.grownBy w' (some C) := by
  have hC := hx.lt
  have h2 := hx.place
  have hm' := hx.reg m hm
  have hl' := hx.reg l hl
  have hq' := hx.reg q hq
  have hf := hx.free
  have p1 : (m : Int) < 4 := by omega
  have p2 : (l : Int) < 4 := by omega
  have p3 : (q : Int) < 4 := by omega
  have hne : ¬ C = w.heap.size := by omega
  have hS : Hid (runW ⟨k, m, l, q, n⟩ x = ⟨x.nx + 1, x.is, x.n, putAt x.regs m (arithF k (x.regs l) (x.regs q)), x.code, x.over⟩) := by
    show _ = _
    unfold runW
    dsimp only
    rw [if_neg (by omega), if_neg (by omega), if_neg (by omega), if_pos hk]; simp
  rcases hk with rfl | rfl | rfl | rfl
  · go_enter Tryz.func191, Tryz.ntmps191
    go_wp2_with fail
    obtain ⟨W, hWe⟩ : ∃ W, W = (w.setCell ⟨C, 2, none⟩ (.int .i64 ((x.nx : Int) + 1))).alloc (.cells #[.int .i64 3, .int .i64 m, .int .i64 l, .int .i64 q, .int .i64 n] 121) := ⟨_, rfl⟩
    have hxW : WorkAt W C dv b ⟨x.nx + 1, x.is, x.n, x.regs, x.code, x.over⟩ := by rw [hWe, castN]; exact (hx.setNext (x.nx + 1)).alloc _
    have hgW : w.grownBy W (some C) := by rw [hWe]; exact grown_trans (grown_setCell w ⟨C, 2, none⟩ _) (grown_alloc _ _ _)
    have g0 : W.cell? ⟨w.heap.size, 0, none⟩ = some (.int .i64 3) := by rw [hWe]; go_simp
    have g1 : W.cell? ⟨w.heap.size, 1, none⟩ = some (.int .i64 m) := by rw [hWe]; go_simp
    have g2 : W.cell? ⟨w.heap.size, 2, none⟩ = some (.int .i64 l) := by rw [hWe]; go_simp
    have g3 : W.cell? ⟨w.heap.size, 3, none⟩ = some (.int .i64 q) := by rw [hWe]; go_simp
    have g4 := hxW.reg m hm
    have g5 := hxW.reg l hl
    have g6 := hxW.reg q hq
    have g7 := hxW.free
    rw [← hWe]
    clear hWe
    refine wp_region_still_tail 20 (by kernel_rfl) (by kernel_rfl) ?_
    simp only [List.take_succ_cons, List.take_zero, List.drop_succ_cons, List.drop_zero]
    repeat (first | still_step | still_call (arith_any _ _ _ _))
    refine wpStill_nil ?_
    go_wp2_with fail
    go_end0
    rw [hS.out]
    exact ⟨rfl, (hxW.setReg hm _).drew, grown_trans (grown_trans hgW (grown_setCell _ ⟨C, 24 + m, none⟩ _)) (grown_drew _ _)⟩
  · go_enter Tryz.func191, Tryz.ntmps191
    go_wp2_with fail
    obtain ⟨W, hWe⟩ : ∃ W, W = (w.setCell ⟨C, 2, none⟩ (.int .i64 ((x.nx : Int) + 1))).alloc (.cells #[.int .i64 4, .int .i64 m, .int .i64 l, .int .i64 q, .int .i64 n] 121) := ⟨_, rfl⟩
    have hxW : WorkAt W C dv b ⟨x.nx + 1, x.is, x.n, x.regs, x.code, x.over⟩ := by rw [hWe, castN]; exact (hx.setNext (x.nx + 1)).alloc _
    have hgW : w.grownBy W (some C) := by rw [hWe]; exact grown_trans (grown_setCell w ⟨C, 2, none⟩ _) (grown_alloc _ _ _)
    have g0 : W.cell? ⟨w.heap.size, 0, none⟩ = some (.int .i64 4) := by rw [hWe]; go_simp
    have g1 : W.cell? ⟨w.heap.size, 1, none⟩ = some (.int .i64 m) := by rw [hWe]; go_simp
    have g2 : W.cell? ⟨w.heap.size, 2, none⟩ = some (.int .i64 l) := by rw [hWe]; go_simp
    have g3 : W.cell? ⟨w.heap.size, 3, none⟩ = some (.int .i64 q) := by rw [hWe]; go_simp
    have g4 := hxW.reg m hm
    have g5 := hxW.reg l hl
    have g6 := hxW.reg q hq
    have g7 := hxW.free
    rw [← hWe]
    clear hWe
    refine wp_region_still_tail 20 (by kernel_rfl) (by kernel_rfl) ?_
    simp only [List.take_succ_cons, List.take_zero, List.drop_succ_cons, List.drop_zero]
    repeat (first | still_step | still_call (arith_any _ _ _ _))
    refine wpStill_nil ?_
    go_wp2_with fail
    go_end0
    rw [hS.out]
    exact ⟨rfl, (hxW.setReg hm _).drew, grown_trans (grown_trans hgW (grown_setCell _ ⟨C, 24 + m, none⟩ _)) (grown_drew _ _)⟩
  · go_enter Tryz.func191, Tryz.ntmps191
    go_wp2_with fail
    obtain ⟨W, hWe⟩ : ∃ W, W = (w.setCell ⟨C, 2, none⟩ (.int .i64 ((x.nx : Int) + 1))).alloc (.cells #[.int .i64 5, .int .i64 m, .int .i64 l, .int .i64 q, .int .i64 n] 121) := ⟨_, rfl⟩
    have hxW : WorkAt W C dv b ⟨x.nx + 1, x.is, x.n, x.regs, x.code, x.over⟩ := by rw [hWe, castN]; exact (hx.setNext (x.nx + 1)).alloc _
    have hgW : w.grownBy W (some C) := by rw [hWe]; exact grown_trans (grown_setCell w ⟨C, 2, none⟩ _) (grown_alloc _ _ _)
    have g0 : W.cell? ⟨w.heap.size, 0, none⟩ = some (.int .i64 5) := by rw [hWe]; go_simp
    have g1 : W.cell? ⟨w.heap.size, 1, none⟩ = some (.int .i64 m) := by rw [hWe]; go_simp
    have g2 : W.cell? ⟨w.heap.size, 2, none⟩ = some (.int .i64 l) := by rw [hWe]; go_simp
    have g3 : W.cell? ⟨w.heap.size, 3, none⟩ = some (.int .i64 q) := by rw [hWe]; go_simp
    have g4 := hxW.reg m hm
    have g5 := hxW.reg l hl
    have g6 := hxW.reg q hq
    have g7 := hxW.free
    rw [← hWe]
    clear hWe
    refine wp_region_still_tail 20 (by kernel_rfl) (by kernel_rfl) ?_
    simp only [List.take_succ_cons, List.take_zero, List.drop_succ_cons, List.drop_zero]
    repeat (first | still_step | still_call (arith_any _ _ _ _))
    refine wpStill_nil ?_
    go_wp2_with fail
    go_end0
    rw [hS.out]
    exact ⟨rfl, (hxW.setReg hm _).drew, grown_trans (grown_trans hgW (grown_setCell _ ⟨C, 24 + m, none⟩ _)) (grown_drew _ _)⟩
  · go_enter Tryz.func191, Tryz.ntmps191
    go_wp2_with fail
    obtain ⟨W, hWe⟩ : ∃ W, W = (w.setCell ⟨C, 2, none⟩ (.int .i64 ((x.nx : Int) + 1))).alloc (.cells #[.int .i64 6, .int .i64 m, .int .i64 l, .int .i64 q, .int .i64 n] 121) := ⟨_, rfl⟩
    have hxW : WorkAt W C dv b ⟨x.nx + 1, x.is, x.n, x.regs, x.code, x.over⟩ := by rw [hWe, castN]; exact (hx.setNext (x.nx + 1)).alloc _
    have hgW : w.grownBy W (some C) := by rw [hWe]; exact grown_trans (grown_setCell w ⟨C, 2, none⟩ _) (grown_alloc _ _ _)
    have g0 : W.cell? ⟨w.heap.size, 0, none⟩ = some (.int .i64 6) := by rw [hWe]; go_simp
    have g1 : W.cell? ⟨w.heap.size, 1, none⟩ = some (.int .i64 m) := by rw [hWe]; go_simp
    have g2 : W.cell? ⟨w.heap.size, 2, none⟩ = some (.int .i64 l) := by rw [hWe]; go_simp
    have g3 : W.cell? ⟨w.heap.size, 3, none⟩ = some (.int .i64 q) := by rw [hWe]; go_simp
    have g4 := hxW.reg m hm
    have g5 := hxW.reg l hl
    have g6 := hxW.reg q hq
    have g7 := hxW.free
    rw [← hWe]
    clear hWe
    refine wp_region_still_tail 20 (by kernel_rfl) (by kernel_rfl) ?_
    simp only [List.take_succ_cons, List.take_zero, List.drop_succ_cons, List.drop_zero]
    repeat (first | still_step | still_call (arith_any _ _ _ _))
    refine wpStill_nil ?_
    go_wp2_with fail
    go_end0
    rw [hS.out]
    exact ⟨rfl, (hxW.setReg hm _).drew, grown_trans (grown_trans hgW (grown_setCell _ ⟨C, 24 + m, none⟩ _)) (grown_drew _ _)⟩
end Go.Proofs.YtehkjbpgibdgpadGreatDoor
namespace Go.Proofs.YtehkjbpgibdgpadGreatDoor
open Go.RowKit Go.Shelf

theorem RowAt.kept {w w' : World} {B off : Nat} {l : List Slot4} (h : RowAt w B off l) (hb : w'.heap[B]? = w.heap[B]?) : RowAt w' B off l := by
  have hc : ∀ o, w'.cell? ⟨B, o, none⟩ = w.cell? ⟨B, o, none⟩ := fun o => World.cell?_of_block hb
  exact ⟨h.len, by rw [hc]; exact h.many, fun i hi => by rw [hc, hc, hc, hc]; exact h.cell i hi⟩
theorem TabAt.kept {w w' : World} {B : Nat} {T : Nat → List Slot4} (h : TabAt w B T) (hb : w'.heap[B]? = w.heap[B]?) : TabAt w' B T :=
  ⟨fun k hk => (h.row k hk).kept hb, fun o => (World.frozen?_of_block hb).trans (h.free o)⟩
theorem TabAt.grown {w w' : World} {B C : Nat} {T : Nat → List Slot4} (h : TabAt w B T) (hg : w.grownBy w' (some C)) (hn : B ≠ C) : TabAt w' B T := h.kept (hg.block B h.lt (fun e => hn (by cases e; rfl)))

set_option maxHeartbeats 1000000 in
theorem load_own (C B m l : Nat) (k q n : Int) (dv : Value) (b : Nat) (x : Wk) (w : World) (hx : WorkAt w C dv b x) (hm : m < 4) (hl : l < 10) (hn : x.nx < 100) (hi : x.is l = true) :
    Calls Tryz.prog 190 #[.pointer (some ⟨C, 0, none⟩), .pointer (some ⟨B, 0, none⟩), .agg #[.int .i64 k, .int .i64 m, .int .i64 l, .int .i64 q, .int .i64 n]] w fun e w' => e = .returned (.tuple #[.int .i64 1, .int .i64 (-1)]) ∧ WorkAt w' C dv b (loadW ⟨k, m, l, q, n⟩ (x.n l) x) ∧ w.grownBy w' (some C) := by
  have hC := hx.lt
  have h2 := hx.place
  have hm' := hx.reg m hm
  have hs := hx.sto l hl
  have his := hx.is l hl
  rw [hi] at his
  have hf := hx.free
  have p1 : (m : Int) < 4 := by omega
  have p2 : (l : Int) < 10 := by omega
  have hne : ¬ C = w.heap.size := by omega
  clear hi
  go_enter Tryz.func190, Tryz.ntmps190
  go_wp2_with fail
  go_quiet (fail)
  go_wp2_with fail
  go_quiet (fail)
  go_wp2_with fail
  go_region
  go_wp2_with fail
  rw [castN]
  go_ret2
  exact ⟨rfl, (((hx.alloc _).drewN _).setReg hm _).setNext (x.nx + 1), grown_trans (grown_trans (grown_trans (grown_alloc w _ _) (grown_drewN _ _ _)) (grown_setCell _ ⟨C, 24 + m, none⟩ _)) (grown_setCell _ ⟨C, 2, none⟩ _)⟩

set_option maxHeartbeats 1000000 in
theorem load_waits (C B m l : Nat) (k q n v who : Int) (dv : Value) (b : Nat) (x : Wk) (T : Nat → List Slot4) (w : World) (hx : WorkAt w C dv b x) (hT : TabAt w B T) (hl : l < 10) (hi : x.is l = false) (hb : beforeT T (l : Int) (b : Int) = (v, who)) (hw : 0 ≤ who) :
    Calls Tryz.prog 190 #[.pointer (some ⟨C, 0, none⟩), .pointer (some ⟨B, 0, none⟩), .agg #[.int .i64 k, .int .i64 m, .int .i64 l, .int .i64 q, .int .i64 n]] w fun e w' => e = .returned (.tuple #[.int .i64 2, .int .i64 who]) ∧ Below w.heap.size w w' := by
  have hC := hx.lt
  have h1 := hx.num
  have hs := hx.sto l hl
  have his := hx.is l hl
  rw [hi] at his
  have p2 : (l : Int) < 10 := by omega
  have hne : ¬ C = w.heap.size := by omega
  have hT1 : TabAt (w.alloc (.cells #[.int .i64 k, .int .i64 m, .int .i64 l, .int .i64 q, .int .i64 n] 121)) B T := hT.later ((Below.refl _ _).alloc (Nat.le_refl _) _)
  have hbf := fun w' (h : TabAt w' B T) => before_any B (l : Int) (b : Int) T w' h
  rw [hb] at hbf
  have HBF : Hid _ := hbf
  clear hi hb hbf
  go_enter Tryz.func190, Tryz.ntmps190
  go_wp2_with fail
  go_quiet (fail)
  go_wp2_with fail
  go_quiet (fail)
  go_wp2_with fail
  go_region_with (go_at_call 196; refine (HBF.out _ (by exact hT1.kept rfl)).mono ?_; rintro e w1 ⟨rfl, hb1⟩)
  all_goals go_wp2_with fail
  all_goals go_ret2
  all_goals exact ⟨rfl, (drewN_below ((Below.refl _ w).alloc (Nat.le_refl _) _) _).trans (hb1.mono (by simp))⟩

set_option maxHeartbeats 1000000 in
theorem load_ahead (C B m l : Nat) (k q n v who : Int) (dv : Value) (b : Nat) (x : Wk) (T : Nat → List Slot4) (w : World) (hx : WorkAt w C dv b x) (hT : TabAt w B T) (hm : m < 4) (hl : l < 10) (hn : x.nx < 100) (hi : x.is l = false) (hb : beforeT T (l : Int) (b : Int) = (v, who)) (hw : ¬ 0 ≤ who) :
    Calls Tryz.prog 190 #[.pointer (some ⟨C, 0, none⟩), .pointer (some ⟨B, 0, none⟩), .agg #[.int .i64 k, .int .i64 m, .int .i64 l, .int .i64 q, .int .i64 n]] w fun e w' => e = .returned (.tuple #[.int .i64 1, .int .i64 (-1)]) ∧ WorkAt w' C dv b (loadW ⟨k, m, l, q, n⟩ v x) ∧ w.grownBy w' (some C) := by
  have hC := hx.lt
  have h1 := hx.num
  have hs := hx.sto l hl
  have his := hx.is l hl
  rw [hi] at his
  have p1 : (m : Int) < 4 := by omega
  have p2 : (l : Int) < 10 := by omega
  have hne : ¬ C = w.heap.size := by omega
  have hT1 : TabAt (w.alloc (.cells #[.int .i64 k, .int .i64 m, .int .i64 l, .int .i64 q, .int .i64 n] 121)) B T := hT.later ((Below.refl _ _).alloc (Nat.le_refl _) _)
  have hbf := fun w' (h : TabAt w' B T) => before_any B (l : Int) (b : Int) T w' h
  rw [hb] at hbf
  have HBF : Hid _ := hbf
  have g1 : (w.alloc (.cells #[.int .i64 k, .int .i64 m, .int .i64 l, .int .i64 q, .int .i64 n] 121)).cell? ⟨w.heap.size, 1, none⟩ = some (.int .i64 m) := by go_simp
  clear hi hb hbf
  go_enter Tryz.func190, Tryz.ntmps190
  go_wp2_with fail
  go_quiet (fail)
  go_wp2_with fail
  go_quiet (fail)
  go_wp2_with fail
  go_cut [9, 10] from 28 (fun c c' wc => c = .int .i64 v ∧ c' = .int .i64 who ∧ Below (w.alloc (.cells #[.int .i64 k, .int .i64 m, .int .i64 l, .int .i64 q, .int .i64 n] 121)).heap.size (w.alloc (.cells #[.int .i64 k, .int .i64 m, .int .i64 l, .int .i64 q, .int .i64 n] 121)) wc)
  case first =>
    go_region_with (go_at_call 196; refine (HBF.out _ (by exact hT1.kept rfl)).mono ?_; rintro e w1 ⟨rfl, hb1⟩)
    all_goals go_wp2_with fail
    all_goals go_meet
    all_goals exact ⟨rfl, rfl, (drewN_below (Below.refl _ _) _).trans hb1⟩
  case rest =>
    obtain ⟨rfl, rfl, hbc⟩ := hcut
    have hxc : WorkAt wc C dv b x := (hx.alloc _).later hbc
    have h2 := hxc.place
    have hm' := hxc.reg m hm
    have hf := hxc.free
    have gc := cell_later hbc g1
    have hgc : w.grownBy wc (some C) := grown_trans (grown_alloc w _ _) (below_grown hbc _)
    have hz : w.heap.size < wc.heap.size := by have := hbc.size; simp at this; omega
    clear hbc g1 hT1
    go_wp2_with fail
    go_region
    go_wp2_with fail
    rw [castN]
    go_ret2
    exact ⟨rfl, ((hxc.drew).setReg hm _).setNext (x.nx + 1), grown_trans (grown_trans (grown_trans hgc (grown_drew _ _)) (grown_setCell _ ⟨C, 24 + m, none⟩ _)) (grown_setCell _ ⟨C, 2, none⟩ _)⟩

theorem endTo_take (T : Nat → List Slot4) (x : Wk) (b : Int) {ks : List Nat} {m : Nat} (hm : m < ks.length) : endTo T x b (ks.take (m + 1)) = settleT (endTo T x b (ks.take m)) (ks[m] : Int) (endOf x b ks[m]) := by
  unfold endTo
  rw [List.take_succ_eq_append_getElem hm, List.foldl_append]
  rfl

set_option maxHeartbeats 1000000 in
theorem end_any (C B b : Nat) (c : Int) (dv : Value) (d : List Op5) (x : Wk) (T : Nat → List Slot4) (w : World) (hx : WorkAt w C dv b x) (hT : TabAt w B T) (hne : C ≠ B) (hd : DeedAt w dv d) (hlen : d.length ≤ 14) :
    Calls Tryz.prog 189 #[.pointer (some ⟨C, 0, none⟩), .pointer (some ⟨B, 0, none⟩), .int .i64 c] w fun e w' => e = .returned (.tuple #[.int .i64 3, .int .i64 (-1)]) ∧ WorkAt w' C dv b (overW x c) ∧ TabAt w' B (endTo T x (b : Int) (keysF d)) ∧ Grew (fun k => k = B ∨ k = C) w w' := by
  have hkeys := keys_any dv d w hd hlen
  obtain ⟨ks, hks⟩ : ∃ ks, ks = keysF d := ⟨_, rfl⟩
  have hk10 : ∀ i (h : i < ks.length), ks[i] < 10 := fun i h => keysF_lt (d := d) (by rw [← hks]; exact List.getElem_mem h)
  have hkl : ks.length ≤ 10 := by
    rw [hks, keysF]
    have := List.length_filter_le (storesF d) (List.range 10)
    simpa using this
  rw [← hks] at hkeys ⊢
  have c0 := hx.deed
  have hBz := hT.lt
  obtain ⟨da, dcap, rfl, -⟩ := hd
  clear hks
  go_enter Tryz.func189, Tryz.ntmps189
  go_wp2_with fail
  refine hkeys.mono ?_
  clear hkeys
  rintro e w2 ⟨⟨u, rfl, hown⟩, hb2⟩
  have hK : KeysAt w2 B u ks := keysAt_of_owns hown hBz
  have hT2 : TabAt w2 B (endTo T x (b : Int) (ks.take 0)) := hT.later hb2
  have hx2 := hx.later hb2
  clear hT hx hown c0
  obtain ⟨ua, ucap, rfl, hcell⟩ := hK
  have hK : KeysAt w2 B (.slice ua ks.length ucap) ks := ⟨ua, ucap, rfl, hcell⟩
  clear hcell
  go_wp2_with fail
  go_loopg [17] ks.length (fun g i wr => ∃ m : Nat, m ≤ ks.length ∧ g = ks.length - m ∧ i = .int .i64 m ∧ KeysAt wr B (.slice ua ks.length ucap) ks ∧ TabAt wr B (endTo T x (b : Int) (ks.take m)) ∧ w2.grownBy wr (some B))
  case atStart => exact ⟨0, by omega, by omega, rfl, hK, hT2, ⟨rfl, rfl, rfl, Nat.le_refl _, fun _ _ _ => rfl⟩⟩
  case round =>
    clear hK hT2
    obtain ⟨m, hm, hg', rfl, hK, hT, hg⟩ := hrel
    have hxr := hx2.grown hg hne
    by_cases hml : m < ks.length
    · obtain ⟨ua', ucap', e1, hcell⟩ := hK
      obtain ⟨gg, hgB, e2, hcm⟩ := hcell m hml
      cases e1
      subst e2
      have hK : Hid (KeysAt wr B (.slice (some ⟨gg, 0, none⟩) ks.length ucap) ks) := ⟨_, ucap, rfl, hcell⟩
      have hkm := hk10 m hml
      have hki : (ks[m] : Int) < 10 := by omega
      have s1 := hxr.sto ks[m] hkm
      have s2 := hxr.is ks[m] hkm
      have s3 := hxr.num
      have hC := hxr.lt
      have htk := endTo_take T x (b : Int) hml
      have HT : Hid (endTo T x (b : Int) (ks.take (m + 1)) = settleT (endTo T x (b : Int) (ks.take m)) (ks[m] : Int) (endOf x (b : Int) ks[m])) := htk
      clear hcell htk
      cases hi : x.is ks[m] with
      | true =>
        rw [hi] at s2
        have he : Hid (endOf x (b : Int) ks[m] = ⟨(b : Int), false, false, x.n ks[m]⟩) := by show _ = _; unfold endOf; rw [if_pos hi]
        clear hi
        have hT1 : TabAt (wr.alloc (.cells #[.int .i64 (x.n ks[m]), .bool true] 250)) B (endTo T x (b : Int) (ks.take m)) := hT.later ((Below.refl _ _).alloc (Nat.le_refl _) _)
        go_wp2_with fail
        go_region_with (go_at_call 194; refine (set_any B (ks[m] : Int) (b : Int) (x.n ks[m]) _ _ (by exact hT1.kept rfl)).mono ?_; rintro e w3 ⟨rfl, hT3, hg3⟩)
        all_goals go_wp2_with fail
        all_goals go_roundg (ks.length - (m + 1))
        all_goals first | omega | exact ⟨m + 1, by omega, rfl, by go_num, hK.out.kept (grown_trans (grown_trans (grown_alloc wr _ _) (grown_drew _ _)) hg3), by rw [HT.out, he.out]; exact hT3, grown_trans hg (grown_trans (grown_trans (grown_alloc wr _ _) (grown_drew _ _)) hg3)⟩
      | false =>
        rw [hi] at s2
        have he : Hid (endOf x (b : Int) ks[m] = ⟨(b : Int), false, true, 0⟩) := by show _ = _; unfold endOf; rw [if_neg (by simp [hi])]
        clear hi
        have hT1 : TabAt (wr.alloc (.cells #[.int .i64 (x.n ks[m]), .bool false] 250)) B (endTo T x (b : Int) (ks.take m)) := hT.later ((Below.refl _ _).alloc (Nat.le_refl _) _)
        go_wp2_with fail
        refine (void_any B (ks[m] : Int) (b : Int) _ _ hT1).mono ?_
        rintro e w3 ⟨rfl, hT3, hg3⟩
        clear s1 s2 s3 hcm
        go_wp2_with fail
        go_roundg (ks.length - (m + 1))
        case measure => omega
        case rel => exact ⟨m + 1, by omega, rfl, by go_num, hK.out.kept (grown_trans (grown_alloc wr _ _) hg3), by rw [HT.out, he.out]; exact hT3, grown_trans hg (grown_trans (grown_alloc wr _ _) hg3)⟩
    · obtain rfl : m = ks.length := by omega
      rw [List.take_length] at hT
      have q1 := hxr.code
      have q2 := hxr.over
      have q3 := hxr.free
      clear hK
      go_wp2_with fail
      go_ret2
      have hgC : wr.grownBy ((wr.setCell ⟨C, 23, none⟩ (.int .i64 c)).setCell ⟨C, 28, none⟩ (.bool true)) (some C) := grown_trans (grown_setCell wr ⟨C, 23, none⟩ _) (grown_setCell _ ⟨C, 28, none⟩ _)
      exact ⟨rfl, hxr.setOver c, hT.grown hgC (fun e => hne e.symm), ((Grew.of_below hb2).trans (Grew.of_grown hg (Or.inl rfl))).trans (Grew.of_grown hgC (Or.inr rfl))⟩

theorem below_five {B : Nat} {w W : World} (h : Below B w W) {b : Nat} (h1 : B ≤ b) (x0 x1 x2 x3 x4 : Value) : Below B w (((((W.setCell ⟨b, 0, none⟩ x0).setCell ⟨b, 1, none⟩ x1).setCell ⟨b, 2, none⟩ x2).setCell ⟨b, 3, none⟩ x3).setCell ⟨b, 4, none⟩ x4) :=
  ((((h.setCell (p := ⟨b, 0, none⟩) h1 x0).setCell (p := ⟨b, 1, none⟩) h1 x1).setCell (p := ⟨b, 2, none⟩) h1 x2).setCell (p := ⟨b, 3, none⟩) h1 x3).setCell (p := ⟨b, 4, none⟩) h1 x4

set_option maxHeartbeats 400000 in
theorem result_not (C : Nat) (dv : Value) (b : Nat) (x : Wk) (w : World) (hx : WorkAt w C dv b x) (ho : x.over = false) :
    Calls Tryz.prog 177 #[.pointer (some ⟨C, 0, none⟩)] w fun e w' => e = .returned (.tuple #[resV 0 (fun _ => 0), .bool false]) ∧ Below w.heap.size w w' := by
  have h1 := hx.over
  rw [ho] at h1
  have hC := hx.lt
  clear ho
  go_enter Tryz.func177, Tryz.ntmps177
  go_wp2_with fail
  exact bodyPost_ret (v := .tuple #[resV 0 (fun _ => 0), .bool false]) (by simp [results, Tryz.results177, go_sem, resV]) rfl ⟨rfl, (Below.refl _ w).alloc (Nat.le_refl _) _⟩

set_option maxHeartbeats 400000 in
theorem result_over (C : Nat) (dv : Value) (b : Nat) (x : Wk) (w : World) (hx : WorkAt w C dv b x) (ho : x.over = true) :
    Calls Tryz.prog 177 #[.pointer (some ⟨C, 0, none⟩)] w fun e w' => e = .returned (.tuple #[resV x.code x.regs, .bool true]) ∧ Below w.heap.size w w' := by
  have h1 := hx.over
  rw [ho] at h1
  have hC := hx.lt
  have q0 := hx.code
  have q1 : w.cell? ⟨C, 24, none⟩ = some (.int .i64 (x.regs 0)) := hx.reg 0 (by omega)
  have q2 : w.cell? ⟨C, 25, none⟩ = some (.int .i64 (x.regs 1)) := hx.reg 1 (by omega)
  have q3 : w.cell? ⟨C, 26, none⟩ = some (.int .i64 (x.regs 2)) := hx.reg 2 (by omega)
  have q4 : w.cell? ⟨C, 27, none⟩ = some (.int .i64 (x.regs 3)) := hx.reg 3 (by omega)
  clear ho
  go_enter Tryz.func177, Tryz.ntmps177
  go_wp2_with fail
  exact bodyPost_ret (v := .tuple #[resV x.code x.regs, .bool true]) (by simp [results, Tryz.results177, go_sem, resV]) rfl ⟨rfl, (Below.refl _ w).alloc (Nat.le_refl _) _⟩
end Go.Proofs.YtehkjbpgibdgpadGreatDoor
namespace Go.Proofs.YtehkjbpgibdgpadGreatDoor
open Go.RowKit Go.Shelf

theorem work_any (C : Nat) (o : Op5) (ho : aloneF o = 0) (h2 : ¬ o.k = 2) (dv : Value) (b : Nat) (x : Wk) (w : World) (hx : WorkAt w C dv b x) (hn : x.nx < 100) :
    Calls Tryz.prog 191 #[.pointer (some ⟨C, 0, none⟩), .agg #[.int .i64 o.k, .int .i64 o.a, .int .i64 o.b, .int .i64 o.c, .int .i64 o.n]] w fun e w' => e = .returned (.tuple #[]) ∧ WorkAt w' C dv b (runW o x) ∧ w.grownBy w' (some C) := by
  have hp := alone_parts ho
  obtain ⟨k, a, p, q, n⟩ := o
  dsimp only at hp h2 ⊢
  rcases hp with ⟨rfl, h0, h1⟩ | ⟨rfl, h0, h1, h3, h4⟩ | ⟨hk, h0, h1, h2, h3, h4, h5⟩ | ⟨rfl, h0, h1, h2, h3⟩ | ⟨rfl, h0, h1⟩ | ⟨rfl, h0, h1, h2, h3⟩
  · obtain ⟨m, rfl⟩ : ∃ m : Nat, a = (m : Int) := ⟨a.toNat, by omega⟩
    exact work_num C m p q n dv b x w hx (by omega) hn
  · exact absurd rfl h2
  · obtain ⟨m, rfl⟩ : ∃ m : Nat, a = (m : Int) := ⟨a.toNat, by omega⟩
    obtain ⟨l, rfl⟩ : ∃ l : Nat, p = (l : Int) := ⟨p.toNat, by omega⟩
    obtain ⟨q, rfl⟩ : ∃ r : Nat, q = (r : Int) := ⟨q.toNat, by omega⟩
    exact work_arith k hk C m l q n dv b x w hx (by omega) (by omega) (by omega) hn
  · obtain ⟨m, rfl⟩ : ∃ m : Nat, a = (m : Int) := ⟨a.toNat, by omega⟩
    obtain ⟨l, rfl⟩ : ∃ l : Nat, p = (l : Int) := ⟨p.toNat, by omega⟩
    exact work_store C m l q n dv b x w hx (by omega) (by omega) hn
  · exact work_stop C a p q n dv b x w hx hn
  · obtain ⟨m, rfl⟩ : ∃ m : Nat, a = (m : Int) := ⟨a.toNat, by omega⟩
    obtain ⟨l, rfl⟩ : ∃ l : Nat, p = (l : Int) := ⟨p.toNat, by omega⟩
    exact work_skip C m l q n dv b x w hx (by omega) (by omega) hn

/-- What a call of Step leaves. -/
def Stepped (C B : Nat) (dv : Value) (b : Nat) (w : World) (o : StepOut) (e : Ending) (w' : World) : Prop :=
  e = .returned (.tuple #[.int .i64 o.what, .int .i64 o.who]) ∧ WorkAt w' C dv b o.x ∧ TabAt w' B o.T ∧ Grew (fun k => k = B ∨ k = C) w w'

set_option maxHeartbeats 1000000 in
theorem step_over (C B : Nat) (dv : Value) (b : Nat) (d : List Op5) (x : Wk) (T : Nat → List Slot4) (w : World) (hx : WorkAt w C dv b x) (hT : TabAt w B T) (ho : x.over = true) :
    Calls Tryz.prog 184 #[.pointer (some ⟨C, 0, none⟩), .pointer (some ⟨B, 0, none⟩)] w (Stepped C B dv b w (stepW T d (b : Int) x)) := by
  rw [stepW_over ho]
  have h1 := hx.over
  rw [ho] at h1
  have hC := hx.lt
  clear ho
  go_enter Tryz.func184, Tryz.ntmps184
  go_wp2_with fail
  go_ret2
  exact ⟨rfl, hx, hT, Grew.refl _ _⟩

set_option maxHeartbeats 1000000 in
theorem step_end (C B : Nat) (dv : Value) (b : Nat) (d : List Op5) (x : Wk) (T : Nat → List Slot4) (w : World) (hx : WorkAt w C dv b x) (hT : TabAt w B T) (hne : C ≠ B) (hd : DeedAt w dv d) (hlen : d.length ≤ 14) (ho : x.over = false) (hn : x.nx = d.length) :
    Calls Tryz.prog 184 #[.pointer (some ⟨C, 0, none⟩), .pointer (some ⟨B, 0, none⟩)] w (Stepped C B dv b w (stepW T d (b : Int) x)) := by
  rw [stepW_end ho (by omega)]
  have h1 := hx.over
  rw [ho] at h1
  have hC := hx.lt
  have h2 := hx.place
  have h0 := hx.deed
  rw [hn] at h2
  have hend : ∀ n, Calls Tryz.prog 189 #[.pointer (some ⟨C, 0, none⟩), .pointer (some ⟨B, 0, none⟩), .int .i64 0] (w.drewN n) _ := fun n => end_any C B b 0 dv d x T (w.drewN n) (hx.drewN n) (hT.kept rfl) hne (hd.later (drewN_below (Below.refl _ _) n)) hlen
  obtain ⟨da, dcap, rfl, -⟩ := hd
  clear ho hn
  go_enter Tryz.func184, Tryz.ntmps184
  go_wp2_with fail
  go_quiet (fail)
  go_wp2_with fail
  refine (hend _).mono ?_
  rintro e w1 ⟨rfl, hx1, hT1, hg1⟩
  clear hend
  go_wp2_with fail
  go_ret2
  exact ⟨rfl, hx1, hT1, (Grew.of_below (drewN_below (Below.refl _ _) _)).trans hg1⟩

set_option maxRecDepth 100000 in
set_option maxHeartbeats 1000000 in
theorem step_stops (C B : Nat) (dv : Value) (b : Nat) (d : List Op5) (x : Wk) (T : Nat → List Slot4) (w : World) (hx : WorkAt w C dv b x) (hT : TabAt w B T) (hne : C ≠ B) (hd : DeedAt w dv d) (hc : (checkF d).1 = 0) (ho : x.over = false) (hn : x.nx < d.length) (h8 : d[x.nx].k = 8) (h0 : x.regs d[x.nx].a.toNat ≠ 0) :
    Calls Tryz.prog 184 #[.pointer (some ⟨C, 0, none⟩), .pointer (some ⟨B, 0, none⟩)] w (Stepped C B dv b w (stepW T d (b : Int) x)) := by
  have hlen := check_len hc
  have hal := alone_parts (checkF_alone hc _ (List.getElem_mem hn))
  have h1 := hx.over
  rw [ho] at h1
  have hC := hx.lt
  have h2 := hx.place
  have hd0 := hx.deed
  have t1 : ((x.nx : Int) == (d.length : Int)) = false := by rw [beq_eq_false_iff_ne]; omega
  rw [stepW_stop (T := T) (b := (b : Int)) ho hn h8 h0]
  have hend : ∀ w', Below w.heap.size w w' → Calls Tryz.prog 189 #[.pointer (some ⟨C, 0, none⟩), .pointer (some ⟨B, 0, none⟩), .int .i64 9] w' _ := fun w' hb => end_any C B b 9 dv d x T w' (hx.later hb) (hT.later hb) hne (hd.later hb) hlen
  have HEND : Hid _ := hend
  clear hend
  obtain ⟨da, dcap, rfl, hdc⟩ := hd
  obtain ⟨db, off, rfl, c0, c1, c2, c3, c4⟩ := hdc x.nx hn
  have hq1 : 0 ≤ d[x.nx].a ∧ d[x.nx].a < 14 := by omega
  have hreg := hx.reg d[x.nx].a.toNat (by omega)
  have t0 : (x.regs d[x.nx].a.toNat != 0) = true := by simp [h0]
  have hq4 : d[x.nx].a < 4 := by omega
  clear h0
  clear ho hdc hal
  generalize d[x.nx].k = xk at *
  generalize d[x.nx].a = xa at *
  generalize d[x.nx].b = xb at *
  generalize d[x.nx].c = xc at *
  generalize d[x.nx].n = xn at *
  obtain ⟨ma, rfl⟩ : ∃ m : Nat, xa = (m : Int) := ⟨xa.toNat, by omega⟩
  rw [Int.toNat_natCast] at t0 hreg
  subst h8
  have hin : (x.nx : Int) < (d.length : Int) := by omega
  go_enter Tryz.func184, Tryz.ntmps184
  go_wp2_with fail
  go_quiet (fail)
  go_wp2_with fail
  generalize eW : w.drewN nq = W
  have hBW : Below w.heap.size w W := by rw [← eW]; exact drewN_below (Below.refl _ _) _
  replace h2 := cell_later hBW h2
  replace hd0 := cell_later hBW hd0
  replace c0 := cell_later hBW c0
  replace c1 := cell_later hBW c1
  replace c2 := cell_later hBW c2
  replace c3 := cell_later hBW c3
  replace c4 := cell_later hBW c4
  have hCW : C < W.heap.size := World.block_lt_of_cell? W _ h2
  have hdW : db < W.heap.size := World.block_lt_of_cell? W _ c0
  clear eW hC
  go_region
  have hBO : Below W.heap.size W (W.alloc (.cells #[.int .i64 8, .int .i64 (ma : Int), .int .i64 xb, .int .i64 xc, .int .i64 xn] 121)).drew := ((Below.refl _ W).alloc (Nat.le_refl _) _).drew
  obtain ⟨O, eO⟩ : ∃ O, O = (W.alloc (.cells #[.int .i64 8, .int .i64 (ma : Int), .int .i64 xb, .int .i64 xc, .int .i64 xn] 121)).drew := ⟨_, rfl⟩
  have g0 : O.cell? ⟨W.heap.size, 0, none⟩ = some (.int .i64 8) := by rw [eO]; go_simp
  have g1 : O.cell? ⟨W.heap.size, 1, none⟩ = some (.int .i64 (ma : Int)) := by rw [eO]; go_simp
  have g2 : O.cell? ⟨W.heap.size, 2, none⟩ = some (.int .i64 xb) := by rw [eO]; go_simp
  have g3 : O.cell? ⟨W.heap.size, 3, none⟩ = some (.int .i64 xc) := by rw [eO]; go_simp
  have g4 : O.cell? ⟨W.heap.size, 4, none⟩ = some (.int .i64 xn) := by rw [eO]; go_simp
  rw [← eO] at hBO ⊢
  have hBw : Below w.heap.size w O := hBW.trans (hBO.mono hBW.size)
  have hzO : W.heap.size < O.heap.size := by rw [eO]; simp
  clear eO
  replace hreg := cell_later hBw hreg
  go_wp2_with fail
  go_quiet (fail)
  go_wp2_with fail
  refine (HEND.out _ (by exact drewN_below hBw _)).mono ?_
  rintro e w1 ⟨rfl, hx1, hT1, hg1⟩
  clear HEND
  go_wp2_with fail
  go_ret2
  exact ⟨rfl, hx1, hT1, (Grew.of_below (drewN_below hBw _)).trans hg1⟩

set_option maxRecDepth 100000 in
set_option maxHeartbeats 1000000 in
theorem step_loads (C B : Nat) (dv : Value) (b : Nat) (d : List Op5) (x : Wk) (T : Nat → List Slot4) (w : World) (hx : WorkAt w C dv b x) (hT : TabAt w B T) (hne : C ≠ B) (hd : DeedAt w dv d) (hc : (checkF d).1 = 0) (ho : x.over = false) (hn : x.nx < d.length) (h22 : d[x.nx].k = 2) (what who : Int) (y : Wk) (hload : ∀ w', Below w.heap.size w w' → Calls Tryz.prog 190 #[.pointer (some ⟨C, 0, none⟩), .pointer (some ⟨B, 0, none⟩), .agg #[.int .i64 2, .int .i64 d[x.nx].a, .int .i64 d[x.nx].b, .int .i64 d[x.nx].c, .int .i64 d[x.nx].n]] w' fun e w'' => e = .returned (.tuple #[.int .i64 what, .int .i64 who]) ∧ WorkAt w'' C dv b y ∧ w'.grownBy w'' (some C)) :
    Calls Tryz.prog 184 #[.pointer (some ⟨C, 0, none⟩), .pointer (some ⟨B, 0, none⟩)] w (Stepped C B dv b w ⟨what, who, y, T⟩) := by
  have hlen := check_len hc
  have hal := alone_parts (checkF_alone hc _ (List.getElem_mem hn))
  have h1 := hx.over
  rw [ho] at h1
  have hC := hx.lt
  have h2 := hx.place
  have hd0 := hx.deed
  have t1 : ((x.nx : Int) == (d.length : Int)) = false := by rw [beq_eq_false_iff_ne]; omega
  have HLOAD : Hid _ := hload
  clear hload
  obtain ⟨da, dcap, rfl, hdc⟩ := hd
  obtain ⟨db, off, rfl, c0, c1, c2, c3, c4⟩ := hdc x.nx hn
  have hq1 : 0 ≤ d[x.nx].a ∧ d[x.nx].a < 14 := by omega
  clear ho hdc hal
  generalize d[x.nx].k = xk at *
  generalize d[x.nx].a = xa at *
  generalize d[x.nx].b = xb at *
  generalize d[x.nx].c = xc at *
  generalize d[x.nx].n = xn at *
  subst h22
  have hin : (x.nx : Int) < (d.length : Int) := by omega
  go_enter Tryz.func184, Tryz.ntmps184
  go_wp2_with fail
  go_quiet (fail)
  go_wp2_with fail
  generalize eW : w.drewN nq = W
  have hBW : Below w.heap.size w W := by rw [← eW]; exact drewN_below (Below.refl _ _) _
  replace h2 := cell_later hBW h2
  replace hd0 := cell_later hBW hd0
  replace c0 := cell_later hBW c0
  replace c1 := cell_later hBW c1
  replace c2 := cell_later hBW c2
  replace c3 := cell_later hBW c3
  replace c4 := cell_later hBW c4
  have hCW : C < W.heap.size := World.block_lt_of_cell? W _ h2
  have hdW : db < W.heap.size := World.block_lt_of_cell? W _ c0
  clear eW hC
  go_region
  have hBO : Below W.heap.size W (W.alloc (.cells #[.int .i64 2, .int .i64 xa, .int .i64 xb, .int .i64 xc, .int .i64 xn] 121)).drew := ((Below.refl _ W).alloc (Nat.le_refl _) _).drew
  obtain ⟨O, eO⟩ : ∃ O, O = (W.alloc (.cells #[.int .i64 2, .int .i64 xa, .int .i64 xb, .int .i64 xc, .int .i64 xn] 121)).drew := ⟨_, rfl⟩
  have g0 : O.cell? ⟨W.heap.size, 0, none⟩ = some (.int .i64 2) := by rw [eO]; go_simp
  have g1 : O.cell? ⟨W.heap.size, 1, none⟩ = some (.int .i64 xa) := by rw [eO]; go_simp
  have g2 : O.cell? ⟨W.heap.size, 2, none⟩ = some (.int .i64 xb) := by rw [eO]; go_simp
  have g3 : O.cell? ⟨W.heap.size, 3, none⟩ = some (.int .i64 xc) := by rw [eO]; go_simp
  have g4 : O.cell? ⟨W.heap.size, 4, none⟩ = some (.int .i64 xn) := by rw [eO]; go_simp
  rw [← eO] at hBO ⊢
  have hBw : Below w.heap.size w O := hBW.trans (hBO.mono hBW.size)
  have hzO : W.heap.size < O.heap.size := by rw [eO]; simp
  clear eO
  have hTO := hT.later hBw
  go_wp2_with fail
  go_quiet (fail)
  go_wp2_with fail
  refine (HLOAD.out _ (by exact drewN_below hBw _)).mono ?_
  rintro e w1 ⟨rfl, hx1, hg1⟩
  clear HLOAD
  go_wp2_with fail
  go_ret2
  exact ⟨rfl, hx1, (hTO.kept (w' := O.drewN _) rfl).grown hg1 (fun e => hne e.symm), (Grew.of_below (drewN_below hBw _)).trans (Grew.of_grown hg1 (Or.inr rfl))⟩

set_option maxRecDepth 100000 in
set_option maxHeartbeats 1000000 in
theorem step_runs (C B : Nat) (dv : Value) (b : Nat) (d : List Op5) (x : Wk) (T : Nat → List Slot4) (w : World) (hx : WorkAt w C dv b x) (hT : TabAt w B T) (hne : C ≠ B) (hd : DeedAt w dv d) (hc : (checkF d).1 = 0) (ho : x.over = false) (hn : x.nx < d.length) (h22 : ¬ d[x.nx].k = 2) (h8 : ¬ (d[x.nx].k = 8 ∧ x.regs d[x.nx].a.toNat ≠ 0)) :
    Calls Tryz.prog 184 #[.pointer (some ⟨C, 0, none⟩), .pointer (some ⟨B, 0, none⟩)] w (Stepped C B dv b w (stepW T d (b : Int) x)) := by
  have hlen := check_len hc
  have hal := alone_parts (checkF_alone hc _ (List.getElem_mem hn))
  have h1 := hx.over
  rw [ho] at h1
  have hC := hx.lt
  have h2 := hx.place
  have hd0 := hx.deed
  have t1 : ((x.nx : Int) == (d.length : Int)) = false := by rw [beq_eq_false_iff_ne]; omega
  rw [stepW_run (T := T) (b := (b : Int)) ho hn h8 h22]
  have hwork : ∀ w', Below w.heap.size w w' → Calls Tryz.prog 191 #[.pointer (some ⟨C, 0, none⟩), .agg #[.int .i64 d[x.nx].k, .int .i64 d[x.nx].a, .int .i64 d[x.nx].b, .int .i64 d[x.nx].c, .int .i64 d[x.nx].n]] w' _ := fun w' hb => work_any C d[x.nx] (checkF_alone hc _ (List.getElem_mem hn)) h22 dv b x w' (hx.later hb) (by omega)
  obtain ⟨y, ey⟩ : ∃ y, y = runW d[x.nx] x := ⟨_, rfl⟩
  rw [← ey] at hwork ⊢
  have HWORK : Hid _ := hwork
  clear hwork ey
  obtain ⟨da, dcap, rfl, hdc⟩ := hd
  obtain ⟨db, off, rfl, c0, c1, c2, c3, c4⟩ := hdc x.nx hn
  have hq1 : 0 ≤ d[x.nx].a := by omega
  have t2 : (d[x.nx].k == 2) = false := by simp [h22]
  have hreg : d[x.nx].k = 8 → w.cell? ⟨C, 24 + d[x.nx].a.toNat, none⟩ = some (.int .i64 0) ∧ d[x.nx].a < 4 := fun e => by
    have h0 : x.regs d[x.nx].a.toNat = 0 := by
      by_cases h : x.regs d[x.nx].a.toNat = 0
      · exact h
      · exact absurd ⟨e, h⟩ h8
    have := hx.reg d[x.nx].a.toNat (by omega)
    rw [h0] at this
    exact ⟨this, by omega⟩
  clear h22 h8
  clear ho hdc hal
  generalize d[x.nx].k = xk at *
  generalize d[x.nx].a = xa at *
  generalize d[x.nx].b = xb at *
  generalize d[x.nx].c = xc at *
  generalize d[x.nx].n = xn at *
  have hin : (x.nx : Int) < (d.length : Int) := by omega
  go_enter Tryz.func184, Tryz.ntmps184
  go_wp2_with fail
  go_quiet (fail)
  go_wp2_with fail
  generalize eW : w.drewN nq = W
  have hBW : Below w.heap.size w W := by rw [← eW]; exact drewN_below (Below.refl _ _) _
  replace h2 := cell_later hBW h2
  replace hd0 := cell_later hBW hd0
  replace c0 := cell_later hBW c0
  replace c1 := cell_later hBW c1
  replace c2 := cell_later hBW c2
  replace c3 := cell_later hBW c3
  replace c4 := cell_later hBW c4
  have hCW : C < W.heap.size := World.block_lt_of_cell? W _ h2
  have hdW : db < W.heap.size := World.block_lt_of_cell? W _ c0
  clear eW hC
  go_region
  have hBO : Below W.heap.size W (W.alloc (.cells #[.int .i64 xk, .int .i64 xa, .int .i64 xb, .int .i64 xc, .int .i64 xn] 121)).drew := ((Below.refl _ W).alloc (Nat.le_refl _) _).drew
  obtain ⟨O, eO⟩ : ∃ O, O = (W.alloc (.cells #[.int .i64 xk, .int .i64 xa, .int .i64 xb, .int .i64 xc, .int .i64 xn] 121)).drew := ⟨_, rfl⟩
  have g0 : O.cell? ⟨W.heap.size, 0, none⟩ = some (.int .i64 xk) := by rw [eO]; go_simp
  have g1 : O.cell? ⟨W.heap.size, 1, none⟩ = some (.int .i64 xa) := by rw [eO]; go_simp
  have g2 : O.cell? ⟨W.heap.size, 2, none⟩ = some (.int .i64 xb) := by rw [eO]; go_simp
  have g3 : O.cell? ⟨W.heap.size, 3, none⟩ = some (.int .i64 xc) := by rw [eO]; go_simp
  have g4 : O.cell? ⟨W.heap.size, 4, none⟩ = some (.int .i64 xn) := by rw [eO]; go_simp
  rw [← eO] at hBO ⊢
  have hBw : Below w.heap.size w O := hBW.trans (hBO.mono hBW.size)
  have hzO : W.heap.size < O.heap.size := by rw [eO]; simp
  clear eO
  have hTO := hT.later hBw
  by_cases e8 : xk = 8
  · obtain ⟨hr, hq4⟩ := hreg e8
    obtain ⟨ma, rfl⟩ : ∃ m : Nat, xa = (m : Int) := ⟨xa.toNat, by omega⟩
    subst e8
    rw [Int.toNat_natCast] at hr
    replace hr := cell_later hBw hr
    clear hreg
    go_wp2_with fail
    go_quiet (fail)
    go_wp2_with fail
    refine (HWORK.out _ (by exact drewN_below hBw _)).mono ?_
    rintro e w1 ⟨rfl, hx1, hg1⟩
    clear HWORK
    go_wp2_with fail
    go_ret2
    exact ⟨rfl, hx1, (hTO.kept (w' := O.drewN _) rfl).grown hg1 (fun e => hne e.symm), (Grew.of_below (drewN_below hBw _)).trans (Grew.of_grown hg1 (Or.inr rfl))⟩
  · have t8 : (xk == 8) = false := by simp [e8]
    clear hreg e8
    go_wp2_with fail
    go_quiet (fail)
    go_wp2_with fail
    refine (HWORK.out _ (by exact drewN_below hBw _)).mono ?_
    rintro e w1 ⟨rfl, hx1, hg1⟩
    clear HWORK
    go_wp2_with fail
    go_ret2
    exact ⟨rfl, hx1, (hTO.kept (w' := O.drewN _) rfl).grown hg1 (fun e => hne e.symm), (Grew.of_below (drewN_below hBw _)).trans (Grew.of_grown hg1 (Or.inr rfl))⟩

theorem stepWk_any (C B : Nat) (dv : Value) (b : Nat) (d : List Op5) (x : Wk) (T : Nat → List Slot4) (w : World) (hx : WorkAt w C dv b x) (hT : TabAt w B T) (hne : C ≠ B) (hd : DeedAt w dv d) (hc : (checkF d).1 = 0) (hw : WellW d x) :
    Calls Tryz.prog 184 #[.pointer (some ⟨C, 0, none⟩), .pointer (some ⟨B, 0, none⟩)] w (Stepped C B dv b w (stepW T d (b : Int) x)) := by
  cases ho : x.over with
  | true => exact step_over C B dv b d x T w hx hT ho
  | false =>
    by_cases hn : x.nx < d.length
    · have hlen := check_len hc
      by_cases h2 : d[x.nx].k = 2
      · have hal := alone_parts (checkF_alone hc _ (List.getElem_mem hn))
        obtain ⟨m, hm⟩ : ∃ m : Nat, d[x.nx].a = (m : Int) := ⟨d[x.nx].a.toNat, by omega⟩
        obtain ⟨l, hl⟩ : ∃ l : Nat, d[x.nx].b = (l : Int) := ⟨d[x.nx].b.toNat, by omega⟩
        have hla : d[x.nx].b.toNat = l := by omega
        have hop : d[x.nx] = ⟨2, (m : Int), (l : Int), d[x.nx].c, d[x.nx].n⟩ := by rw [← h2, ← hm, ← hl]
        cases hi : x.is l with
        | true =>
          rw [stepW_own ho hn h2 (by rw [hla]; exact hi), hla]
          refine step_loads C B dv b d x T w hx hT hne hd hc ho hn h2 1 (-1) _ (fun w' hb => ?_)
          rw [hm, hl, hop]
          exact load_own C B m l 2 d[x.nx].c d[x.nx].n dv b x w' (hx.later hb) (by omega) (by omega) (by omega) hi
        | false =>
          obtain ⟨v, who, hbe⟩ : ∃ v who, beforeT T (l : Int) (b : Int) = (v, who) := ⟨_, _, rfl⟩
          by_cases hw0 : 0 ≤ who
          · rw [stepW_waits ho hn h2 (by rw [hla]; exact hi) (by rw [hl, hbe]; exact hw0), hl, hbe]
            refine step_loads C B dv b d x T w hx hT hne hd hc ho hn h2 2 who _ (fun w' hb => ?_)
            rw [hm, hl]
            refine (load_waits C B m l 2 d[x.nx].c d[x.nx].n v who dv b x T w' (hx.later hb) (hT.later hb) (by omega) hi hbe hw0).mono ?_
            rintro e w'' ⟨rfl, hb2⟩
            exact ⟨rfl, (hx.later hb).later hb2, below_grown hb2 _⟩
          · rw [stepW_load ho hn h2 (by rw [hla]; exact hi) (by rw [hl, hbe]; exact hw0), hl, hbe]
            refine step_loads C B dv b d x T w hx hT hne hd hc ho hn h2 1 (-1) _ (fun w' hb => ?_)
            rw [hm, hl, hop]
            exact load_ahead C B m l 2 d[x.nx].c d[x.nx].n v who dv b x T w' (hx.later hb) (hT.later hb) (by omega) (by omega) (by omega) hi hbe hw0
      · by_cases h8 : d[x.nx].k = 8 ∧ x.regs d[x.nx].a.toNat ≠ 0
        · exact step_stops C B dv b d x T w hx hT hne hd hc ho hn h8.1 h8.2
        · exact step_runs C B dv b d x T w hx hT hne hd hc ho hn h2 h8
    · exact step_end C B dv b d x T w hx hT hne hd (check_len hc) ho (by have := hw.nx; omega)
end Go.Proofs.YtehkjbpgibdgpadGreatDoor
