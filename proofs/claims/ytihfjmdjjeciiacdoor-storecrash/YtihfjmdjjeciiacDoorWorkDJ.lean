/-
  The walk of a worker's Step.
-/
import Derived.Test.YtihfjmdjjeciiacDoorWorkCJ
namespace Go.Proofs.YtihfjmdjjeciiacDoor
open Go.RowKit Go.Shelf

theorem work_any (C : Nat) (o : Op5) (ho : aloneF o = 0) (h2 : ¬ o.k = 2) (dv : Value) (b : Nat) (x : Wk) (w : World) (hx : WorkAt w C dv b x) (hn : x.nx < 100) :
    Calls Tryd.prog 111 #[.pointer (some ⟨C, 0, none⟩), .agg #[.int .i64 o.k, .int .i64 o.a, .int .i64 o.b, .int .i64 o.c, .int .i64 o.n]] w fun e w' => e = .returned (.tuple #[]) ∧ WorkAt w' C dv b (runW o x) ∧ w.grownBy w' (some C) := by
  have hp := alone_parts ho
  obtain ⟨k, a, p, q, n⟩ := o
  dsimp only at hp h2 ⊢
  rcases hp with ⟨rfl, h0, h1⟩ | ⟨rfl, h0, h1, h3, h4⟩ | ⟨hk, h0, h1, h2, h3, h4, h5⟩ | ⟨rfl, h0, h1, h2, h3⟩ | ⟨rfl, h0, h1⟩ | ⟨rfl, h0, h1, h2, h3⟩
  · obtain ⟨m, rfl⟩ : ∃ m : Nat, a = (m : Int) := ⟨a.toNat, by omega⟩
    exact work_num C m p q n dv b x w hx (by omega) hn
  · exact absurd rfl h2
  · obtain ⟨m, rfl⟩ : ∃ m : Nat, a = (m : Int) := ⟨a.toNat, by omega⟩
    obtain ⟨l, rfl⟩ : ∃ l : Nat, p = (l : Int) := ⟨p.toNat, by omega⟩
    obtain ⟨q, rfl⟩ : ∃ r : Nat, q = (r : Int) := ⟨q.toNat, by omega⟩
    exact work_arith k hk C m l q n dv b x w hx (by omega) (by omega) (by omega) hn
  · obtain ⟨m, rfl⟩ : ∃ m : Nat, a = (m : Int) := ⟨a.toNat, by omega⟩
    obtain ⟨l, rfl⟩ : ∃ l : Nat, p = (l : Int) := ⟨p.toNat, by omega⟩
    exact work_store C m l q n dv b x w hx (by omega) (by omega) hn
  · exact work_stop C a p q n dv b x w hx hn
  · obtain ⟨m, rfl⟩ : ∃ m : Nat, a = (m : Int) := ⟨a.toNat, by omega⟩
    obtain ⟨l, rfl⟩ : ∃ l : Nat, p = (l : Int) := ⟨p.toNat, by omega⟩
    exact work_skip C m l q n dv b x w hx (by omega) (by omega) hn

/-- What a call of Step leaves. -/
def Stepped (C B : Nat) (dv : Value) (b : Nat) (w : World) (o : StepOut) (e : Ending) (w' : World) : Prop :=
  e = .returned (.tuple #[.int .i64 o.what, .int .i64 o.who]) ∧ WorkAt w' C dv b o.x ∧ TabAt w' B o.T ∧ Grew (fun k => k = B ∨ k = C) w w'

set_option maxHeartbeats 1000000 in
theorem step_over (C B : Nat) (dv : Value) (b : Nat) (d : List Op5) (x : Wk) (T : Nat → List Slot4) (w : World) (hx : WorkAt w C dv b x) (hT : TabAt w B T) (ho : x.over = true) :
    Calls Tryd.prog 105 #[.pointer (some ⟨C, 0, none⟩), .pointer (some ⟨B, 0, none⟩)] w (Stepped C B dv b w (stepW T d (b : Int) x)) := by
  rw [stepW_over ho]
  have h1 := hx.over
  rw [ho] at h1
  have hC := hx.lt
  clear ho
  go_enter Tryd.func105, Tryd.ntmps105
  go_wp2_with fail
  go_ret2
  exact ⟨rfl, hx, hT, Grew.refl _ _⟩

set_option maxHeartbeats 1000000 in
theorem step_end (C B : Nat) (dv : Value) (b : Nat) (d : List Op5) (x : Wk) (T : Nat → List Slot4) (w : World) (hx : WorkAt w C dv b x) (hT : TabAt w B T) (hne : C ≠ B) (hd : DeedAt w dv d) (hlen : d.length ≤ 14) (ho : x.over = false) (hn : x.nx = d.length) :
    Calls Tryd.prog 105 #[.pointer (some ⟨C, 0, none⟩), .pointer (some ⟨B, 0, none⟩)] w (Stepped C B dv b w (stepW T d (b : Int) x)) := by
  rw [stepW_end ho (by omega)]
  have h1 := hx.over
  rw [ho] at h1
  have hC := hx.lt
  have h2 := hx.place
  have h0 := hx.deed
  rw [hn] at h2
  have hend : ∀ n, Calls Tryd.prog 109 #[.pointer (some ⟨C, 0, none⟩), .pointer (some ⟨B, 0, none⟩), .int .i64 0] (w.drewN n) _ := fun n => end_any C B b 0 dv d x T (w.drewN n) (hx.drewN n) (hT.kept rfl) hne (hd.later (drewN_below (Below.refl _ _) n)) hlen
  obtain ⟨da, dcap, rfl, -⟩ := hd
  clear ho hn
  go_enter Tryd.func105, Tryd.ntmps105
  go_wp2_with fail
  go_quiet (fail)
  go_wp2_with fail
  refine (hend _).mono ?_
  rintro e w1 ⟨rfl, hx1, hT1, hg1⟩
  clear hend
  go_wp2_with fail
  go_ret2
  exact ⟨rfl, hx1, hT1, (Grew.of_below (drewN_below (Below.refl _ _) _)).trans hg1⟩

set_option maxRecDepth 100000 in
set_option maxHeartbeats 1000000 in
theorem step_stops (C B : Nat) (dv : Value) (b : Nat) (d : List Op5) (x : Wk) (T : Nat → List Slot4) (w : World) (hx : WorkAt w C dv b x) (hT : TabAt w B T) (hne : C ≠ B) (hd : DeedAt w dv d) (hc : (checkF d).1 = 0) (ho : x.over = false) (hn : x.nx < d.length) (h8 : d[x.nx].k = 8) (h0 : x.regs d[x.nx].a.toNat ≠ 0) :
    Calls Tryd.prog 105 #[.pointer (some ⟨C, 0, none⟩), .pointer (some ⟨B, 0, none⟩)] w (Stepped C B dv b w (stepW T d (b : Int) x)) := by
  have hlen := check_len hc
  have hal := alone_parts (checkF_alone hc _ (List.getElem_mem hn))
  have h1 := hx.over
  rw [ho] at h1
  have hC := hx.lt
  have h2 := hx.place
  have hd0 := hx.deed
  have t1 : ((x.nx : Int) == (d.length : Int)) = false := by rw [beq_eq_false_iff_ne]; omega
  rw [stepW_stop (T := T) (b := (b : Int)) ho hn h8 h0]
  have hend : ∀ w', Below w.heap.size w w' → Calls Tryd.prog 109 #[.pointer (some ⟨C, 0, none⟩), .pointer (some ⟨B, 0, none⟩), .int .i64 9] w' _ := fun w' hb => end_any C B b 9 dv d x T w' (hx.later hb) (hT.later hb) hne (hd.later hb) hlen
  have HEND : Hid _ := hend
  clear hend
  obtain ⟨da, dcap, rfl, hdc⟩ := hd
  obtain ⟨db, off, rfl, c0, c1, c2, c3, c4⟩ := hdc x.nx hn
  have hq1 : 0 ≤ d[x.nx].a ∧ d[x.nx].a < 14 := by omega
  have hreg := hx.reg d[x.nx].a.toNat (by omega)
  have t0 : (x.regs d[x.nx].a.toNat != 0) = true := by simp [h0]
  have hq4 : d[x.nx].a < 4 := by omega
  clear h0
  clear ho hdc hal
  generalize d[x.nx].k = xk at *
  generalize d[x.nx].a = xa at *
  generalize d[x.nx].b = xb at *
  generalize d[x.nx].c = xc at *
  generalize d[x.nx].n = xn at *
  obtain ⟨ma, rfl⟩ : ∃ m : Nat, xa = (m : Int) := ⟨xa.toNat, by omega⟩
  rw [Int.toNat_natCast] at t0 hreg
  subst h8
  have hin : (x.nx : Int) < (d.length : Int) := by omega
  go_enter Tryd.func105, Tryd.ntmps105
  go_wp2_with fail
  go_quiet (fail)
  go_wp2_with fail
  generalize eW : w.drewN nq = W
  have hBW : Below w.heap.size w W := by rw [← eW]; exact drewN_below (Below.refl _ _) _
  replace h2 := cell_later hBW h2
  replace hd0 := cell_later hBW hd0
  replace c0 := cell_later hBW c0
  replace c1 := cell_later hBW c1
  replace c2 := cell_later hBW c2
  replace c3 := cell_later hBW c3
  replace c4 := cell_later hBW c4
  have hCW : C < W.heap.size := World.block_lt_of_cell? W _ h2
  have hdW : db < W.heap.size := World.block_lt_of_cell? W _ c0
  clear eW hC
  go_region
  have hBO : Below W.heap.size W (W.alloc (.cells #[.int .i64 8, .int .i64 (ma : Int), .int .i64 xb, .int .i64 xc, .int .i64 xn] 63)).drew := ((Below.refl _ W).alloc (Nat.le_refl _) _).drew
  obtain ⟨O, eO⟩ : ∃ O, O = (W.alloc (.cells #[.int .i64 8, .int .i64 (ma : Int), .int .i64 xb, .int .i64 xc, .int .i64 xn] 63)).drew := ⟨_, rfl⟩
  have g0 : O.cell? ⟨W.heap.size, 0, none⟩ = some (.int .i64 8) := by rw [eO]; go_simp
  have g1 : O.cell? ⟨W.heap.size, 1, none⟩ = some (.int .i64 (ma : Int)) := by rw [eO]; go_simp
  have g2 : O.cell? ⟨W.heap.size, 2, none⟩ = some (.int .i64 xb) := by rw [eO]; go_simp
  have g3 : O.cell? ⟨W.heap.size, 3, none⟩ = some (.int .i64 xc) := by rw [eO]; go_simp
  have g4 : O.cell? ⟨W.heap.size, 4, none⟩ = some (.int .i64 xn) := by rw [eO]; go_simp
  rw [← eO] at hBO ⊢
  have hBw : Below w.heap.size w O := hBW.trans (hBO.mono hBW.size)
  have hzO : W.heap.size < O.heap.size := by rw [eO]; simp
  clear eO
  replace hreg := cell_later hBw hreg
  go_wp2_with fail
  go_quiet (fail)
  go_wp2_with fail
  refine (HEND.out _ (by exact drewN_below hBw _)).mono ?_
  rintro e w1 ⟨rfl, hx1, hT1, hg1⟩
  clear HEND
  go_wp2_with fail
  go_ret2
  exact ⟨rfl, hx1, hT1, (Grew.of_below (drewN_below hBw _)).trans hg1⟩

set_option maxRecDepth 100000 in
set_option maxHeartbeats 1000000 in
theorem step_loads (C B : Nat) (dv : Value) (b : Nat) (d : List Op5) (x : Wk) (T : Nat → List Slot4) (w : World) (hx : WorkAt w C dv b x) (hT : TabAt w B T) (hne : C ≠ B) (hd : DeedAt w dv d) (hc : (checkF d).1 = 0) (ho : x.over = false) (hn : x.nx < d.length) (h22 : d[x.nx].k = 2) (what who : Int) (y : Wk) (hload : ∀ w', Below w.heap.size w w' → Calls Tryd.prog 110 #[.pointer (some ⟨C, 0, none⟩), .pointer (some ⟨B, 0, none⟩), .agg #[.int .i64 2, .int .i64 d[x.nx].a, .int .i64 d[x.nx].b, .int .i64 d[x.nx].c, .int .i64 d[x.nx].n]] w' fun e w'' => e = .returned (.tuple #[.int .i64 what, .int .i64 who]) ∧ WorkAt w'' C dv b y ∧ w'.grownBy w'' (some C)) :
    Calls Tryd.prog 105 #[.pointer (some ⟨C, 0, none⟩), .pointer (some ⟨B, 0, none⟩)] w (Stepped C B dv b w ⟨what, who, y, T⟩) := by
  have hlen := check_len hc
  have hal := alone_parts (checkF_alone hc _ (List.getElem_mem hn))
  have h1 := hx.over
  rw [ho] at h1
  have hC := hx.lt
  have h2 := hx.place
  have hd0 := hx.deed
  have t1 : ((x.nx : Int) == (d.length : Int)) = false := by rw [beq_eq_false_iff_ne]; omega
  have HLOAD : Hid _ := hload
  clear hload
  obtain ⟨da, dcap, rfl, hdc⟩ := hd
  obtain ⟨db, off, rfl, c0, c1, c2, c3, c4⟩ := hdc x.nx hn
  have hq1 : 0 ≤ d[x.nx].a ∧ d[x.nx].a < 14 := by omega
  clear ho hdc hal
  generalize d[x.nx].k = xk at *
  generalize d[x.nx].a = xa at *
  generalize d[x.nx].b = xb at *
  generalize d[x.nx].c = xc at *
  generalize d[x.nx].n = xn at *
  subst h22
  have hin : (x.nx : Int) < (d.length : Int) := by omega
  go_enter Tryd.func105, Tryd.ntmps105
  go_wp2_with fail
  go_quiet (fail)
  go_wp2_with fail
  generalize eW : w.drewN nq = W
  have hBW : Below w.heap.size w W := by rw [← eW]; exact drewN_below (Below.refl _ _) _
  replace h2 := cell_later hBW h2
  replace hd0 := cell_later hBW hd0
  replace c0 := cell_later hBW c0
  replace c1 := cell_later hBW c1
  replace c2 := cell_later hBW c2
  replace c3 := cell_later hBW c3
  replace c4 := cell_later hBW c4
  have hCW : C < W.heap.size := World.block_lt_of_cell? W _ h2
  have hdW : db < W.heap.size := World.block_lt_of_cell? W _ c0
  clear eW hC
  go_region
  have hBO : Below W.heap.size W (W.alloc (.cells #[.int .i64 2, .int .i64 xa, .int .i64 xb, .int .i64 xc, .int .i64 xn] 63)).drew := ((Below.refl _ W).alloc (Nat.le_refl _) _).drew
  obtain ⟨O, eO⟩ : ∃ O, O = (W.alloc (.cells #[.int .i64 2, .int .i64 xa, .int .i64 xb, .int .i64 xc, .int .i64 xn] 63)).drew := ⟨_, rfl⟩
  have g0 : O.cell? ⟨W.heap.size, 0, none⟩ = some (.int .i64 2) := by rw [eO]; go_simp
  have g1 : O.cell? ⟨W.heap.size, 1, none⟩ = some (.int .i64 xa) := by rw [eO]; go_simp
  have g2 : O.cell? ⟨W.heap.size, 2, none⟩ = some (.int .i64 xb) := by rw [eO]; go_simp
  have g3 : O.cell? ⟨W.heap.size, 3, none⟩ = some (.int .i64 xc) := by rw [eO]; go_simp
  have g4 : O.cell? ⟨W.heap.size, 4, none⟩ = some (.int .i64 xn) := by rw [eO]; go_simp
  rw [← eO] at hBO ⊢
  have hBw : Below w.heap.size w O := hBW.trans (hBO.mono hBW.size)
  have hzO : W.heap.size < O.heap.size := by rw [eO]; simp
  clear eO
  have hTO := hT.later hBw
  go_wp2_with fail
  go_quiet (fail)
  go_wp2_with fail
  refine (HLOAD.out _ (by exact drewN_below hBw _)).mono ?_
  rintro e w1 ⟨rfl, hx1, hg1⟩
  clear HLOAD
  go_wp2_with fail
  go_ret2
  exact ⟨rfl, hx1, (hTO.kept (w' := O.drewN _) rfl).grown hg1 (fun e => hne e.symm), (Grew.of_below (drewN_below hBw _)).trans (Grew.of_grown hg1 (Or.inr rfl))⟩

set_option maxRecDepth 100000 in
set_option maxHeartbeats 1000000 in
theorem step_runs (C B : Nat) (dv : Value) (b : Nat) (d : List Op5) (x : Wk) (T : Nat → List Slot4) (w : World) (hx : WorkAt w C dv b x) (hT : TabAt w B T) (hne : C ≠ B) (hd : DeedAt w dv d) (hc : (checkF d).1 = 0) (ho : x.over = false) (hn : x.nx < d.length) (h22 : ¬ d[x.nx].k = 2) (h8 : ¬ (d[x.nx].k = 8 ∧ x.regs d[x.nx].a.toNat ≠ 0)) :
    Calls Tryd.prog 105 #[.pointer (some ⟨C, 0, none⟩), .pointer (some ⟨B, 0, none⟩)] w (Stepped C B dv b w (stepW T d (b : Int) x)) := by
  have hlen := check_len hc
  have hal := alone_parts (checkF_alone hc _ (List.getElem_mem hn))
  have h1 := hx.over
  rw [ho] at h1
  have hC := hx.lt
  have h2 := hx.place
  have hd0 := hx.deed
  have t1 : ((x.nx : Int) == (d.length : Int)) = false := by rw [beq_eq_false_iff_ne]; omega
  rw [stepW_run (T := T) (b := (b : Int)) ho hn h8 h22]
  have hwork : ∀ w', Below w.heap.size w w' → Calls Tryd.prog 111 #[.pointer (some ⟨C, 0, none⟩), .agg #[.int .i64 d[x.nx].k, .int .i64 d[x.nx].a, .int .i64 d[x.nx].b, .int .i64 d[x.nx].c, .int .i64 d[x.nx].n]] w' _ := fun w' hb => work_any C d[x.nx] (checkF_alone hc _ (List.getElem_mem hn)) h22 dv b x w' (hx.later hb) (by omega)
  obtain ⟨y, ey⟩ : ∃ y, y = runW d[x.nx] x := ⟨_, rfl⟩
  rw [← ey] at hwork ⊢
  have HWORK : Hid _ := hwork
  clear hwork ey
  obtain ⟨da, dcap, rfl, hdc⟩ := hd
  obtain ⟨db, off, rfl, c0, c1, c2, c3, c4⟩ := hdc x.nx hn
  have hq1 : 0 ≤ d[x.nx].a := by omega
  have t2 : (d[x.nx].k == 2) = false := by simp [h22]
  have hreg : d[x.nx].k = 8 → w.cell? ⟨C, 24 + d[x.nx].a.toNat, none⟩ = some (.int .i64 0) ∧ d[x.nx].a < 4 := fun e => by
    have h0 : x.regs d[x.nx].a.toNat = 0 := by
      by_cases h : x.regs d[x.nx].a.toNat = 0
      · exact h
      · exact absurd ⟨e, h⟩ h8
    have := hx.reg d[x.nx].a.toNat (by omega)
    rw [h0] at this
    exact ⟨this, by omega⟩
  clear h22 h8
  clear ho hdc hal
  generalize d[x.nx].k = xk at *
  generalize d[x.nx].a = xa at *
  generalize d[x.nx].b = xb at *
  generalize d[x.nx].c = xc at *
  generalize d[x.nx].n = xn at *
  have hin : (x.nx : Int) < (d.length : Int) := by omega
  go_enter Tryd.func105, Tryd.ntmps105
  go_wp2_with fail
  go_quiet (fail)
  go_wp2_with fail
  generalize eW : w.drewN nq = W
  have hBW : Below w.heap.size w W := by rw [← eW]; exact drewN_below (Below.refl _ _) _
  replace h2 := cell_later hBW h2
  replace hd0 := cell_later hBW hd0
  replace c0 := cell_later hBW c0
  replace c1 := cell_later hBW c1
  replace c2 := cell_later hBW c2
  replace c3 := cell_later hBW c3
  replace c4 := cell_later hBW c4
  have hCW : C < W.heap.size := World.block_lt_of_cell? W _ h2
  have hdW : db < W.heap.size := World.block_lt_of_cell? W _ c0
  clear eW hC
  go_region
  have hBO : Below W.heap.size W (W.alloc (.cells #[.int .i64 xk, .int .i64 xa, .int .i64 xb, .int .i64 xc, .int .i64 xn] 63)).drew := ((Below.refl _ W).alloc (Nat.le_refl _) _).drew
  obtain ⟨O, eO⟩ : ∃ O, O = (W.alloc (.cells #[.int .i64 xk, .int .i64 xa, .int .i64 xb, .int .i64 xc, .int .i64 xn] 63)).drew := ⟨_, rfl⟩
  have g0 : O.cell? ⟨W.heap.size, 0, none⟩ = some (.int .i64 xk) := by rw [eO]; go_simp
  have g1 : O.cell? ⟨W.heap.size, 1, none⟩ = some (.int .i64 xa) := by rw [eO]; go_simp
  have g2 : O.cell? ⟨W.heap.size, 2, none⟩ = some (.int .i64 xb) := by rw [eO]; go_simp
  have g3 : O.cell? ⟨W.heap.size, 3, none⟩ = some (.int .i64 xc) := by rw [eO]; go_simp
  have g4 : O.cell? ⟨W.heap.size, 4, none⟩ = some (.int .i64 xn) := by rw [eO]; go_simp
  rw [← eO] at hBO ⊢
  have hBw : Below w.heap.size w O := hBW.trans (hBO.mono hBW.size)
  have hzO : W.heap.size < O.heap.size := by rw [eO]; simp
  clear eO
  have hTO := hT.later hBw
  by_cases e8 : xk = 8
  · obtain ⟨hr, hq4⟩ := hreg e8
    obtain ⟨ma, rfl⟩ : ∃ m : Nat, xa = (m : Int) := ⟨xa.toNat, by omega⟩
    subst e8
    rw [Int.toNat_natCast] at hr
    replace hr := cell_later hBw hr
    clear hreg
    go_wp2_with fail
    go_quiet (fail)
    go_wp2_with fail
    refine (HWORK.out _ (by exact drewN_below hBw _)).mono ?_
    rintro e w1 ⟨rfl, hx1, hg1⟩
    clear HWORK
    go_wp2_with fail
    go_ret2
    exact ⟨rfl, hx1, (hTO.kept (w' := O.drewN _) rfl).grown hg1 (fun e => hne e.symm), (Grew.of_below (drewN_below hBw _)).trans (Grew.of_grown hg1 (Or.inr rfl))⟩
  · have t8 : (xk == 8) = false := by simp [e8]
    clear hreg e8
    go_wp2_with fail
    go_quiet (fail)
    go_wp2_with fail
    refine (HWORK.out _ (by exact drewN_below hBw _)).mono ?_
    rintro e w1 ⟨rfl, hx1, hg1⟩
    clear HWORK
    go_wp2_with fail
    go_ret2
    exact ⟨rfl, hx1, (hTO.kept (w' := O.drewN _) rfl).grown hg1 (fun e => hne e.symm), (Grew.of_below (drewN_below hBw _)).trans (Grew.of_grown hg1 (Or.inr rfl))⟩

theorem stepWk_any (C B : Nat) (dv : Value) (b : Nat) (d : List Op5) (x : Wk) (T : Nat → List Slot4) (w : World) (hx : WorkAt w C dv b x) (hT : TabAt w B T) (hne : C ≠ B) (hd : DeedAt w dv d) (hc : (checkF d).1 = 0) (hw : WellW d x) :
    Calls Tryd.prog 105 #[.pointer (some ⟨C, 0, none⟩), .pointer (some ⟨B, 0, none⟩)] w (Stepped C B dv b w (stepW T d (b : Int) x)) := by
  cases ho : x.over with
  | true => exact step_over C B dv b d x T w hx hT ho
  | false =>
    by_cases hn : x.nx < d.length
    · have hlen := check_len hc
      by_cases h2 : d[x.nx].k = 2
      · have hal := alone_parts (checkF_alone hc _ (List.getElem_mem hn))
        obtain ⟨m, hm⟩ : ∃ m : Nat, d[x.nx].a = (m : Int) := ⟨d[x.nx].a.toNat, by omega⟩
        obtain ⟨l, hl⟩ : ∃ l : Nat, d[x.nx].b = (l : Int) := ⟨d[x.nx].b.toNat, by omega⟩
        have hla : d[x.nx].b.toNat = l := by omega
        have hop : d[x.nx] = ⟨2, (m : Int), (l : Int), d[x.nx].c, d[x.nx].n⟩ := by rw [← h2, ← hm, ← hl]
        cases hi : x.is l with
        | true =>
          rw [stepW_own ho hn h2 (by rw [hla]; exact hi), hla]
          refine step_loads C B dv b d x T w hx hT hne hd hc ho hn h2 1 (-1) _ (fun w' hb => ?_)
          rw [hm, hl, hop]
          exact load_own C B m l 2 d[x.nx].c d[x.nx].n dv b x w' (hx.later hb) (by omega) (by omega) (by omega) hi
        | false =>
          obtain ⟨v, who, hbe⟩ : ∃ v who, beforeT T (l : Int) (b : Int) = (v, who) := ⟨_, _, rfl⟩
          by_cases hw0 : 0 ≤ who
          · rw [stepW_waits ho hn h2 (by rw [hla]; exact hi) (by rw [hl, hbe]; exact hw0), hl, hbe]
            refine step_loads C B dv b d x T w hx hT hne hd hc ho hn h2 2 who _ (fun w' hb => ?_)
            rw [hm, hl]
            refine (load_waits C B m l 2 d[x.nx].c d[x.nx].n v who dv b x T w' (hx.later hb) (hT.later hb) (by omega) hi hbe hw0).mono ?_
            rintro e w'' ⟨rfl, hb2⟩
            exact ⟨rfl, (hx.later hb).later hb2, below_grown hb2 _⟩
          · rw [stepW_load ho hn h2 (by rw [hla]; exact hi) (by rw [hl, hbe]; exact hw0), hl, hbe]
            refine step_loads C B dv b d x T w hx hT hne hd hc ho hn h2 1 (-1) _ (fun w' hb => ?_)
            rw [hm, hl, hop]
            exact load_ahead C B m l 2 d[x.nx].c d[x.nx].n v who dv b x T w' (hx.later hb) (hT.later hb) (by omega) (by omega) (by omega) hi hbe hw0
      · by_cases h8 : d[x.nx].k = 8 ∧ x.regs d[x.nx].a.toNat ≠ 0
        · exact step_stops C B dv b d x T w hx hT hne hd hc ho hn h8.1 h8.2
        · exact step_runs C B dv b d x T w hx hT hne hd hc ho hn h2 h8
    · exact step_end C B dv b d x T w hx hT hne hd (check_len hc) ho (by have := hw.nx; omega)
end Go.Proofs.YtihfjmdjjeciiacDoor
