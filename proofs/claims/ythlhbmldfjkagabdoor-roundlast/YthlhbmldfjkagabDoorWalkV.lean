/-
  The walk of the reference's Do.
-/
import Derived.Test.YthlhbmldfjkagabDoorWalkU
namespace Go.Proofs.YthlhbmldfjkagabDoor
open Go.RowKit

theorem szCell (w : World) (a : Addr) (u : Value) : (w.setCell a u).heap.size = w.heap.size := by simp [World.setCell]

set_option maxRecDepth 100000 in
set_option maxHeartbeats 2000000 in
theorem ref_any (v : Value) (d : List Op5) (s : Nat → Int) (w : World) (hd : DeedAt w v d) (hlen : d.length ≤ 14) (ha : ∀ o ∈ d, aloneF o = 0) :
    Calls Tryd.prog 42 #[stV s, v] w fun e w' => e = .returned (.tuple #[stV (doF s d).st, resV (doF s d).code (doF s d).regs]) ∧ Below w.heap.size w w' := by
  obtain ⟨a, cap, rfl, hd⟩ := hd
  have HA : Hid (∀ j (h : j < d.length), aloneF d[j] = 0) := fun j h => ha _ (List.getElem_mem h)
  clear ha
  show Calls Tryd.prog 42 #[.agg #[.int .i64 (s 0), .int .i64 (s 1), .int .i64 (s 2), .int .i64 (s 3), .int .i64 (s 4), .int .i64 (s 5), .int .i64 (s 6), .int .i64 (s 7), .int .i64 (s 8), .int .i64 (s 9)], _] w _
  go_enter Tryd.func42, Tryd.ntmps42
  go_wp2_with fail
  obtain ⟨W0, e0⟩ : ∃ W0, W0 = (((((w.alloc (.cells #[.int .i64 (s 0), .int .i64 (s 1), .int .i64 (s 2), .int .i64 (s 3), .int .i64 (s 4), .int .i64 (s 5), .int .i64 (s 6), .int .i64 (s 7), .int .i64 (s 8), .int .i64 (s 9)] 23)).alloc (.cells #[.int .i64 0, .int .i64 0, .int .i64 0, .int .i64 0, .int .i64 0, .int .i64 0, .int .i64 0, .int .i64 0, .int .i64 0, .int .i64 0] 23)).alloc (.cells #[.int .i64 0, .int .i64 0, .int .i64 0, .int .i64 0, .int .i64 0] 36)).alloc (.cells #[.int .i64 (s 0), .int .i64 (s 1), .int .i64 (s 2), .int .i64 (s 3), .int .i64 (s 4), .int .i64 (s 5), .int .i64 (s 6), .int .i64 (s 7), .int .i64 (s 8), .int .i64 (s 9)] 23)).alloc (.cells #[.int .i64 0, .int .i64 0, .int .i64 0, .int .i64 0] 34)) := ⟨_, rfl⟩
  rw [← e0]
  have hB0 : Below w.heap.size w W0 := by
    rw [e0]
    exact (((((Below.refl _ _).alloc (Nat.le_refl _) _).alloc (by simp) _).alloc (by simp; omega) _).alloc (by simp; omega) _).alloc (by simp; omega) _
  have hD0 : DoAt W0 w.heap.size s (fun _ => 0) s := by
    rw [e0]
    exact ⟨lt10 (by go_simp) (by go_simp) (by go_simp) (by go_simp) (by go_simp) (by go_simp) (by go_simp) (by go_simp) (by go_simp) (by go_simp), lt10 (by go_simp) (by go_simp) (by go_simp) (by go_simp) (by go_simp) (by go_simp) (by go_simp) (by go_simp) (by go_simp) (by go_simp), lt5 (by go_simp) (by go_simp) (by go_simp) (by go_simp) (by go_simp), lt10 (by go_simp) (by go_simp) (by go_simp) (by go_simp) (by go_simp) (by go_simp) (by go_simp) (by go_simp) (by go_simp) (by go_simp), lt4 (by go_simp) (by go_simp) (by go_simp) (by go_simp), lt5 (fun o => by go_simp) (fun o => by go_simp) (fun o => by go_simp) (fun o => by go_simp) (fun o => by go_simp)⟩
  clear e0
  go_loopg [8] d.length (fun g x wr => ∃ r : Run, x = .int .i64 r.next ∧ g = d.length - r.next ∧ r.next < 30 ∧ DoAt wr w.heap.size s r.regs r.st ∧ Hid (runF s d r = doF s d) ∧ Below w.heap.size w wr)
  case atStart => exact ⟨⟨fun _ => 0, s, 0⟩, rfl, by simp, by simp, hD0, rfl, hB0⟩
  case round =>
    clear hD0 hB0
    obtain ⟨⟨rg, st, nx⟩, rfl, hg, h30, hD, hF, hB⟩ := hrel
    dsimp only at hg h30 hD ⊢
    have hz := hD.lt
    by_cases hlt : nx < d.length
    · obtain ⟨b, off, rfl, c0, c1, c2, c3, c4⟩ := hd nx hlt
      replace c0 := cell_later hB c0
      replace c1 := cell_later hB c1
      replace c2 := cell_later hB c2
      replace c3 := cell_later hB c3
      replace c4 := cell_later hB c4
      have hal := HA.out nx hlt
      have hparts := alone_parts hal
      have hstep : ∀ R : Run, ¬ (d[nx].k = 8 ∧ rg d[nx].a.toNat ≠ 0) → stepF d[nx] ⟨rg, st, nx⟩ = R → runF s d R = doF s d := fun R h8 e => by
        rw [← e]; exact (runF_step (r := ⟨rg, st, nx⟩) hlt h8).trans hF.out
      have hstop : d[nx].k = 8 → rg d[nx].a.toNat ≠ 0 → doF s d = ⟨s, 9, rg⟩ := fun h8 h0 => hF.out.symm.trans (runF_stop (r := ⟨rg, st, nx⟩) hlt h8 h0)
      have HST : Hid _ := hstep
      have HSP : Hid _ := hstop
      clear hd hal hstep hstop hF HA
      have hBA : Below wr.heap.size wr (wr.alloc (.cells #[.int .i64 d[nx].k, .int .i64 d[nx].a, .int .i64 d[nx].b, .int .i64 d[nx].c, .int .i64 d[nx].n] 91)) := (Below.refl _ _).alloc (Nat.le_refl _) _
      rcases hparts with ⟨h1, p0, p1⟩ | ⟨h2, p0, p1, p2, p3⟩ | ⟨h3, p0, p1, p2, p3, p4, p5⟩ | ⟨h7, p0, p1, p2, p3⟩ | ⟨h8, p0, p1⟩ | ⟨h9, p0, p1, p2, p3⟩
      · have hF' : Hid (runF s d ⟨putAt rg d[nx].a.toNat d[nx].n, st, nx + 1⟩ = doF s d) := HST.out _ (by omega) (stepF_num h1)
        clear HST HSP hBA
        generalize d[nx].k = xk at *
        generalize d[nx].a = xa at *
        generalize d[nx].b = xb at *
        generalize d[nx].c = xc at *
        generalize d[nx].n = xn at *
        obtain ⟨ma, rfl⟩ : ∃ m : Nat, xa = (m : Int) := ⟨xa.toNat, by omega⟩
        subst h1
        rw [Int.toNat_natCast] at hF'
        have hm4 : ma < 4 := by omega
        have q0 := hD.reg ma hm4
        have hfr : ∀ o, wr.frozen? ⟨w.heap.size + 1 + 1 + 1 + 1, o, none⟩ = false := hD.free 4 (by omega)
        go_wp2_with fail
        go_roundg (d.length - (nx + 1))
        case measure => omega
        case rel => exact ⟨⟨putAt rg ma xn, st, nx + 1⟩, by go_num, rfl, by dsimp only; omega, (hD.setReg hm4 xn).later ((Below.refl _ _).alloc (Nat.le_refl _) _), hF', (hB.setCell (p := ⟨w.heap.size + 1 + 1 + 1 + 1, ma, none⟩) (by simp; omega) _).alloc (by rw [szCell]; exact hB.size) _⟩
      · have hF' : Hid (runF s d ⟨putAt rg d[nx].a.toNat (st d[nx].b.toNat), st, nx + 1⟩ = doF s d) := HST.out _ (by omega) (stepF_load h2)
        clear HST HSP hBA
        generalize d[nx].k = xk at *
        generalize d[nx].a = xa at *
        generalize d[nx].b = xb at *
        generalize d[nx].c = xc at *
        generalize d[nx].n = xn at *
        obtain ⟨ma, rfl⟩ : ∃ m : Nat, xa = (m : Int) := ⟨xa.toNat, by omega⟩
        obtain ⟨mb, rfl⟩ : ∃ m : Nat, xb = (m : Int) := ⟨xb.toNat, by omega⟩
        subst h2
        rw [Int.toNat_natCast, Int.toNat_natCast] at hF'
        have hm4 : ma < 4 := by omega
        have hb10 : mb < 10 := by omega
        go_wp2_with fail
        obtain ⟨W, eW⟩ : ∃ W, W = wr.alloc (.cells #[.int .i64 2, .int .i64 (ma : Int), .int .i64 (mb : Int), .int .i64 xc, .int .i64 xn] 91) := ⟨_, rfl⟩
        have hDW : DoAt W w.heap.size s rg st := by rw [eW]; exact hD.later ((Below.refl _ _).alloc (Nat.le_refl _) _)
        have hBW : Below w.heap.size w W := by rw [eW]; exact hB.alloc hB.size _
        have g0 : W.cell? ⟨wr.heap.size, 0, none⟩ = some (.int .i64 2) := by rw [eW]; go_simp
        have g1 : W.cell? ⟨wr.heap.size, 1, none⟩ = some (.int .i64 (ma : Int)) := by rw [eW]; go_simp
        have g2 : W.cell? ⟨wr.heap.size, 2, none⟩ = some (.int .i64 (mb : Int)) := by rw [eW]; go_simp
        have g3 : W.cell? ⟨wr.heap.size, 3, none⟩ = some (.int .i64 xc) := by rw [eW]; go_simp
        have hfr : ∀ o, W.frozen? ⟨w.heap.size + 1 + 1 + 1 + 1, o, none⟩ = false := hDW.free 4 (by omega)
        have hfk : ∀ o, W.frozen? ⟨w.heap.size, o, none⟩ = false := hDW.free 0 (by omega)
        have hzW : ¬ wr.heap.size = w.heap.size + 1 + 1 + 1 + 1 := by omega
        have hzK : ¬ wr.heap.size = w.heap.size := by omega
        rw [← eW]
        clear eW
        have q0 := hDW.reg ma hm4
        have q1 := hDW.key mb hb10
        clear hD hB c0 c1 c2 c3 c4
        go_region
        all_goals go_wp2_with fail
        all_goals go_roundg (d.length - (nx + 1))
        case measure => omega
        case rel => exact ⟨⟨putAt rg ma (st mb), st, nx + 1⟩, by go_num, rfl, by dsimp only; omega, (hDW.setReg hm4 (st mb)).drew, hF', (hBW.setCell (p := ⟨w.heap.size + 1 + 1 + 1 + 1, ma, none⟩) (by simp; omega) _).drew⟩
      · have hF' : Hid (runF s d ⟨putAt rg d[nx].a.toNat (arithF d[nx].k (rg d[nx].b.toNat) (rg d[nx].c.toNat)), st, nx + 1⟩ = doF s d) := HST.out _ (by omega) (stepF_arith h3)
        have t1 : (d[nx].k == 1) = false := by rw [beq_eq_false_iff_ne]; omega
        have t2 : (d[nx].k == 2) = false := by rw [beq_eq_false_iff_ne]; omega
        have t7 : (d[nx].k == 7) = false := by rw [beq_eq_false_iff_ne]; omega
        have t8 : (d[nx].k == 8) = false := by rw [beq_eq_false_iff_ne]; omega
        have t9 : (d[nx].k == 9) = false := by rw [beq_eq_false_iff_ne]; omega
        clear HST HSP hBA h3
        generalize d[nx].k = xk at *
        generalize d[nx].a = xa at *
        generalize d[nx].b = xb at *
        generalize d[nx].c = xc at *
        generalize d[nx].n = xn at *
        obtain ⟨ma, rfl⟩ : ∃ m : Nat, xa = (m : Int) := ⟨xa.toNat, by omega⟩
        obtain ⟨mb, rfl⟩ : ∃ m : Nat, xb = (m : Int) := ⟨xb.toNat, by omega⟩
        obtain ⟨mc, rfl⟩ : ∃ m : Nat, xc = (m : Int) := ⟨xc.toNat, by omega⟩
        rw [Int.toNat_natCast, Int.toNat_natCast, Int.toNat_natCast] at hF'
        have hm4 : ma < 4 := by omega
        have hb4 : mb < 4 := by omega
        have hc4 : mc < 4 := by omega
        go_wp2_with fail
        obtain ⟨W, eW⟩ : ∃ W, W = wr.alloc (.cells #[.int .i64 xk, .int .i64 (ma : Int), .int .i64 (mb : Int), .int .i64 (mc : Int), .int .i64 xn] 91) := ⟨_, rfl⟩
        have hDW : DoAt W w.heap.size s rg st := by rw [eW]; exact hD.later ((Below.refl _ _).alloc (Nat.le_refl _) _)
        have hBW : Below w.heap.size w W := by rw [eW]; exact hB.alloc hB.size _
        have g0 : W.cell? ⟨wr.heap.size, 0, none⟩ = some (.int .i64 xk) := by rw [eW]; go_simp
        have g1 : W.cell? ⟨wr.heap.size, 1, none⟩ = some (.int .i64 (ma : Int)) := by rw [eW]; go_simp
        have g2 : W.cell? ⟨wr.heap.size, 2, none⟩ = some (.int .i64 (mb : Int)) := by rw [eW]; go_simp
        have g3 : W.cell? ⟨wr.heap.size, 3, none⟩ = some (.int .i64 (mc : Int)) := by rw [eW]; go_simp
        have hfr : ∀ o, W.frozen? ⟨w.heap.size + 1 + 1 + 1 + 1, o, none⟩ = false := hDW.free 4 (by omega)
        have hfk : ∀ o, W.frozen? ⟨w.heap.size, o, none⟩ = false := hDW.free 0 (by omega)
        have hzW : ¬ wr.heap.size = w.heap.size + 1 + 1 + 1 + 1 := by omega
        have hzK : ¬ wr.heap.size = w.heap.size := by omega
        rw [← eW]
        clear eW
        have q0 := hDW.reg ma hm4
        have q1 := hDW.reg mb hb4
        have q2 := hDW.reg mc hc4
        clear hD hB c0 c1 c2 c3 c4
        refine wp_region_still_tail 14 (by kernel_rfl) (by kernel_rfl) ?_
        simp only [List.take_succ_cons, List.take_zero, List.drop_succ_cons, List.drop_zero]
        repeat (first | still_step | still_call (reckon_any _ _ _ _))
        refine wpStill_nil ?_
        go_wp2_with fail
        go_roundg (d.length - (nx + 1))
        case measure => omega
        case rel => exact ⟨⟨putAt rg ma (arithF xk (rg mb) (rg mc)), st, nx + 1⟩, by go_num, rfl, by dsimp only; omega, (hDW.setReg hm4 _).drew, hF', (hBW.setCell (p := ⟨w.heap.size + 1 + 1 + 1 + 1, ma, none⟩) (by simp; omega) _).drew⟩
      · have hF' : Hid (runF s d ⟨rg, putAt st d[nx].a.toNat (rg d[nx].b.toNat), nx + 1⟩ = doF s d) := HST.out _ (by omega) (stepF_store h7)
        clear HST HSP hBA
        generalize d[nx].k = xk at *
        generalize d[nx].a = xa at *
        generalize d[nx].b = xb at *
        generalize d[nx].c = xc at *
        generalize d[nx].n = xn at *
        obtain ⟨ma, rfl⟩ : ∃ m : Nat, xa = (m : Int) := ⟨xa.toNat, by omega⟩
        obtain ⟨mb, rfl⟩ : ∃ m : Nat, xb = (m : Int) := ⟨xb.toNat, by omega⟩
        subst h7
        rw [Int.toNat_natCast, Int.toNat_natCast] at hF'
        have hm10 : ma < 10 := by omega
        have hb4 : mb < 4 := by omega
        go_wp2_with fail
        obtain ⟨W, eW⟩ : ∃ W, W = wr.alloc (.cells #[.int .i64 7, .int .i64 (ma : Int), .int .i64 (mb : Int), .int .i64 xc, .int .i64 xn] 91) := ⟨_, rfl⟩
        have hDW : DoAt W w.heap.size s rg st := by rw [eW]; exact hD.later ((Below.refl _ _).alloc (Nat.le_refl _) _)
        have hBW : Below w.heap.size w W := by rw [eW]; exact hB.alloc hB.size _
        have g0 : W.cell? ⟨wr.heap.size, 0, none⟩ = some (.int .i64 7) := by rw [eW]; go_simp
        have g1 : W.cell? ⟨wr.heap.size, 1, none⟩ = some (.int .i64 (ma : Int)) := by rw [eW]; go_simp
        have g2 : W.cell? ⟨wr.heap.size, 2, none⟩ = some (.int .i64 (mb : Int)) := by rw [eW]; go_simp
        have g3 : W.cell? ⟨wr.heap.size, 3, none⟩ = some (.int .i64 xc) := by rw [eW]; go_simp
        have hfr : ∀ o, W.frozen? ⟨w.heap.size + 1 + 1 + 1 + 1, o, none⟩ = false := hDW.free 4 (by omega)
        have hfk : ∀ o, W.frozen? ⟨w.heap.size, o, none⟩ = false := hDW.free 0 (by omega)
        have hzW : ¬ wr.heap.size = w.heap.size + 1 + 1 + 1 + 1 := by omega
        have hzK : ¬ wr.heap.size = w.heap.size := by omega
        rw [← eW]
        clear eW
        have q0 := hDW.key ma hm10
        have q1 := hDW.reg mb hb4
        clear hD hB c0 c1 c2 c3 c4
        go_region
        all_goals go_wp2_with fail
        all_goals go_roundg (d.length - (nx + 1))
        case measure => omega
        case rel => exact ⟨⟨rg, putAt st ma (rg mb), nx + 1⟩, by go_num, rfl, by dsimp only; omega, (hDW.setKey hm10 (rg mb)).drew, hF', (hBW.setCell (p := ⟨w.heap.size, ma, none⟩) (Nat.le_refl _) _).drew⟩
      · by_cases h0 : rg d[nx].a.toNat = 0
        · have hF' : Hid (runF s d ⟨rg, st, nx + 1⟩ = doF s d) := HST.out _ (by simp [h0]) (stepF_stop h8)
          have t0 : (rg d[nx].a.toNat != 0) = false := by simp [h0]
          clear HST HSP hBA h0
          generalize d[nx].k = xk at *
          generalize d[nx].a = xa at *
          generalize d[nx].b = xb at *
          generalize d[nx].c = xc at *
          generalize d[nx].n = xn at *
          obtain ⟨ma, rfl⟩ : ∃ m : Nat, xa = (m : Int) := ⟨xa.toNat, by omega⟩
          subst h8
          rw [Int.toNat_natCast] at t0
          have q0 := hD.reg ma (by omega)
          go_wp2_with fail
          go_roundg (d.length - (nx + 1))
          case measure => omega
          case rel => exact ⟨⟨rg, st, nx + 1⟩, by go_num, rfl, by dsimp only; omega, hD.later ((Below.refl _ _).alloc (Nat.le_refl _) _), hF', hB.alloc hB.size _⟩
        · have hF' : Hid (doF s d = ⟨s, 9, rg⟩) := HSP.out h8 h0
          have t0 : (rg d[nx].a.toNat != 0) = true := by simp [h0]
          clear HST HSP hBA h0
          generalize d[nx].k = xk at *
          generalize d[nx].a = xa at *
          generalize d[nx].b = xb at *
          generalize d[nx].c = xc at *
          generalize d[nx].n = xn at *
          obtain ⟨ma, rfl⟩ : ∃ m : Nat, xa = (m : Int) := ⟨xa.toNat, by omega⟩
          subst h8
          rw [Int.toNat_natCast] at t0
          have q0 := hD.reg ma (by omega)
          go_wp2_with fail
          obtain ⟨W, eW⟩ : ∃ W, W = wr.alloc (.cells #[.int .i64 8, .int .i64 (ma : Int), .int .i64 xb, .int .i64 xc, .int .i64 xn] 91) := ⟨_, rfl⟩
          have hDW : DoAt W w.heap.size s rg st := by rw [eW]; exact hD.later ((Below.refl _ _).alloc (Nat.le_refl _) _)
          have hBW : Below w.heap.size w W := by rw [eW]; exact hB.alloc hB.size _
          rw [← eW]
          clear eW hD hB c0 c1 c2 c3 c4
          obtain ⟨k0, k1, k2, k3, k4, k5, k6, k7, k8, k9⟩ := hDW.was.ten
          obtain ⟨y0, y1, y2, y3, y4, y5, y6, y7, y8, y9⟩ := hDW.one.ten
          have z0 := hDW.two 0 (by omega)
          have z1 := hDW.two 1 (by omega)
          have z2 := hDW.two 2 (by omega)
          have z3 := hDW.two 3 (by omega)
          have z4 := hDW.two 4 (by omega)
          have g0 := hDW.reg 0 (by omega)
          have g1 := hDW.reg 1 (by omega)
          have g2 := hDW.reg 2 (by omega)
          have g3 := hDW.reg 3 (by omega)
          have f1 := hDW.free 1 (by omega)
          have f2 : ∀ o, W.frozen? ⟨w.heap.size + 1 + 1, o, none⟩ = false := hDW.free 2 (by omega)
          clear hDW
          go_region
          all_goals go_wp2_with fail
          all_goals exact bodyPost_ret (v := .tuple #[stV s, resV 9 rg]) (by simp [results, Tryd.results42, go_sem, stV, resV, y0, y1, y2, y3, y4, y5, y6, y7, y8, y9, z0, z1, z2, z3, z4]) rfl ⟨ret_tuple2 hF'.out rfl rfl rfl, below_res hBW (by omega) (by omega) _ _ _ _ _ _ _ _ _ _ _ _ _ _ _⟩
      · by_cases h0 : rg d[nx].a.toNat = 0
        · have hF' : Hid (runF s d ⟨rg, st, nx + 1 + d[nx].b.toNat⟩ = doF s d) := HST.out _ (by omega) (by rw [stepF_skip h9]; simp [h0])
          have t0 : (rg d[nx].a.toNat == 0) = true := by simp [h0]
          clear HST HSP hBA h0
          generalize d[nx].k = xk at *
          generalize d[nx].a = xa at *
          generalize d[nx].b = xb at *
          generalize d[nx].c = xc at *
          generalize d[nx].n = xn at *
          obtain ⟨ma, rfl⟩ : ∃ m : Nat, xa = (m : Int) := ⟨xa.toNat, by omega⟩
          obtain ⟨mb, rfl⟩ : ∃ m : Nat, xb = (m : Int) := ⟨xb.toNat, by omega⟩
          subst h9
          rw [Int.toNat_natCast] at t0
          rw [Int.toNat_natCast] at hF'
          have q0 := hD.reg ma (by omega)
          go_wp2_with fail
          go_roundg (d.length - (nx + 1 + mb))
          case measure => omega
          case rel => exact ⟨⟨rg, st, nx + 1 + mb⟩, by go_num, rfl, by dsimp only; omega, hD.later ((Below.refl _ _).alloc (Nat.le_refl _) _), hF', hB.alloc hB.size _⟩
        · have hF' : Hid (runF s d ⟨rg, st, nx + 1⟩ = doF s d) := HST.out _ (by omega) (by rw [stepF_skip h9]; simp [h0])
          have t0 : (rg d[nx].a.toNat == 0) = false := by simp [h0]
          clear HST HSP hBA h0
          generalize d[nx].k = xk at *
          generalize d[nx].a = xa at *
          generalize d[nx].b = xb at *
          generalize d[nx].c = xc at *
          generalize d[nx].n = xn at *
          obtain ⟨ma, rfl⟩ : ∃ m : Nat, xa = (m : Int) := ⟨xa.toNat, by omega⟩
          obtain ⟨mb, rfl⟩ : ∃ m : Nat, xb = (m : Int) := ⟨xb.toNat, by omega⟩
          subst h9
          rw [Int.toNat_natCast] at t0
          have q0 := hD.reg ma (by omega)
          go_wp2_with fail
          go_roundg (d.length - (nx + 1))
          case measure => omega
          case rel => exact ⟨⟨rg, st, nx + 1⟩, by go_num, rfl, by dsimp only; omega, hD.later ((Below.refl _ _).alloc (Nat.le_refl _) _), hF', hB.alloc hB.size _⟩
    · have hF' : Hid (doF s d = ⟨st, 0, rg⟩) := hF.out.symm.trans (runF_end (r := ⟨rg, st, nx⟩) hlt)
      obtain ⟨k0, k1, k2, k3, k4, k5, k6, k7, k8, k9⟩ := hD.key.ten
      obtain ⟨y0, y1, y2, y3, y4, y5, y6, y7, y8, y9⟩ := hD.one.ten
      have z0 := hD.two 0 (by omega)
      have z1 := hD.two 1 (by omega)
      have z2 := hD.two 2 (by omega)
      have z3 := hD.two 3 (by omega)
      have z4 := hD.two 4 (by omega)
      have g0 := hD.reg 0 (by omega)
      have g1 := hD.reg 1 (by omega)
      have g2 := hD.reg 2 (by omega)
      have g3 := hD.reg 3 (by omega)
      have f1 := hD.free 1 (by omega)
      have f2 : ∀ o, wr.frozen? ⟨w.heap.size + 1 + 1, o, none⟩ = false := hD.free 2 (by omega)
      clear hF hd HA hD
      go_wp2_with fail
      go_region
      all_goals go_wp2_with fail
      all_goals exact bodyPost_ret (v := .tuple #[stV st, resV 0 rg]) (by simp [results, Tryd.results42, go_sem, stV, resV, y0, y1, y2, y3, y4, y5, y6, y7, y8, y9, z0, z1, z2, z3, z4]) rfl ⟨ret_tuple2 hF'.out rfl rfl rfl, below_res hB (by omega) (by omega) _ _ _ _ _ _ _ _ _ _ _ _ _ _ _⟩
end Go.Proofs.YthlhbmldfjkagabDoor
