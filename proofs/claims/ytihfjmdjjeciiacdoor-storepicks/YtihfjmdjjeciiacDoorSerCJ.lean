/-
  The walk of serial.run.
-/
import Derived.Test.YtihfjmdjjeciiacDoorSerBJ
namespace Go.Proofs.YtihfjmdjjeciiacDoor
open Go.RowKit

/-- The variables of a run: the state that came in, the two results. -/
structure RunBase (w : World) (B : Nat) (s : Nat → Int) : Prop where
  box : ∀ i, i < 10 → w.cell? ⟨B, i, none⟩ = some (.int .i64 (s i))
  one : ∀ i, i < 10 → w.cell? ⟨B + 1, i, none⟩ = some (.int .i64 0)
  two : ∀ i, i < 5 → w.cell? ⟨B + 1 + 1, i, none⟩ = some (.int .i64 0)
  free1 : ∀ o, w.frozen? ⟨B + 1, o, none⟩ = false
  free2 : ∀ o, w.frozen? ⟨B + 1 + 1, o, none⟩ = false

theorem RunBase.later {w w' : World} {B : Nat} {s : Nat → Int} (h : RunBase w B s) (hb : Below (B + 3) w w') : RunBase w' B s :=
  ⟨fun i hi => by rw [hb.cell (p := ⟨B, i, none⟩) (by simp)]; exact h.box i hi, fun i hi => by rw [hb.cell (p := ⟨B + 1, i, none⟩) (by simp)]; exact h.one i hi,
   fun i hi => by rw [hb.cell (p := ⟨B + 1 + 1, i, none⟩) (by simp)]; exact h.two i hi, fun o => by rw [hb.frozen (p := ⟨B + 1, o, none⟩) (by simp)]; exact h.free1 o,
   fun o => by rw [hb.frozen (p := ⟨B + 1 + 1, o, none⟩) (by simp)]; exact h.free2 o⟩

theorem stepF_bound {o : Op5} (ho : aloneF o = 0) {r : Run} (h : r.next < 14) : (stepF o r).next < 30 := by
  have := alone_parts ho
  unfold stepF
  repeat' split
  all_goals dsimp only
  all_goals omega

theorem RunAt.keys {w : World} {R : Nat} {r : Run} (h : RunAt w R r) : w.cell? ⟨R, 4, none⟩ = some (.int .i64 (r.st 0)) ∧ w.cell? ⟨R, 5, none⟩ = some (.int .i64 (r.st 1)) ∧ w.cell? ⟨R, 6, none⟩ = some (.int .i64 (r.st 2)) ∧ w.cell? ⟨R, 7, none⟩ = some (.int .i64 (r.st 3)) ∧ w.cell? ⟨R, 8, none⟩ = some (.int .i64 (r.st 4)) ∧ w.cell? ⟨R, 9, none⟩ = some (.int .i64 (r.st 5)) ∧ w.cell? ⟨R, 10, none⟩ = some (.int .i64 (r.st 6)) ∧ w.cell? ⟨R, 11, none⟩ = some (.int .i64 (r.st 7)) ∧ w.cell? ⟨R, 12, none⟩ = some (.int .i64 (r.st 8)) ∧ w.cell? ⟨R, 13, none⟩ = some (.int .i64 (r.st 9)) :=
  ⟨h.key 0 (by omega), h.key 1 (by omega), h.key 2 (by omega), h.key 3 (by omega), h.key 4 (by omega), h.key 5 (by omega), h.key 6 (by omega), h.key 7 (by omega), h.key 8 (by omega), h.key 9 (by omega)⟩
theorem RunAt.regs4 {w : World} {R : Nat} {r : Run} (h : RunAt w R r) : w.cell? ⟨R, 0, none⟩ = some (.int .i64 (r.regs 0)) ∧ w.cell? ⟨R, 1, none⟩ = some (.int .i64 (r.regs 1)) ∧ w.cell? ⟨R, 2, none⟩ = some (.int .i64 (r.regs 2)) ∧ w.cell? ⟨R, 3, none⟩ = some (.int .i64 (r.regs 3)) :=
  ⟨h.reg 0 (by omega), h.reg 1 (by omega), h.reg 2 (by omega), h.reg 3 (by omega)⟩
theorem RunBase.boxes {w : World} {B : Nat} {s : Nat → Int} (h : RunBase w B s) : w.cell? ⟨B, 0, none⟩ = some (.int .i64 (s 0)) ∧ w.cell? ⟨B, 1, none⟩ = some (.int .i64 (s 1)) ∧ w.cell? ⟨B, 2, none⟩ = some (.int .i64 (s 2)) ∧ w.cell? ⟨B, 3, none⟩ = some (.int .i64 (s 3)) ∧ w.cell? ⟨B, 4, none⟩ = some (.int .i64 (s 4)) ∧ w.cell? ⟨B, 5, none⟩ = some (.int .i64 (s 5)) ∧ w.cell? ⟨B, 6, none⟩ = some (.int .i64 (s 6)) ∧ w.cell? ⟨B, 7, none⟩ = some (.int .i64 (s 7)) ∧ w.cell? ⟨B, 8, none⟩ = some (.int .i64 (s 8)) ∧ w.cell? ⟨B, 9, none⟩ = some (.int .i64 (s 9)) :=
  ⟨h.box 0 (by omega), h.box 1 (by omega), h.box 2 (by omega), h.box 3 (by omega), h.box 4 (by omega), h.box 5 (by omega), h.box 6 (by omega), h.box 7 (by omega), h.box 8 (by omega), h.box 9 (by omega)⟩
theorem RunBase.ones {w : World} {B : Nat} {s : Nat → Int} (h : RunBase w B s) : w.cell? ⟨B + 1, 0, none⟩ = some (.int .i64 0) ∧ w.cell? ⟨B + 1, 1, none⟩ = some (.int .i64 0) ∧ w.cell? ⟨B + 1, 2, none⟩ = some (.int .i64 0) ∧ w.cell? ⟨B + 1, 3, none⟩ = some (.int .i64 0) ∧ w.cell? ⟨B + 1, 4, none⟩ = some (.int .i64 0) ∧ w.cell? ⟨B + 1, 5, none⟩ = some (.int .i64 0) ∧ w.cell? ⟨B + 1, 6, none⟩ = some (.int .i64 0) ∧ w.cell? ⟨B + 1, 7, none⟩ = some (.int .i64 0) ∧ w.cell? ⟨B + 1, 8, none⟩ = some (.int .i64 0) ∧ w.cell? ⟨B + 1, 9, none⟩ = some (.int .i64 0) :=
  ⟨h.one 0 (by omega), h.one 1 (by omega), h.one 2 (by omega), h.one 3 (by omega), h.one 4 (by omega), h.one 5 (by omega), h.one 6 (by omega), h.one 7 (by omega), h.one 8 (by omega), h.one 9 (by omega)⟩
theorem RunBase.twos {w : World} {B : Nat} {s : Nat → Int} (h : RunBase w B s) : w.cell? ⟨B + 1 + 1, 0, none⟩ = some (.int .i64 0) ∧ w.cell? ⟨B + 1 + 1, 1, none⟩ = some (.int .i64 0) ∧ w.cell? ⟨B + 1 + 1, 2, none⟩ = some (.int .i64 0) ∧ w.cell? ⟨B + 1 + 1, 3, none⟩ = some (.int .i64 0) ∧ w.cell? ⟨B + 1 + 1, 4, none⟩ = some (.int .i64 0) :=
  ⟨h.two 0 (by omega), h.two 1 (by omega), h.two 2 (by omega), h.two 3 (by omega), h.two 4 (by omega)⟩

set_option maxHeartbeats 1000000 in
theorem run_any (v : Value) (d : List Op5) (s : Nat → Int) (w : World) (hd : DeedAt w v d) (hlen : d.length ≤ 14) (ha : ∀ o ∈ d, aloneF o = 0) :
    Calls Tryd.prog 65 #[stV s, v] w fun e w' => e = .returned (.tuple #[stV (doF s d).st, resV (doF s d).code (doF s d).regs]) ∧ Below w.heap.size w w' := by
  obtain ⟨a, cap, rfl, hd⟩ := hd
  have HA : Hid (∀ j (h : j < d.length), aloneF d[j] = 0) := fun j h => ha _ (List.getElem_mem h)
  clear ha
  show Calls Tryd.prog 65 #[.agg #[.int .i64 (s 0), .int .i64 (s 1), .int .i64 (s 2), .int .i64 (s 3), .int .i64 (s 4), .int .i64 (s 5), .int .i64 (s 6), .int .i64 (s 7), .int .i64 (s 8), .int .i64 (s 9)], _] w _
  go_enter Tryd.func65, Tryd.ntmps65
  go_wp2_with fail
  obtain ⟨W0, e0⟩ : ∃ W0, W0 = ((((w.alloc (.cells #[.int .i64 (s 0), .int .i64 (s 1), .int .i64 (s 2), .int .i64 (s 3), .int .i64 (s 4), .int .i64 (s 5), .int .i64 (s 6), .int .i64 (s 7), .int .i64 (s 8), .int .i64 (s 9)] 71)).alloc (.cells #[.int .i64 0, .int .i64 0, .int .i64 0, .int .i64 0, .int .i64 0, .int .i64 0, .int .i64 0, .int .i64 0, .int .i64 0, .int .i64 0] 71)).alloc (.cells #[.int .i64 0, .int .i64 0, .int .i64 0, .int .i64 0, .int .i64 0] 110)).alloc (.cells #[.int .i64 0, .int .i64 0, .int .i64 0, .int .i64 0, .int .i64 (s 0), .int .i64 (s 1), .int .i64 (s 2), .int .i64 (s 3), .int .i64 (s 4), .int .i64 (s 5), .int .i64 (s 6), .int .i64 (s 7), .int .i64 (s 8), .int .i64 (s 9), .int .i64 0] 126)) := ⟨_, rfl⟩
  rw [← e0]
  have hB0 : Below w.heap.size w W0 := by
    rw [e0]
    exact ((((Below.refl _ _).alloc (Nat.le_refl _) _).alloc (by simp) _).alloc (by simp; omega) _).alloc (by simp; omega) _
  have hsz : W0.heap.size = w.heap.size + 4 := by rw [e0]; simp
  have hR0 : RunAt W0 (w.heap.size + 1 + 1 + 1) ⟨fun _ => 0, s, 0⟩ := by
    rw [e0]
    exact ⟨lt4 (by go_simp) (by go_simp) (by go_simp) (by go_simp), lt10 (by go_simp) (by go_simp) (by go_simp) (by go_simp) (by go_simp) (by go_simp) (by go_simp) (by go_simp) (by go_simp) (by go_simp), by go_simp, fun o => by go_simp⟩
  have hS0 : RunBase W0 w.heap.size s := by
    rw [e0]
    exact ⟨lt10 (by go_simp) (by go_simp) (by go_simp) (by go_simp) (by go_simp) (by go_simp) (by go_simp) (by go_simp) (by go_simp) (by go_simp), lt10 (by go_simp) (by go_simp) (by go_simp) (by go_simp) (by go_simp) (by go_simp) (by go_simp) (by go_simp) (by go_simp) (by go_simp), lt5 (by go_simp) (by go_simp) (by go_simp) (by go_simp) (by go_simp), fun o => by go_simp, fun o => by go_simp⟩
  clear e0
  go_loopg [7] d.length (fun g x wr => ∃ r : Run, g = d.length - r.next ∧ r.next < 30 ∧ RunAt wr (w.heap.size + 1 + 1 + 1) r ∧ Hid (runF s d r = doF s d) ∧ Below (w.heap.size + 3) W0 wr)
  case atStart => exact ⟨⟨fun _ => 0, s, 0⟩, by simp, by simp, hR0, rfl, Below.refl _ _⟩
  case round =>
    obtain ⟨r, hg, h30, hR, hF, hB⟩ := hrel
    have h14 := hR.place
    have hz : w.heap.size + 1 + 1 + 1 < wr.heap.size := hR.lt
    have hne : ¬ w.heap.size + 1 + 1 + 1 = wr.heap.size := by omega
    have hne0 : ¬ w.heap.size = wr.heap.size := by omega
    have hne1 : ¬ w.heap.size + 1 = wr.heap.size := by omega
    have hne2 : ¬ w.heap.size + 1 + 1 = wr.heap.size := by omega
    by_cases hlt : r.next < d.length
    · obtain ⟨b, off, rfl, c0, c1, c2, c3, c4⟩ := hd r.next hlt
      have hB' : Below w.heap.size w wr := hB0.trans (hB.mono (by omega))
      replace c0 := cell_later hB' c0
      replace c1 := cell_later hB' c1
      replace c2 := cell_later hB' c2
      replace c3 := cell_later hB' c3
      replace c4 := cell_later hB' c4
      have hal := HA.out r.next hlt
      have hparts := alone_parts hal
      have HAL : Hid (aloneF d[r.next] = 0) := hal
      clear hd hal
      by_cases h8 : d[r.next].k = 8
      · have t8 : (d[r.next].k == 8) = true := by simp [h8]
        have q0 : 0 ≤ d[r.next].a := by omega
        have q1 : d[r.next].a < 4 := by omega
        have hreg := hR.reg d[r.next].a.toNat (by omega)
        by_cases h0 : r.regs d[r.next].a.toNat = 0
        · have t0 : (r.regs d[r.next].a.toNat != 0) = false := by simp [h0]
          have hF' : Hid (runF s d (stepF d[r.next] r) = doF s d) := (runF_step hlt (by simp [h0])).trans hF.out
          clear hF h0 hparts h8
          go_wp2_with fail
          refine (step_any _ d[r.next] HAL.out r _ (hR.alloc _) (by omega)).mono ?_
          rintro e w1 ⟨rfl, hR1, hb1⟩
          have h30' := stepF_bound HAL.out (r := r) (by omega)
          have hB1 : Below (w.heap.size + 3) W0 w1 := (hB.alloc (by omega) _).trans hb1
          have hnx := stepF_next d[r.next] r
          clear c0 c1 c2 c3 c4 hB hb1 hreg h14
          go_wp2_with fail
          go_roundg (d.length - (stepF d[r.next] r).next)
          case measure => omega
          case rel => exact ⟨_, rfl, h30', hR1, hF', hB1⟩
        · have t0 : (r.regs d[r.next].a.toNat != 0) = true := by simp [h0]
          have hF' : Hid (doF s d = ⟨s, 9, r.regs⟩) := hF.out.symm.trans (runF_stop hlt h8 (by simpa using h0))
          clear hF h0 hparts h8
          go_wp2_with fail
          obtain ⟨W1, e1⟩ : ∃ W1, W1 = wr.alloc (.cells #[.int .i64 d[r.next].k, .int .i64 d[r.next].a, .int .i64 d[r.next].b, .int .i64 d[r.next].c, .int .i64 d[r.next].n] 63) := ⟨_, rfl⟩
          rw [← e1]
          have hR1 : RunAt W1 (w.heap.size + 1 + 1 + 1) r := by rw [e1]; exact hR.alloc _
          have hB1 : Below (w.heap.size + 3) W0 W1 := by rw [e1]; exact hB.alloc (by omega) _
          have hBw : Below w.heap.size w W1 := hB0.trans (hB1.mono (by omega))
          have hS := hS0.later hB1
          obtain ⟨k0, k1, k2, k3, k4, k5, k6, k7, k8, k9⟩ := hS.boxes
          obtain ⟨y0, y1, y2, y3, y4, y5, y6, y7, y8, y9⟩ := hS.ones
          obtain ⟨z0, z1, z2, z3, z4⟩ := hS.twos
          obtain ⟨g0, g1, g2, g3⟩ := hR1.regs4
          have k4' := hS.free1
          have k5' := hS.free2
          clear e1 hR hB hS c0 c1 c2 c3 c4 hreg h14 hB' hne hne0 hne1 hne2
          go_region
          all_goals go_wp2_with fail
          all_goals exact bodyPost_ret (v := .tuple #[stV s, resV 9 r.regs]) (by simp [results, Tryd.results65, go_sem, stV, resV, y0, y1, y2, y3, y4, y5, y6, y7, y8, y9, z0, z1, z2, z3, z4]) rfl ⟨ret_tuple2 hF'.out rfl rfl rfl, below_res hBw (by omega) (by omega) _ _ _ _ _ _ _ _ _ _ _ _ _ _ _⟩
      · have t8 : (d[r.next].k == 8) = false := by simp [h8]
        have hF' : Hid (runF s d (stepF d[r.next] r) = doF s d) := (runF_step hlt (fun h => h8 h.1)).trans hF.out
        clear hF hparts h8
        go_wp2_with fail
        refine (step_any _ d[r.next] HAL.out r _ (hR.alloc _) (by omega)).mono ?_
        rintro e w1 ⟨rfl, hR1, hb1⟩
        have h30' := stepF_bound HAL.out (r := r) (by omega)
        have hB1 : Below (w.heap.size + 3) W0 w1 := (hB.alloc (by omega) _).trans hb1
        have hnx := stepF_next d[r.next] r
        clear c0 c1 c2 c3 c4 hB hb1 h14
        go_wp2_with fail
        go_roundg (d.length - (stepF d[r.next] r).next)
        case measure => omega
        case rel => exact ⟨_, rfl, h30', hR1, hF', hB1⟩
    · have hF' : Hid (doF s d = ⟨r.st, 0, r.regs⟩) := hF.out.symm.trans (runF_end hlt)
      have hS := hS0.later hB
      have hBw : Below w.heap.size w wr := hB0.trans (hB.mono (by omega))
      obtain ⟨k0, k1, k2, k3, k4, k5, k6, k7, k8, k9⟩ := hR.keys
      obtain ⟨y0, y1, y2, y3, y4, y5, y6, y7, y8, y9⟩ := hS.ones
      obtain ⟨z0, z1, z2, z3, z4⟩ := hS.twos
      obtain ⟨g0, g1, g2, g3⟩ := hR.regs4
      have k4' := hS.free1
      have k5' := hS.free2
      clear hF hS hd
      go_wp2_with fail
      clear hne hne0 hne1 hne2
      go_region
      all_goals go_wp2_with fail
      all_goals exact bodyPost_ret (v := .tuple #[stV r.st, resV 0 r.regs]) (by simp [results, Tryd.results65, go_sem, stV, resV, y0, y1, y2, y3, y4, y5, y6, y7, y8, y9, z0, z1, z2, z3, z4]) rfl ⟨ret_tuple2 hF'.out rfl rfl rfl, below_res hBw (by omega) (by omega) _ _ _ _ _ _ _ _ _ _ _ _ _ _ _⟩
end Go.Proofs.YtihfjmdjjeciiacDoor
