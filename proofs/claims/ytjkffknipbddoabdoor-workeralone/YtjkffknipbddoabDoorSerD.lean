/-
  The walk of serial.Do.
-/
import Derived.Test.YtjkffknipbddoabDoorSerC
import Derived.Test.YtjkffknipbddoabDoorMathW
namespace Go.Proofs.YtjkffknipbddoabDoor
open Go.RowKit

/-- The first world of a call that boxes a state and has a state and a result to answer. -/
theorem base_open (w : World) (s : Nat → Int) : ∃ W0, W0 = ((w.alloc (.cells #[.int .i64 (s 0), .int .i64 (s 1), .int .i64 (s 2), .int .i64 (s 3), .int .i64 (s 4), .int .i64 (s 5), .int .i64 (s 6), .int .i64 (s 7), .int .i64 (s 8), .int .i64 (s 9)] 23)).alloc (.cells #[.int .i64 0, .int .i64 0, .int .i64 0, .int .i64 0, .int .i64 0, .int .i64 0, .int .i64 0, .int .i64 0, .int .i64 0, .int .i64 0] 23)).alloc (.cells #[.int .i64 0, .int .i64 0, .int .i64 0, .int .i64 0, .int .i64 0] 36) ∧ Below w.heap.size w W0 ∧ W0.heap.size = w.heap.size + 3 ∧ RunBase W0 w.heap.size s := by
  refine ⟨_, rfl, (((Below.refl _ _).alloc (Nat.le_refl _) _).alloc (by simp) _).alloc (by simp; omega) _, by simp, ?_⟩
  exact ⟨lt10 (by go_simp) (by go_simp) (by go_simp) (by go_simp) (by go_simp) (by go_simp) (by go_simp) (by go_simp) (by go_simp) (by go_simp), lt10 (by go_simp) (by go_simp) (by go_simp) (by go_simp) (by go_simp) (by go_simp) (by go_simp) (by go_simp) (by go_simp) (by go_simp), lt5 (by go_simp) (by go_simp) (by go_simp) (by go_simp) (by go_simp), fun o => by go_simp, fun o => by go_simp⟩

theorem ret_tuple3 {s t : Nat → Int} {c d : Int} {g h : Nat → Int} {o : Out} {k l : Int} (ho : o = ⟨t, d, h⟩) (hs : s = t) (hc : c = d) (hg : g = h) (hk : k = l) : Ending.returned (.tuple #[stV s, resV c g, .int .i64 k]) = .returned (.tuple #[stV o.st, resV o.code o.regs, .int .i64 l]) := by
  subst ho hs hc hg hk; rfl

set_option maxHeartbeats 1000000 in
theorem do_good (v : Value) (d : List Op5) (s : Nat → Int) (w : World) (hd : DeedAt w v d) (h0 : (checkF d).1 = 0) (hL : Lim w) :
    Calls Tryd.prog 12 #[stV s, v] w fun e w' => e = .returned (.tuple #[stV (doF s d).st, resV (doF s d).code (doF s d).regs, .int .i64 0]) ∧ Below w.heap.size w w' := by
  have hlen := check_len h0
  have H0 : Hid ((checkF d).1 = 0) := h0
  have HA : Hid (∀ o ∈ d, aloneF o = 0) := checkF_alone h0
  clear h0
  have hrun := fun w' (hd' : DeedAt w' v d) => run_any v d s w' hd' hlen HA.out
  obtain ⟨o, ho⟩ : ∃ o, o = doF s d := ⟨_, rfl⟩
  rw [← ho] at hrun ⊢
  clear ho HA
  show Calls Tryd.prog 12 #[.agg #[.int .i64 (s 0), .int .i64 (s 1), .int .i64 (s 2), .int .i64 (s 3), .int .i64 (s 4), .int .i64 (s 5), .int .i64 (s 6), .int .i64 (s 7), .int .i64 (s 8), .int .i64 (s 9)], _] w _
  go_enter Tryd.func12, Tryd.ntmps12
  go_wp2_with fail
  obtain ⟨W0, e0, hB0, hsz, hS0⟩ := base_open w s
  rw [← e0]
  clear e0
  refine (check_any _ d _ (hd.later hB0) (by omega) (hL.later hB0)).mono ?_
  rintro e w1 ⟨rfl, hb1⟩
  rw [H0.out]
  have hB1 : Below (w.heap.size + 3) W0 w1 := hb1.mono (by omega)
  have hz1 : w.heap.size + 3 ≤ w1.heap.size := by have := hb1.size; omega
  have hS1 := hS0.later hB1
  obtain ⟨k0, k1, k2, k3, k4, k5, k6, k7, k8, k9⟩ := hS1.boxes
  have hlt0 : w.heap.size < w1.heap.size := by omega
  go_wp2_with fail
  have hb1' : Below w.heap.size w w1 := hB0.trans (hB1.mono (by omega))
  refine (hrun _ (hd.later (hb1'.alloc (by omega) _))).mono ?_
  rintro e w2 ⟨he, hb2⟩
  simp only [stV, resV] at he
  subst he
  have hB2 : Below (w.heap.size + 3) W0 w2 := (hB1.alloc (by omega) _).trans (hb2.mono (by simp; omega))
  have hz2 : w.heap.size + 3 ≤ w2.heap.size := by have := hb2.size; simp at this; omega
  clear hb2 hB1 hS1 k0 k1 k2 k3 k4 k5 k6 k7 k8 k9
  go_wp2_with fail
  obtain ⟨W3, e3⟩ : ∃ W3, W3 = (w2.alloc (.cells #[.int .i64 (o.st 0), .int .i64 (o.st 1), .int .i64 (o.st 2), .int .i64 (o.st 3), .int .i64 (o.st 4), .int .i64 (o.st 5), .int .i64 (o.st 6), .int .i64 (o.st 7), .int .i64 (o.st 8), .int .i64 (o.st 9)] 23)).alloc (.cells #[.int .i64 o.code, .int .i64 (o.regs 0), .int .i64 (o.regs 1), .int .i64 (o.regs 2), .int .i64 (o.regs 3)] 36) := ⟨_, rfl⟩
  have hB3 : Below (w.heap.size + 3) W0 W3 := by rw [e3]; exact (hB2.alloc (by omega) _).alloc (by simp; omega) _
  have hBw : Below w.heap.size w W3 := hB0.trans (hB3.mono (by omega))
  have hS3 := hS0.later hB3
  obtain ⟨y0, y1, y2, y3, y4, y5, y6, y7, y8, y9⟩ := hS3.ones
  obtain ⟨z0, z1, z2, z3, z4⟩ := hS3.twos
  have k4' := hS3.free1
  have k5' := hS3.free2
  have k0 : W3.cell? ⟨w2.heap.size, 0, none⟩ = some (.int .i64 (o.st 0)) := by rw [e3]; go_simp
  have k1 : W3.cell? ⟨w2.heap.size, 1, none⟩ = some (.int .i64 (o.st 1)) := by rw [e3]; go_simp
  have k2 : W3.cell? ⟨w2.heap.size, 2, none⟩ = some (.int .i64 (o.st 2)) := by rw [e3]; go_simp
  have k3 : W3.cell? ⟨w2.heap.size, 3, none⟩ = some (.int .i64 (o.st 3)) := by rw [e3]; go_simp
  have k4 : W3.cell? ⟨w2.heap.size, 4, none⟩ = some (.int .i64 (o.st 4)) := by rw [e3]; go_simp
  have k5 : W3.cell? ⟨w2.heap.size, 5, none⟩ = some (.int .i64 (o.st 5)) := by rw [e3]; go_simp
  have k6 : W3.cell? ⟨w2.heap.size, 6, none⟩ = some (.int .i64 (o.st 6)) := by rw [e3]; go_simp
  have k7 : W3.cell? ⟨w2.heap.size, 7, none⟩ = some (.int .i64 (o.st 7)) := by rw [e3]; go_simp
  have k8 : W3.cell? ⟨w2.heap.size, 8, none⟩ = some (.int .i64 (o.st 8)) := by rw [e3]; go_simp
  have k9 : W3.cell? ⟨w2.heap.size, 9, none⟩ = some (.int .i64 (o.st 9)) := by rw [e3]; go_simp
  have g0 : W3.cell? ⟨w2.heap.size + 1, 0, none⟩ = some (.int .i64 o.code) := by rw [e3]; go_simp
  have g1 : W3.cell? ⟨w2.heap.size + 1, 1, none⟩ = some (.int .i64 (o.regs 0)) := by rw [e3]; go_simp
  have g2 : W3.cell? ⟨w2.heap.size + 1, 2, none⟩ = some (.int .i64 (o.regs 1)) := by rw [e3]; go_simp
  have g3 : W3.cell? ⟨w2.heap.size + 1, 3, none⟩ = some (.int .i64 (o.regs 2)) := by rw [e3]; go_simp
  have g4 : W3.cell? ⟨w2.heap.size + 1, 4, none⟩ = some (.int .i64 (o.regs 3)) := by rw [e3]; go_simp
  have n1 : ¬ w.heap.size + 1 = w2.heap.size := by omega
  have n2 : ¬ w.heap.size + 1 + 1 = w2.heap.size := by omega
  have n3 : ¬ w.heap.size + 1 = w2.heap.size + 1 := by omega
  have n4 : ¬ w.heap.size + 1 + 1 = w2.heap.size + 1 := by omega
  rw [← e3]
  clear e3 hS3 hB3 hB2 hS0
  go_region
  all_goals go_wp2_with fail
  all_goals exact bodyPost_ret (v := .tuple #[stV o.st, resV o.code o.regs, .int .i64 0]) (by simp [results, Tryd.results12, go_sem, stV, resV, y0, y1, y2, y3, y4, y5, y6, y7, y8, y9, z0, z1, z2, z3, z4]) rfl ⟨rfl, below_res hBw (by omega) (by omega) _ _ _ _ _ _ _ _ _ _ _ _ _ _ _⟩
end Go.Proofs.YtjkffknipbddoabDoor
