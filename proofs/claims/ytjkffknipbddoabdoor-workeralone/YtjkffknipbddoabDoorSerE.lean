/-
  The walks of serial.Do at a deed with a fault, of caracoleref.Stores and IsKey, and of serialBegun.
-/
import Derived.Test.YtjkffknipbddoabDoorSerD
namespace Go.Proofs.YtjkffknipbddoabDoor
open Go.RowKit

set_option maxHeartbeats 1000000 in
theorem do_bad (v : Value) (d : List Op5) (s : Nat → Int) (w : World) (hd : DeedAt w v d) (hmax : d.length ≤ 9223372036854775807) (h0 : ¬ (checkF d).1 = 0) (hL : Lim w) :
    Calls Tryd.prog 12 #[stV s, v] w fun e w' => e = .returned (.tuple #[stV (fun _ => 0), resV 0 (fun _ => 0), .int .i64 (checkF d).1]) ∧ Below w.heap.size w w' := by
  have hchk := fun w' (hd' : DeedAt w' v d) (hL' : Lim w') => check_any v d w' hd' hmax hL'
  obtain ⟨c, hc⟩ : ∃ c, c = (checkF d).1 := ⟨_, rfl⟩
  obtain ⟨q, hq⟩ : ∃ q, q = (checkF d).2 := ⟨_, rfl⟩
  rw [← hc, ← hq] at hchk
  rw [← hc] at h0 ⊢
  have t0 : (c != 0) = true := by simp [h0]
  clear hc hq h0
  show Calls Tryd.prog 12 #[.agg #[.int .i64 (s 0), .int .i64 (s 1), .int .i64 (s 2), .int .i64 (s 3), .int .i64 (s 4), .int .i64 (s 5), .int .i64 (s 6), .int .i64 (s 7), .int .i64 (s 8), .int .i64 (s 9)], _] w _
  go_enter Tryd.func12, Tryd.ntmps12
  go_wp2_with fail
  obtain ⟨W0, e0, hB0, hsz, hS0⟩ := base_open w s
  rw [← e0]
  clear e0
  refine (hchk _ (hd.later hB0) (hL.later hB0)).mono ?_
  rintro e w1 ⟨rfl, hb1⟩
  have hB1 : Below (w.heap.size + 3) W0 w1 := hb1.mono (by omega)
  have hz1 : w.heap.size + 3 ≤ w1.heap.size := by have := hb1.size; omega
  have hlt0 : w.heap.size < w1.heap.size := by omega
  go_wp2_with fail
  obtain ⟨W3, e3⟩ : ∃ W3, W3 = w1.alloc (.cells #[.int .i64 c, .int .i64 q] 65) := ⟨_, rfl⟩
  have hB3 : Below (w.heap.size + 3) W0 W3 := by rw [e3]; exact hB1.alloc (by omega) _
  have hBw : Below w.heap.size w W3 := hB0.trans (hB3.mono (by omega))
  have hS3 := hS0.later hB3
  obtain ⟨y0, y1, y2, y3, y4, y5, y6, y7, y8, y9⟩ := hS3.ones
  obtain ⟨z0, z1, z2, z3, z4⟩ := hS3.twos
  have k4' := hS3.free1
  have k5' := hS3.free2
  have g0 : W3.cell? ⟨w1.heap.size, 0, none⟩ = some (.int .i64 c) := by rw [e3]; go_simp
  have n1 : ¬ w.heap.size + 1 = w1.heap.size := by omega
  have n2 : ¬ w.heap.size + 1 + 1 = w1.heap.size := by omega
  rw [← e3]
  clear e3 hS3 hB3 hB1 hS0 hchk
  go_region
  all_goals go_wp2_with fail
  all_goals exact bodyPost_ret (v := .tuple #[stV (fun _ => 0), resV 0 (fun _ => 0), .int .i64 c]) (by simp [results, Tryd.results12, go_sem, stV, resV, y0, y1, y2, y3, y4, y5, y6, y7, y8, y9, z0, z1, z2, z3, z4]) rfl ⟨rfl, below_res hBw (by omega) (by omega) _ _ _ _ _ _ _ _ _ _ _ _ _ _ _⟩
end Go.Proofs.YtjkffknipbddoabDoor
