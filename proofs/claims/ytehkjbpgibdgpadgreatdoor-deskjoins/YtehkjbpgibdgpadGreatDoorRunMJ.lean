/-
  The walk of round.Run with too many picks.
-/
import Derived.Test.YtehkjbpgibdgpadGreatDoorJqRn
namespace Go.Proofs.YtehkjbpgibdgpadGreatDoor
open Go.RowKit Go.Shelf

set_option maxRecDepth 100000 in
set_option maxHeartbeats 2000000 in
theorem run_many (v : Value) (r : List (List Op5)) (s : Nat → Int) (a : Option Addr) (cap n : Nat) (w : World) (hr : RoundAt w v r) (hf : Fits r) (h0 : roundF r = 0) (hL : Lim w) (hn : 300 < n) :
    Calls Tryz.prog 142 #[stV s, v, .slice a n cap] w fun e w' => e = .returned (.tuple #[stV (fun _ => 0), .slice none 0 0, .int .i64 4]) ∧ Below w.heap.size w w' := by
  obtain ⟨W0, e0, hB0, hsz, hX0, hY0, hf0⟩ := run_open w s
  have hnew := round_new v r s W0 (hr.later hB0) hf h0 (hL.later hB0)
  obtain ⟨ra, rcap, rfl, -⟩ := hr
  have hni : (300 : Int) < (n : Int) := by omega
  obtain ⟨k0, k1, k2, k3, k4, k5, k6, k7, k8, k9⟩ := hX0.ten
  show Calls Tryz.prog 142 #[.agg #[.int .i64 (s 0), .int .i64 (s 1), .int .i64 (s 2), .int .i64 (s 3), .int .i64 (s 4), .int .i64 (s 5), .int .i64 (s 6), .int .i64 (s 7), .int .i64 (s 8), .int .i64 (s 9)], _, _] w _
  go_enter Tryz.func142, Tryz.ntmps142
  go_wp2_with fail
  rw [← e0]
  clear e0
  refine hnew.mono ?_
  clear hnew k0 k1 k2 k3 k4 k5 k6 k7 k8 k9 hX0
  rintro e w1 ⟨c, E, B, vW, C, U, rfl, -, hb1⟩
  have hY1 := hY0.later hb1
  have hBw : Below w.heap.size w w1 := hB0.trans (hb1.mono hB0.size)
  obtain ⟨y0, y1, y2, y3, y4, y5, y6, y7, y8, y9⟩ := hY1.ten
  have hf1 : ∀ o, w1.frozen? ⟨w.heap.size + 1, o, none⟩ = false := fun o => by rw [hb1.frozen (p := ⟨w.heap.size + 1, o, none⟩) (by simp; omega)]; exact hf0 o
  clear hb1 hY1 hY0 hf0 hB0
  go_wp2_with fail
  exact bodyPost_ret (v := .tuple #[stV (fun _ => 0), .slice none 0 0, .int .i64 4]) (by simp [results, Tryz.results142, go_sem, stV, y0, y1, y2, y3, y4, y5, y6, y7, y8, y9]) rfl ⟨rfl, below_ten hBw (by omega) _ _ _ _ _ _ _ _ _ _⟩
end Go.Proofs.YtehkjbpgibdgpadGreatDoor
