/-
  The law TableOnce, whatever it is given.
-/
import Derived.Test.YtbelfonijmafeaaDoorTabJ
namespace Go.Proofs.YtbelfonijmafeaaDoor
open Go.RowKit Go.Shelf

set_option maxRecDepth 100000 in
set_option maxHeartbeats 1000000 in
theorem once_long (v : Value) (r : List (List Op5)) (s : Nat → Int) (a : Option Addr) (cap : Nat) (l : List Step4) (k b : Int) (w : World) (hr : RoundAt w v r) (hf : Fits r) (hl2 : 200 < l.length) (hmax : l.length ≤ 9223372036854775807) (hL : Lim w) :
    Calls Tryd.prog 10 #[stV s, v, .slice a l.length cap, .int .i64 k, .int .i64 b] w fun e w' => e = .returned (.bool true) ∧ Below w.heap.size w w' := by
  show Calls Tryd.prog 10 #[.agg #[.int .i64 (s 0), .int .i64 (s 1), .int .i64 (s 2), .int .i64 (s 3), .int .i64 (s 4), .int .i64 (s 5), .int .i64 (s 6), .int .i64 (s 7), .int .i64 (s 8), .int .i64 (s 9)], _, _, _, _] w _
  have hB0 : Below w.heap.size w (w.alloc (.cells #[.int .i64 (s 0), .int .i64 (s 1), .int .i64 (s 2), .int .i64 (s 3), .int .i64 (s 4), .int .i64 (s 5), .int .i64 (s 6), .int .i64 (s 7), .int .i64 (s 8), .int .i64 (s 9)] 38)) := (Below.refl _ _).alloc (Nat.le_refl _) _
  go_enter Tryd.func10, Tryd.ntmps10
  go_wp2_with fail
  refine (begun_any _ (hL.later hB0)).mono ?_
  rintro e w1 ⟨rfl, hb1⟩
  have hB1 : Below w.heap.size w w1 := hB0.trans (hb1.mono (by simp))
  clear hB0 hb1
  go_wp2_with fail
  refine (great_any _ r _ (hr.later hB1) hf).mono ?_
  rintro e w2 ⟨⟨g, rfl⟩, rfl⟩
  cases g
  · go_wp2_with fail
    go_ret
    exact ⟨rfl, hB1⟩
  · go_wp2_with fail
    go_ret
    exact ⟨rfl, hB1⟩

set_option maxRecDepth 100000 in
set_option maxHeartbeats 1000000 in
theorem once_bad (v : Value) (r : List (List Op5)) (s : Nat → Int) (a : Option Addr) (cap : Nat) (l : List Step4) (k b : Int) (w : World) (hr : RoundAt w v r) (hf : Fits r) (h0 : ¬ roundF r = 0) (hl2 : l.length ≤ 200) (hL : Lim w) :
    Calls Tryd.prog 10 #[stV s, v, .slice a l.length cap, .int .i64 k, .int .i64 b] w fun e w' => e = .returned (.bool true) ∧ Below w.heap.size w w' := by
  have hnew := fun w' hr' hL' => new_bad v r s w' hr' hf h0 hL'
  obtain ⟨c, hc⟩ : ∃ c, c = roundF r := ⟨_, rfl⟩
  rw [← hc] at h0 hnew
  have t0 : (c != 0) = true := by simp [h0]
  clear hc h0
  show Calls Tryd.prog 10 #[.agg #[.int .i64 (s 0), .int .i64 (s 1), .int .i64 (s 2), .int .i64 (s 3), .int .i64 (s 4), .int .i64 (s 5), .int .i64 (s 6), .int .i64 (s 7), .int .i64 (s 8), .int .i64 (s 9)], _, _, _, _] w _
  have hB0 : Below w.heap.size w (w.alloc (.cells #[.int .i64 (s 0), .int .i64 (s 1), .int .i64 (s 2), .int .i64 (s 3), .int .i64 (s 4), .int .i64 (s 5), .int .i64 (s 6), .int .i64 (s 7), .int .i64 (s 8), .int .i64 (s 9)] 38)) := (Below.refl _ _).alloc (Nat.le_refl _) _
  have hX0 := box_new w s
  go_enter Tryd.func10, Tryd.ntmps10
  go_wp2_with fail
  refine (begun_any _ (hL.later hB0)).mono ?_
  rintro e w1 ⟨rfl, hb1⟩
  have hB1 : Below w.heap.size w w1 := hB0.trans (hb1.mono (by simp))
  have hX1 := hX0.later hb1
  obtain ⟨k0, k1, k2, k3, k4, k5, k6, k7, k8, k9⟩ := hX1.ten
  clear hB0 hb1 hX0
  go_wp2_with fail
  refine (great_any _ r _ (hr.later hB1) hf).mono ?_
  rintro e w2 ⟨⟨g, rfl⟩, rfl⟩
  cases g
  · go_wp2_with fail
    refine (hnew _ (hr.later hB1) (hL.later hB1)).mono ?_
    clear hnew
    rintro e w3 ⟨rfl, hb3⟩
    have hB3 : Below w.heap.size w w3 := hB1.trans (hb3.mono hB1.size)
    clear hb3 hX1 k0 k1 k2 k3 k4 k5 k6 k7 k8 k9
    go_wp2_with fail
    go_ret
    exact ⟨rfl, hB3⟩
  · go_wp2_with fail
    go_ret
    exact ⟨rfl, hB1⟩

theorem once_any (v : Value) (r : List (List Op5)) (s : Nat → Int) (a : Option Addr) (cap : Nat) (l : List Step4) (k b : Int) (w : World) (hr : RoundAt w v r) (hf : Fits r) (hl : StepsAt w (.slice a l.length cap) l) (hmax : l.length ≤ 9223372036854775807) (hL : Lim w) :
    Calls Tryd.prog 10 #[stV s, v, .slice a l.length cap, .int .i64 k, .int .i64 b] w fun e w' => e = .returned (.bool true) ∧ Below w.heap.size w w' := by
  by_cases h : 200 < l.length
  · exact once_long v r s a cap l k b w hr hf h hmax hL
  · by_cases h0 : roundF r = 0
    · exact once_good v r s a cap l k b w hr hf h0 hl (by omega) hL
    · exact once_bad v r s a cap l k b w hr hf h0 (by omega) hL
end Go.Proofs.YtbelfonijmafeaaDoor
