/-
  The walk of worker.New.
-/
import Derived.Test.YthlhbmldfjkagaaDoorOwnA
namespace Go.Proofs.YthlhbmldfjkagaaDoor
open Go.RowKit Go.Shelf

theorem fld0 (c n : Int) (w : World) : (Instr.field 29 (.agg #[.int .i64 c, .int .i64 n]) 0).run Tryd.prog w = .ok (.int .i64 c) w := by kernel_rfl

set_option maxHeartbeats 1000000 in
theorem worker_none (dv : Value) (d : List Op5) (b : Int) (w : World) (hd : DeedAt w dv d) (hmax : d.length ≤ 9223372036854775807) (hL : Lim w) (h : (checkF d).1 ≠ 0 ∨ b < 0 ∨ 8 ≤ b) :
    Calls Tryd.prog 48 #[dv, .int .i64 b] w fun e w' => e = .returned (.pointer none) ∧ Below w.heap.size w w' := by
  have hck := check_any dv d w hd hmax hL
  obtain ⟨c, hc⟩ : ∃ c, c = (checkF d).1 := ⟨_, rfl⟩
  obtain ⟨n, hn⟩ : ∃ n, n = (checkF d).2 := ⟨_, rfl⟩
  rw [← hc, ← hn] at hck
  rw [← hc] at h
  have hfld := fld0 c n
  clear hc hn
  obtain ⟨da, dcap, rfl, -⟩ := hd
  go_enter Tryd.func48, Tryd.ntmps48
  go_wp2_with fail
  refine hck.mono ?_
  clear hck
  rintro e w1 ⟨rfl, hb1⟩
  by_cases h0 : c = 0
  · have t0 : (c != 0) = false := by simp [h0]
    have h' : b < 0 ∨ 8 ≤ b := by
      rcases h with h | h
      · exact absurd h0 h
      · exact h
    clear h h0
    rcases h' with hb | hb
    · go_wp2_with fail
      go_ret
      exact ⟨rfl, hb1⟩
    · have hb' : ¬ b < 0 := by omega
      go_wp2_with fail
      go_ret
      exact ⟨rfl, hb1⟩
  · have t0 : (c != 0) = true := by simp [h0]
    clear h h0
    go_wp2_with fail
    go_ret
    exact ⟨rfl, hb1⟩

set_option maxRecDepth 100000 in
set_option maxHeartbeats 1000000 in
theorem worker_new (dv : Value) (d : List Op5) (b : Nat) (w : World) (hd : DeedAt w dv d) (hc : (checkF d).1 = 0) (hb : b < 8) (hL : Lim w) :
    Calls Tryd.prog 48 #[dv, .int .i64 (b : Int)] w fun e w' => ∃ C u, e = .returned (.pointer (some ⟨C, 0, none⟩)) ∧ w.heap.size ≤ C ∧ WorkAt w' C u b wk0 ∧ DeedIn (fun g => w.heap.size ≤ g ∧ g ≠ C) w' u d ∧ Below w.heap.size w w' := by
  have hlen := check_len hc
  have hck := check_any dv d w hd (by omega) hL
  obtain ⟨n, hn⟩ : ∃ n, n = (checkF d).2 := ⟨_, rfl⟩
  rw [← hn, hc] at hck
  have hfld := fld0 0 n
  clear hn hc
  have HD := hd
  obtain ⟨da, dcap, rfl, -⟩ := hd
  have hb0 : ¬ (b : Int) < 0 := by omega
  have hb8 : ¬ (8 : Int) ≤ (b : Int) := by omega
  go_enter Tryd.func48, Tryd.ntmps48
  go_wp2_with fail
  refine hck.mono ?_
  clear hck
  rintro e w1 ⟨rfl, hb1⟩
  go_wp2_with fail
  have hbA : Below w.heap.size w (w1.alloc (.cells #[.slice da d.length dcap] 32)) := hb1.alloc hb1.size _
  refine (own_one w1.heap.size (.slice da d.length dcap) d _ (by go_simp) (HD.later hbA) hlen).mono ?_
  rintro e w2 ⟨u, rfl, hu, hdu, hb2⟩
  have hB2 : Below w.heap.size w w2 := hbA.trans (hb2.mono hbA.size)
  rw [World.size_alloc] at hu hdu
  have hz2 : w1.heap.size + 1 < w2.heap.size := World.block_lt_of_cell? w2 _ hu
  have hz1 := hb1.size
  obtain ⟨ua, ucap, rfl, -⟩ := id hdu
  clear hbA hb2 hb1 HD hfld
  go_wp2_with fail
  go_ret
  have hBn : Below w2.heap.size w2 (w2.alloc (.cells #[.slice ua d.length ucap, .int .i64 (b : Int), .int .i64 0, .int .i64 0, .bool false, .int .i64 0, .bool false, .int .i64 0, .bool false, .int .i64 0, .bool false, .int .i64 0, .bool false, .int .i64 0, .bool false, .int .i64 0, .bool false, .int .i64 0, .bool false, .int .i64 0, .bool false, .int .i64 0, .bool false, .int .i64 0, .int .i64 0, .int .i64 0, .int .i64 0, .int .i64 0, .bool false] 124)) := (Below.refl _ _).alloc (Nat.le_refl _) _
  refine ⟨w2.heap.size, .slice ua d.length ucap, rfl, by omega, ?_, (hdu.mono (fun g hg h => ⟨by omega, by omega⟩)).later hBn, hB2.alloc hB2.size _⟩
  show WorkAt _ _ _ _ ⟨0, fun _ => false, fun _ => 0, fun _ => 0, 0, false⟩
  exact ⟨by go_simp, by go_simp, by go_simp, lt10 (by go_simp) (by go_simp) (by go_simp) (by go_simp) (by go_simp) (by go_simp) (by go_simp) (by go_simp) (by go_simp) (by go_simp), lt10 (by go_simp) (by go_simp) (by go_simp) (by go_simp) (by go_simp) (by go_simp) (by go_simp) (by go_simp) (by go_simp) (by go_simp), by go_simp, lt4 (by go_simp) (by go_simp) (by go_simp) (by go_simp), by go_simp, fun o => by go_simp⟩
end Go.Proofs.YthlhbmldfjkagaaDoor
