/-
  The walk of roundBegun.
-/
import Derived.Test.YthlhbmldfjkagabDoorRndF
import Derived.Test.YthlhbmldfjkagabDoorEqA
namespace Go.Proofs.YthlhbmldfjkagabDoor
open Go.RowKit Go.Shelf

def dR0 : List Op5 := [⟨1, 0, 0, 0, 5⟩, ⟨7, 2, 0, 0, 0⟩]
def dR1 : List Op5 := [⟨2, 0, 2, 0, 0⟩, ⟨7, 1, 0, 0, 0⟩]
def rR : List (List Op5) := [dR0, dR1]
theorem roundR : roundF rR = 0 := by decide
theorem fitsR : Fits rR := ⟨by simp [rR], fun i hi => by
  have : i = 0 ∨ i = 1 := by simp [rR] at hi; omega
  rcases this with rfl | rfl <;> simp [rR, dR0, dR1]⟩
def sR : Nat → Int := fun k => if k = 1 ∨ k = 2 then 5 else 0
theorem doR0 : doF (fun _ => 0) dR0 = ⟨putAt (fun _ => 0) 2 5, 0, putAt (fun _ => 0) 0 5⟩ := by
  unfold doF
  rw [← runF_step (d := dR0) (r := ⟨fun _ => 0, fun _ => 0, 0⟩) (by decide) (by decide)]
  rw [← runF_step (d := dR0) (by decide) (by decide)]
  rw [runF_end (by decide)]
  rfl
theorem doR1 : doF (putAt (fun _ => 0) 2 5) dR1 = ⟨putAt (putAt (fun _ => 0) 2 5) 1 5, 0, putAt (fun _ => 0) 0 5⟩ := by
  unfold doF
  rw [← runF_step (d := dR1) (r := ⟨fun _ => 0, putAt (fun _ => 0) 2 5, 0⟩) (by decide) (by decide)]
  rw [← runF_step (d := dR1) (by decide) (by decide)]
  rw [runF_end (by decide)]
  rfl
theorem stR : allSt (fun _ => 0) rR = sR := by
  show (doF (doF (fun _ => 0) dR0).st dR1).st = sR
  rw [doR0]
  dsimp only
  rw [doR1]
  funext k
  unfold putAt sR
  by_cases h1 : k = 1
  · simp [h1]
  · by_cases h2 : k = 2
    · simp [h2]
    · simp [h1, h2]
theorem outR : (outAt (fun _ => 0) rR 1).regs 0 = 5 := by
  show (doF (doF (fun _ => 0) dR0).st dR1).regs 0 = 5
  rw [doR0]
  dsimp only
  rw [doR1]
  rfl

theorem roundAtR (w : World) : RoundAt (((w.alloc (.cells #[.int .i64 1, .int .i64 0, .int .i64 0, .int .i64 0, .int .i64 5, .int .i64 7, .int .i64 2, .int .i64 0, .int .i64 0, .int .i64 0] 91)).alloc (.cells #[.int .i64 2, .int .i64 0, .int .i64 2, .int .i64 0, .int .i64 0, .int .i64 7, .int .i64 1, .int .i64 0, .int .i64 0, .int .i64 0] 91)).alloc (.cells #[.slice (some ⟨w.heap.size, 0, none⟩) 2 2, .slice (some ⟨w.heap.size + 1, 0, none⟩) 2 2] 50)) (.slice (some ⟨w.heap.size + 1 + 1, 0, none⟩) 2 2) rR := by
  refine ⟨_, 2, rfl, fun i hi => ?_⟩
  have : i = 0 ∨ i = 1 := by simp [rR] at hi; omega
  rcases this with rfl | rfl
  · refine ⟨w.heap.size + 1 + 1, 0, rfl, .slice (some ⟨w.heap.size, 0, none⟩) 2 2, by go_simp, ?_⟩
    refine ⟨_, 2, rfl, fun i hi => ?_⟩
    have : i = 0 ∨ i = 1 := by simp [rR, dR0] at hi; omega
    rcases this with rfl | rfl
    · refine ⟨w.heap.size, 0, rfl, ?_, ?_, ?_, ?_, ?_⟩ <;> go_simp <;> simp [rR, dR0]
    · refine ⟨w.heap.size, 0, rfl, ?_, ?_, ?_, ?_, ?_⟩ <;> go_simp <;> simp [rR, dR0]
  · refine ⟨w.heap.size + 1 + 1, 0, rfl, .slice (some ⟨w.heap.size + 1, 0, none⟩) 2 2, by go_simp, ?_⟩
    refine ⟨_, 2, rfl, fun i hi => ?_⟩
    have : i = 0 ∨ i = 1 := by simp [rR, dR1] at hi; omega
    rcases this with rfl | rfl
    · refine ⟨w.heap.size + 1, 0, rfl, ?_, ?_, ?_, ?_, ?_⟩ <;> go_simp <;> simp [rR, dR1]
    · refine ⟨w.heap.size + 1, 0, rfl, ?_, ?_, ?_, ?_, ?_⟩ <;> go_simp <;> simp [rR, dR1]

set_option maxRecDepth 100000 in
set_option maxHeartbeats 2000000 in
theorem begunR_any (w : World) (hL : Lim w) : Calls Tryd.prog 24 #[] w fun e w' => e = .returned (.bool true) ∧ Below w.heap.size w w' := by
  obtain ⟨W0, e0⟩ : ∃ W0, W0 = ((w.alloc (.cells #[.int .i64 1, .int .i64 0, .int .i64 0, .int .i64 0, .int .i64 5, .int .i64 7, .int .i64 2, .int .i64 0, .int .i64 0, .int .i64 0] 91)).alloc (.cells #[.int .i64 2, .int .i64 0, .int .i64 2, .int .i64 0, .int .i64 0, .int .i64 7, .int .i64 1, .int .i64 0, .int .i64 0, .int .i64 0] 91)).alloc (.cells #[.slice (some ⟨w.heap.size, 0, none⟩) 2 2, .slice (some ⟨w.heap.size + 1, 0, none⟩) 2 2] 50) := ⟨_, rfl⟩
  have hB0 : Below w.heap.size w W0 := by rw [e0]; exact (((Below.refl _ _).alloc (Nat.le_refl _) _).alloc (by simp) _).alloc (by simp; omega) _
  have hsz : W0.heap.size = w.heap.size + 1 + 1 + 1 := by rw [e0]; simp
  have hR0 : RoundAt W0 (.slice (some ⟨w.heap.size + 1 + 1, 0, none⟩) 2 2) rR := by rw [e0]; exact roundAtR w
  have hB1 : Below w.heap.size w (W0.alloc (.cells #[.int .i64 1, .int .i64 1, .int .i64 0, .int .i64 1] 3)) := hB0.alloc hB0.size _
  have hR1 : RoundAt (W0.alloc (.cells #[.int .i64 1, .int .i64 1, .int .i64 0, .int .i64 1] 3)) (.slice (some ⟨w.heap.size + 1 + 1, 0, none⟩) 2 2) rR := hR0.later ((Below.refl _ _).alloc (Nat.le_refl _) _)
  have hN1 : NumsAt (W0.alloc (.cells #[.int .i64 1, .int .i64 1, .int .i64 0, .int .i64 1] 3)) (.slice (some ⟨W0.heap.size, 0, none⟩) 4 4) [1, 1, 0, 1] := by
    refine ⟨_, 4, rfl, fun i hi => ⟨W0.heap.size, 0, rfl, ?_⟩⟩
    have : i = 0 ∨ i = 1 ∨ i = 2 ∨ i = 3 := by simp at hi; omega
    rcases this with rfl | rfl | rfl | rfl <;> go_simp <;> simp
  have hrun : Calls Tryd.prog 25 #[.agg #[.int .i64 0, .int .i64 0, .int .i64 0, .int .i64 0, .int .i64 0, .int .i64 0, .int .i64 0, .int .i64 0, .int .i64 0, .int .i64 0], .slice (some ⟨w.heap.size + 1 + 1, 0, none⟩) 2 2, .slice (some ⟨W0.heap.size, 0, none⟩) 4 4] _ _ := run_good _ rR (fun _ => 0) _ 4 [1, 1, 0, 1] _ hR1 fitsR roundR (hL.later hB1) hN1 (by simp)
  rw [stR, hsz] at hrun
  have h38 : ∀ w, (Op.equalIn 10000 23 (.agg #[.int .i64 0, .int .i64 5, .int .i64 5, .int .i64 0, .int .i64 0, .int .i64 0, .int .i64 0, .int .i64 0, .int .i64 0, .int .i64 0]) (.agg #[.int .i64 0, .int .i64 5, .int .i64 5, .int .i64 0, .int .i64 0, .int .i64 0, .int .i64 0, .int .i64 0, .int .i64 0, .int .i64 0])).run Tryd.prog w = .ok true w := eq38 sR
  have hz3 : (W0.alloc (.cells #[.int .i64 1, .int .i64 1, .int .i64 0, .int .i64 1] 3)).heap.size = w.heap.size + 1 + 1 + 1 + 1 := by simp [hsz]
  go_enter Tryd.func24, Tryd.ntmps24
  go_wp2_with fail
  rw [← e0]
  clear e0 hR0 hR1 hN1 hsz
  refine hrun.mono ?_
  clear hrun
  rintro e w1 ⟨G, he, hO, hb1⟩
  replace he : e = .returned (.tuple #[.agg #[.int .i64 0, .int .i64 5, .int .i64 5, .int .i64 0, .int .i64 0, .int .i64 0, .int .i64 0, .int .i64 0, .int .i64 0, .int .i64 0], .slice (some ⟨G, 0, none⟩) 2 2, .int .i64 0]) := he
  subst he
  have k6 : w1.cell? ⟨G, 6, none⟩ = some (.int .i64 5) := by
    have := hO.cellAt 6 (by simp [rR])
    rw [this]
    show (outCells (fun _ => 0) rR 2)[6]? = _
    rw [← outR]
    rfl
  have hGz : G < w1.heap.size := World.block_lt_of_cell? w1 _ k6
  have hB2 : Below w.heap.size w w1 := hB1.trans (hb1.mono hB1.size)
  clear hO hb1 hB0 hB1 hz3
  go_wp2_with fail
  go_ret
  exact ⟨rfl, hB2.alloc hB2.size _⟩
end Go.Proofs.YthlhbmldfjkagabDoor
