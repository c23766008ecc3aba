/-
  The walk of the reference's RoundFault, both ways round.
-/
import Derived.Test.YtokjigebjcgdjacDoorWalkZ
namespace Go.Proofs.YtokjigebjcgdjacDoor
open Go.RowKit

set_option maxHeartbeats 400000 in
theorem faults_zero (v : Value) (r : List (List Op5)) (w : World) (hr : RoundAt w v r) (h0 : roundF r = 0) :
    Calls Tryd.prog 48 #[v] w fun e w' => e = .returned (.int .i64 0) ∧ Below w.heap.size w w' := by
  obtain ⟨h8, hck⟩ := roundF_zero.1 h0
  have HK : Hid (∀ d ∈ r, (checkF d).1 = 0) := hck
  clear h0 hck
  obtain ⟨a, cap, rfl, hr⟩ := hr
  go_enter Tryd.func48, Tryd.ntmps48
  go_wp2_with fail
  go_loopg [3] r.length (fun g i wr => ∃ j : Nat, j ≤ r.length ∧ g = r.length - j ∧ i = .int .i64 j ∧ Below w.heap.size w wr)
  case atStart => exact ⟨0, by omega, by omega, rfl, Below.refl _ _⟩
  case round =>
    obtain ⟨j, hj, hg, rfl, hB⟩ := hrel
    by_cases hlt : j < r.length
    · obtain ⟨b, off, rfl, dv, c0, hD⟩ := hr j hlt
      replace c0 := cell_later hB c0
      replace hD := hD.later hB
      have hk := HK.out _ (List.getElem_mem hlt)
      clear hr
      go_wp2_with fail
      refine (deed_zero dv r[j] _ hD hk).mono ?_
      rintro e w1 ⟨rfl, hb1⟩
      have hB1 : Below w.heap.size w w1 := hB.trans (hb1.mono hB.size)
      clear hb1 hD c0 hk
      go_wp2_with fail
      go_roundg (r.length - (j + 1))
      case measure => omega
      case rel => exact ⟨j + 1, by omega, rfl, by go_num, hB1.alloc hB1.size _⟩
    · obtain rfl : j = r.length := by omega
      clear hr
      go_wp2_with fail
      go_ret
      exact ⟨rfl, hB⟩

/-- What is told of a round: 0 just where it may be done. -/
theorem faultsL_any (v : Value) (r : List (List Op5)) (w : World) (hr : RoundAt w v r) (hf : Fits r) :
    Calls Tryd.prog 48 #[v] w fun e w' => (∃ c : Int, e = .returned (.int .i64 c) ∧ (c = 0 ↔ roundF r = 0)) ∧ Below w.heap.size w w' := by
  by_cases h : roundF r = 0
  · refine (faults_zero v r w hr h).mono ?_
    rintro e w' ⟨rfl, hb⟩
    exact ⟨⟨0, rfl, by simp [h]⟩, hb⟩
  · refine (faults_any v r w hr hf).mono ?_
    rintro e w' ⟨⟨c, rfl, hc⟩, hb⟩
    exact ⟨⟨c, rfl, hc, fun k => absurd k h⟩, hb⟩
end Go.Proofs.YtokjigebjcgdjacDoor
