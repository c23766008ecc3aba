/-
  The walk of the reference's RoundFault.
-/
import Derived.Test.YtokjigebjcgdjacDoorWalkS
import Derived.Deep.QuietTactic
import Derived.BigQuiet
import Derived.StillTailTactics
namespace Go.Proofs.YtokjigebjcgdjacDoor
open Go.RowKit

theorem deed_tells (v : Value) (d : List Op5) (w : World) (hd : DeedAt w v d) (hmax : d.length ≤ 9223372036854775807) :
    Calls Tryd.prog 54 #[v] w fun e w' => Tells d e ∧ Below w.heap.size w w' := by
  by_cases h : d.length ≤ 14
  · exact deed_few v d w hd h
  · exact deed_many v d w hd (by omega) hmax

/-- What is told of a round: with 0 it may be done. -/
def TellsR (r : List (List Op5)) (e : Ending) : Prop := ∃ c : Int, e = .returned (.int .i64 c) ∧ (c = 0 → roundF r = 0)

set_option maxHeartbeats 400000 in
theorem faults_any (v : Value) (r : List (List Op5)) (w : World) (hr : RoundAt w v r) (hf : Fits r) :
    Calls Tryd.prog 48 #[v] w fun e w' => TellsR r e ∧ Below w.heap.size w w' := by
  have hm := hf.1
  obtain ⟨a, cap, rfl, hr⟩ := hr
  by_cases h8 : 8 < r.length
  · go_enter Tryd.func48, Tryd.ntmps48
    go_wp2_with fail
    go_ret
    exact ⟨⟨4, rfl, fun h => by cases h⟩, Below.refl _ _⟩
  · go_enter Tryd.func48, Tryd.ntmps48
    go_wp2_with fail
    go_loopg [3] r.length (fun g i wr => ∃ j : Nat, j ≤ r.length ∧ g = r.length - j ∧ i = .int .i64 j ∧ Hid (codesF (r.drop j) = codesF r) ∧ Below w.heap.size w wr)
    case atStart => exact ⟨0, by omega, by omega, rfl, rfl, Below.refl _ _⟩
    case round =>
      obtain ⟨j, hj, hg, rfl, hF, hB⟩ := hrel
      by_cases hlt : j < r.length
      · obtain ⟨b, off, rfl, dv, c0, hD⟩ := hr j hlt
        replace c0 := cell_later hB c0
        replace hD := hD.later hB
        have hm := hf.2 j hlt
        clear hr
        go_wp2_with fail
        refine (deed_tells dv r[j] _ hD (by omega)).mono ?_
        rintro e w1 ⟨⟨c, n, rfl, hc⟩, hb1⟩
        have HC : Hid (c = 0 → (checkF r[j]).1 = 0) := hc
        have hB1 : Below w.heap.size w w1 := hB.trans (hb1.mono hB.size)
        clear hb1 hD c0 hc
        by_cases h0 : c = 0
        · have hF' : Hid (codesF (r.drop (j + 1)) = codesF r) := (codesF_next hlt (HC.out h0)).trans hF.out
          have t0 : (c != 0) = false := by simp [h0]
          clear hF h0
          go_wp2_with fail
          go_roundg (r.length - (j + 1))
          case measure => omega
          case rel => exact ⟨j + 1, by omega, rfl, by go_num, hF', hB1.alloc hB1.size _⟩
        · have t0 : (c != 0) = true := by simp [h0]
          have H0 : Hid (c ≠ 0) := h0
          clear hF h0
          go_wp2_with fail
          go_ret
          exact ⟨⟨c, rfl, fun h => absurd h H0.out⟩, hB1.alloc hB1.size _⟩
      · obtain rfl : j = r.length := by omega
        have hF' : Hid (roundF r = 0) := by
          have h := hF.out; simp only [List.drop_length, codesF] at h
          show _ = _
          unfold roundF; rw [if_neg h8]; exact h.symm
        clear hF hr
        go_wp2_with fail
        go_ret
        exact ⟨⟨0, rfl, fun _ => hF'.out⟩, hB⟩
end Go.Proofs.YtokjigebjcgdjacDoor
