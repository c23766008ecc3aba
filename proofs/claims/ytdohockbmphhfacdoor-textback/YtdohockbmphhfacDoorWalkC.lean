/-
  The walks of code.Round and of Great.
-/
import Derived.Test.YtdohockbmphhfacDoorWalkB
namespace Go.Proofs.YtdohockbmphhfacDoor
open Go.RowKit

/-- A round as it lies in memory. -/
def RoundAt (w : World) (v : Value) (r : List (List Op5)) : Prop :=
  ∃ a cap, v = .slice a r.length cap ∧ ∀ i (h : i < r.length), ∃ b off, a = some ⟨b, off, none⟩ ∧ ∃ dv, w.cell? ⟨b, off + i, none⟩ = some dv ∧ DeedAt w dv r[i]

theorem RoundAt.later {w w' : World} (hb : Below w.heap.size w w') {v : Value} {r : List (List Op5)} (h : RoundAt w v r) : RoundAt w' v r := by
  obtain ⟨a, cap, rfl, h⟩ := h
  refine ⟨a, cap, rfl, fun i hi => ?_⟩
  obtain ⟨b, off, rfl, dv, h0, h1⟩ := h i hi
  exact ⟨b, off, rfl, dv, cell_later hb h0, h1.later hb⟩

/-- No slice is longer than a machine's memory. -/
def Fits (r : List (List Op5)) : Prop := r.length ≤ 9223372036854775807 ∧ ∀ i (h : i < r.length), r[i].length ≤ 9223372036854775807

set_option maxHeartbeats 400000 in
theorem round_many (v : Value) (r : List (List Op5)) (w : World) (hr : RoundAt w v r) (hlen : 8 < r.length) (hf : Fits r) :
    Calls Tryd.prog 53 #[v] w fun e w' => e = .returned (.int .i64 (roundF r)) ∧ Below w.heap.size w w' := by
  have hF : Hid (4 = roundF r) := by unfold roundF; rw [if_pos hlen]; rfl
  have hm := hf.1
  obtain ⟨a, cap, rfl, -⟩ := hr
  go_enter Tryd.func53, Tryd.ntmps53
  go_wp2_with fail
  go_ret
  exact ⟨ret_int hF.out, Below.refl _ _⟩

set_option maxHeartbeats 400000 in
theorem round_few (v : Value) (r : List (List Op5)) (w : World) (hr : RoundAt w v r) (hlen : r.length ≤ 8) (hf : Fits r) (hL : Lim w) :
    Calls Tryd.prog 53 #[v] w fun e w' => e = .returned (.int .i64 (roundF r)) ∧ Below w.heap.size w w' := by
  have hF0 : Hid (roundF r = codesF r) := by unfold roundF; rw [if_neg (by omega)]; rfl
  obtain ⟨a, cap, rfl, hr⟩ := hr
  go_enter Tryd.func53, Tryd.ntmps53
  go_wp2_with fail
  go_loopg [11] r.length (fun g i wr => ∃ j : Nat, j ≤ r.length ∧ g = r.length - j ∧ i = .int .i64 j ∧ Hid (codesF (r.drop j) = codesF r) ∧ Below w.heap.size w wr)
  case atStart => exact ⟨0, by omega, by omega, rfl, rfl, Below.refl _ _⟩
  case round =>
    obtain ⟨j, hj, hg, rfl, hF, hB⟩ := hrel
    by_cases hlt : j < r.length
    · obtain ⟨b, off, rfl, dv, c0, hD⟩ := hr j hlt
      replace c0 := cell_later hB c0
      replace hD := hD.later hB
      have hm := hf.2 j hlt
      clear hr
      go_wp2_with fail
      refine (check_any dv r[j] _ hD (by omega) (hL.later hB)).mono ?_
      rintro e w1 ⟨rfl, hb1⟩
      have hB1 : Below w.heap.size w w1 := hB.trans (hb1.mono hB.size)
      clear hb1 hD c0
      by_cases ho : (checkF r[j]).1 = 0
      · have hF' : Hid (codesF (r.drop (j + 1)) = codesF r) := (codesF_next hlt ho).trans hF.out
        clear hF
        go_wp2_with fail
        go_roundg (r.length - (j + 1))
        case measure => omega
        case rel => exact ⟨j + 1, by omega, rfl, by go_num, hF', hB1.alloc hB1.size _⟩
      · have hF' : Hid ((checkF r[j]).1 = roundF r) := (hF0.out.trans (hF.out.symm.trans (codesF_bad hlt ho))).symm
        clear hF hF0
        go_wp2_with fail
        go_ret
        exact ⟨ret_int hF'.out, hB1.alloc hB1.size _⟩
    · obtain rfl : j = r.length := by omega
      have hF' : Hid (0 = roundF r) := by
        have h := hF.out; simp only [List.drop_length, codesF] at h; exact h.trans hF0.out.symm
      clear hF hF0 hr
      go_wp2_with fail
      go_ret
      exact ⟨ret_int hF'.out, hB⟩

theorem round_any (v : Value) (r : List (List Op5)) (w : World) (hr : RoundAt w v r) (hf : Fits r) (hL : Lim w) :
    Calls Tryd.prog 53 #[v] w fun e w' => e = .returned (.int .i64 (roundF r)) ∧ Below w.heap.size w w' := by
  by_cases h : r.length ≤ 8
  · exact round_few v r w hr h hf hL
  · exact round_many v r w hr (by omega) hf

/-- It tells a bool. -/
def IsBool (e : Ending) : Prop := ∃ g : Bool, e = .returned (.bool g)

set_option maxHeartbeats 400000 in
theorem great_any (v : Value) (r : List (List Op5)) (w : World) (hr : RoundAt w v r) (hf : Fits r) :
    Calls Tryd.prog 16 #[v] w fun e w' => IsBool e ∧ w' = w := by
  have hm := hf.1
  obtain ⟨a, cap, rfl, hr⟩ := hr
  go_enter Tryd.func16, Tryd.ntmps16
  go_wp2_with fail
  go_loopg [3, 4] r.length (fun g n i wr => ∃ j : Nat, ∃ x : Int, j ≤ r.length ∧ j ≤ 100 ∧ g = r.length - j ∧ i = .int .i64 j ∧ n = .int .i64 x ∧ wr = w)
  case atStart => exact ⟨0, 0, by omega, by omega, by omega, rfl, rfl, rfl⟩
  case round =>
    obtain ⟨j, x, hj, h100, hg, rfl, rfl, rfl⟩ := hrel
    by_cases hlt : j < r.length
    · by_cases hlt' : j < 100
      · obtain ⟨b, off, rfl, dv, c0, hD⟩ := hr j hlt
        obtain ⟨a', cap', rfl, -⟩ := hD
        have hm' := hf.2 j hlt
        clear hr
        go_wp2_with fail
        go_roundg (r.length - (j + 1))
        case measure => omega
        case rel => exact ⟨j + 1, _, by omega, by omega, rfl, by go_num, rfl, rfl⟩
      · clear hr
        go_wp2_with fail
        all_goals go_ret
        all_goals exact ⟨⟨_, rfl⟩, rfl⟩
    · clear hr
      go_wp2_with fail
      all_goals go_ret
      all_goals exact ⟨⟨_, rfl⟩, rfl⟩
end Go.Proofs.YtdohockbmphhfacDoor
