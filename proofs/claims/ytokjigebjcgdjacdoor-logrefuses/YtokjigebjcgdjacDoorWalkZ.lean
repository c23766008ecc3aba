/-
  The walk of the reference's DeedFault at a deed that may be done.
-/
import Derived.Test.YtokjigebjcgdjacDoorWalkT
import Derived.Test.YtokjigebjcgdjacDoorMathW
namespace Go.Proofs.YtokjigebjcgdjacDoor
open Go.RowKit

set_option maxHeartbeats 1000000 in
theorem deed_zero (v : Value) (d : List Op5) (w : World) (hd : DeedAt w v d) (hck : (checkF d).1 = 0) :
    Calls Tryd.prog 54 #[v] w fun e w' => e = .returned (.agg #[.int .i64 0, .int .i64 0]) ∧ Below w.heap.size w w' := by
  have hlen := check_len hck
  have HA : Hid (∀ o ∈ d, aloneF o = 0) := checkF_alone hck
  have HP : Hid (∀ j (hj : j < d.length), (d[j].k = 9 → 1 ≤ d[j].b ∧ (j : Int) + 1 + d[j].b ≤ d.length) ∧ (d[j].k = 8 → ∀ m (hm : m < j), d[m].k ≠ 7)) := check_places hck
  clear hck
  obtain ⟨a, cap, rfl, hd⟩ := hd
  go_enter Tryd.func54, Tryd.ntmps54
  go_wp2_with fail
  go_loopg [3] d.length (fun g i wr => ∃ j : Nat, j ≤ d.length ∧ g = d.length - j ∧ i = .int .i64 j ∧ Below (w.heap.size + 1) (w.alloc (.cells #[.int .i64 0, .int .i64 0] 79)) wr)
  case atStart => exact ⟨0, by omega, by omega, rfl, Below.refl _ _⟩
  case round =>
    obtain ⟨j, hj, hg, rfl, hB⟩ := hrel
    obtain ⟨hz, r0, r1, f0, hB'⟩ := res_cells hB
    by_cases hlt : j < d.length
    · obtain ⟨b, off, rfl, c0, c1, c2, c3, c4⟩ := hd j hlt
      replace c0 := cell_later hB' c0
      replace c1 := cell_later hB' c1
      replace c2 := cell_later hB' c2
      replace c3 := cell_later hB' c3
      replace c4 := cell_later hB' c4
      have ho := HA.out _ (List.getElem_mem hlt)
      go_wp2_with fail
      refine (fault_any d[j] _).mono ?_
      rintro e w1 ⟨rfl, hb1⟩
      rw [ho]
      replace c0 := cell_later hb1 c0
      replace c2 := cell_later hb1 c2
      have hB1 : Below (w.heap.size + 1) (w.alloc (.cells #[.int .i64 0, .int .i64 0] 79)) w1 := hB.trans (hb1.mono (by omega))
      clear r0 r1 f0 hB' hb1 c1 c3 c4 hB hz ho
      obtain ⟨hz1, s0, s1, g0, hB1'⟩ := res_cells hB1
      by_cases h8 : d[j].k = 8
      · have t8 : (d[j].k == 8) = true := by simp [h8]
        have t9 : (d[j].k == 9) = false := by rw [beq_eq_false_iff_ne]; omega
        have H8 : Hid (d[j].k = 8) := h8
        clear h8
        go_wp2_with fail
        go_loopg [5] j (fun g i wr => ∃ m : Nat, m ≤ j ∧ g = j - m ∧ i = .int .i64 m ∧ wr = w1)
        case atStart => exact ⟨0, by omega, by omega, rfl, rfl⟩
        case round =>
          obtain ⟨m, hm, hgm, rfl, hwr⟩ := hrel
          subst hwr
          by_cases hmj : m < j
          · obtain ⟨b', off', e', q0, -⟩ := hd m (by omega)
            cases e'
            replace q0 := cell_later hB1' q0
            have h7 := (HP.out j hlt).2 H8.out m hmj
            have t7 : (d[m].k == 7) = false := by simp [h7]
            clear h7
            go_wp2_with fail
            go_roundg (j - (m + 1))
            case measure => omega
            case rel => exact ⟨m + 1, by omega, rfl, by go_num, rfl⟩
          · obtain rfl : m = j := by omega
            go_wp2_with fail
            go_roundg (d.length - (m + 1))
            case measure => omega
            case rel => exact ⟨m + 1, by omega, rfl, by go_num, hB1⟩
      · have t8 : (d[j].k == 8) = false := by simp [h8]
        by_cases h9 : d[j].k = 9
        · have t9 : (d[j].k == 9) = true := by simp [h9]
          have hb := (HP.out j hlt).1 h9
          have h14 : d[j].b < 14 := by
            have := alone_parts (HA.out _ (List.getElem_mem hlt))
            omega
          have hb1 : ¬ d[j].b < 1 := by omega
          have hb2 : ¬ (d.length : Int) ≤ j + d[j].b := by omega
          clear h9 hd h8
          go_wp2_with fail
          go_roundg (d.length - (j + 1))
          case measure => omega
          case rel => exact ⟨j + 1, by omega, rfl, by go_num, hB1⟩
        · have t9 : (d[j].k == 9) = false := by simp [h9]
          clear h8 h9 hd
          go_wp2_with fail
          go_roundg (d.length - (j + 1))
          case measure => omega
          case rel => exact ⟨j + 1, by omega, rfl, by go_num, hB1⟩
    · obtain rfl : j = d.length := by omega
      clear hd
      go_wp2_with fail
      exact bodyPost_ret (v := .agg #[.int .i64 0, .int .i64 0]) (by simp [results, Tryd.results54, go_sem, r0, r1]) rfl ⟨rfl, below_two hB' _ _⟩
end Go.Proofs.YtokjigebjcgdjacDoor
