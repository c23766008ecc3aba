/-
  The walk of the reference's DeedFault at operations that are well made alone: it tells what Check tells.
-/
import Derived.Test.YtdohockbmphhfadDoorWalkS
import Derived.Test.YtdohockbmphhfadDoorMathS
namespace Go.Proofs.YtdohockbmphhfadDoor
open Go.RowKit

set_option maxHeartbeats 400000 in
theorem deedP_many (v : Value) (d : List Op5) (w : World) (hd : DeedAt w v d) (hlen : 14 < d.length) (hmax : d.length ≤ 9223372036854775807) :
    Calls Tryd.prog 9 #[v] w fun e w' => e = .returned (.agg #[.int .i64 (checkF d).1, .int .i64 (checkF d).2]) ∧ Below w.heap.size w w' := by
  have hF : Hid (checkF d = (4, -1)) := by show _ = _; unfold checkF; rw [if_pos hlen]
  obtain ⟨a, cap, rfl, -⟩ := hd
  go_enter Tryd.func9, Tryd.ntmps9
  go_wp2_with fail
  refine (F_any _ _ _).mono ?_
  rintro e w1 ⟨rfl, hb1⟩
  have hB1 : Below (w.heap.size + 1) (w.alloc (.cells #[.int .i64 0, .int .i64 0] 26)) w1 := hb1.mono (by simp)
  obtain ⟨hz1, s0, s1, g0, hB1'⟩ := res_cells hB1
  clear hb1
  go_wp2_with fail
  exact bodyPost_ret (v := .agg #[.int .i64 4, .int .i64 (-1)]) (by simp [results, Tryd.results9, go_sem, s0, s1]) rfl ⟨ret_pair hF.out, below_two hB1' _ _⟩

set_option maxHeartbeats 1000000 in
theorem deedP_few (v : Value) (d : List Op5) (w : World) (hd : DeedAt w v d) (hlen : d.length ≤ 14) (hA : ∀ o ∈ d, aloneF o = 0) :
    Calls Tryd.prog 9 #[v] w fun e w' => e = .returned (.agg #[.int .i64 (checkF d).1, .int .i64 (checkF d).2]) ∧ Below w.heap.size w w' := by
  have hP : Hid (checkF d = placesF d.length 0 false d) := by show _ = _; unfold checkF; rw [if_neg (by omega), firstF_all d 0 hA]
  have HA : Hid (∀ o ∈ d, aloneF o = 0) := hA
  clear hA
  obtain ⟨a, cap, rfl, hd⟩ := hd
  go_enter Tryd.func9, Tryd.ntmps9
  go_wp2_with fail
  go_loopg [3] d.length (fun g i wr => ∃ j : Nat, j ≤ d.length ∧ g = d.length - j ∧ i = .int .i64 j ∧ Hid (Seen d j) ∧ Below (w.heap.size + 1) (w.alloc (.cells #[.int .i64 0, .int .i64 0] 26)) wr)
  case atStart => exact ⟨0, by omega, by omega, rfl, seen_zero d, Below.refl _ _⟩
  case round =>
    obtain ⟨j, hj, hg, rfl, hS, hB⟩ := hrel
    obtain ⟨hz, r0, r1, f0, hB'⟩ := res_cells hB
    by_cases hlt : j < d.length
    · obtain ⟨b, off, rfl, c0, c1, c2, c3, c4⟩ := hd j hlt
      replace c0 := cell_later hB' c0
      replace c1 := cell_later hB' c1
      replace c2 := cell_later hB' c2
      replace c3 := cell_later hB' c3
      replace c4 := cell_later hB' c4
      go_wp2_with fail
      refine (fault_any d[j] _).mono ?_
      rintro e w1 ⟨rfl, hb1⟩
      replace c0 := cell_later hb1 c0
      replace c2 := cell_later hb1 c2
      have hB1 : Below (w.heap.size + 1) (w.alloc (.cells #[.int .i64 0, .int .i64 0] 26)) w1 := hB.trans (hb1.mono (by omega))
      clear r0 r1 f0 hB' hb1 c1 c3 c4 hB hz
      obtain ⟨hz1, s0, s1, g0, hB1'⟩ := res_cells hB1
      have ho : aloneF d[j] = 0 := HA.out _ (List.getElem_mem hlt)
      · have HO : Hid (aloneF d[j] = 0) := ho
        have to : (aloneF d[j] != 0) = false := by simp [ho]
        clear ho
        by_cases h8 : d[j].k = 8
        · have t8 : (d[j].k == 8) = true := by simp [h8]
          have t9 : (d[j].k == 9) = false := by rw [beq_eq_false_iff_ne]; omega
          have H8 : Hid (d[j].k = 8) := h8
          clear h8
          go_wp2_with fail
          go_loopg [5] j (fun g i wr => ∃ m : Nat, m ≤ j ∧ g = j - m ∧ i = .int .i64 m ∧ Hid (∀ i (h : i < d.length), i < m → ¬ d[i].k = 7) ∧ wr = w1)
          case atStart => exact ⟨0, by omega, by omega, rfl, fun i _ h => by omega, rfl⟩
          case round =>
            obtain ⟨m, hm, hgm, rfl, hN, hwr⟩ := hrel
            subst hwr
            by_cases hmj : m < j
            · obtain ⟨b', off', e', q0, -⟩ := hd m (by omega)
              cases e'
              replace q0 := cell_later hB1' q0
              by_cases h7 : d[m].k = 7
              · have t7 : (d[m].k == 7) = true := by simp [h7]
                have hst : storedF d j = true := by
                  unfold storedF
                  rw [List.any_eq_true]
                  exact ⟨d[m], List.mem_take_iff_getElem.2 ⟨m, by omega, rfl⟩, by simp [h7]⟩
                have hR : Hid (checkF d = (5, (j : Int))) := by
                  show _ = _
                  rw [hP.out, ← hS.out.2, placesF_stop hlt H8.out hst]
                clear h7 hst
                go_wp2_with fail
                refine (F_any _ _ _).mono ?_
                rintro e w2 ⟨rfl, hb2⟩
                have hB2 := hB1.trans (hb2.mono (by omega))
                clear s0 s1 g0 hB1' hb2
                obtain ⟨hz2, s0, s1, g0, hB2'⟩ := res_cells hB2
                go_wp2_with fail
                exact bodyPost_ret (v := .agg #[.int .i64 5, .int .i64 j]) (by simp [results, Tryd.results9, go_sem, s0, s1]) rfl ⟨ret_pair hR.out, below_two hB2' _ _⟩
              · have t7 : (d[m].k == 7) = false := by simp [h7]
                have hN' : Hid (∀ i (h : i < d.length), i < m + 1 → ¬ d[i].k = 7) := fun i h hi => by
                  by_cases e : i = m
                  · subst e; exact h7
                  · exact hN.out i h (by omega)
                clear h7 hN
                go_wp2_with fail
                go_roundg (j - (m + 1))
                case measure => omega
                case rel => exact ⟨m + 1, by omega, rfl, by go_num, hN', rfl⟩
            · obtain rfl : m = j := by omega
              have hst : storedF d m = false := by
                unfold storedF
                rw [List.any_eq_false]
                intro o ho
                obtain ⟨i, hi, rfl⟩ := List.mem_iff_getElem.1 ho
                rw [List.length_take] at hi
                rw [List.getElem_take]
                simpa using hN.out i (by omega) (by omega)
              have hS' : Hid (Seen d (m + 1)) := hS.out.next hlt HO.out (by rw [hst]; simp) (by have := H8.out; omega)
              clear hS hN hst
              go_wp2_with fail
              go_roundg (d.length - (m + 1))
              case measure => omega
              case rel => exact ⟨m + 1, by omega, rfl, by go_num, hS', hB1⟩
        · have t8 : (d[j].k == 8) = false := by simp [h8]
          by_cases h9 : d[j].k = 9
          · have t9 : (d[j].k == 9) = true := by simp [h9]
            have H9 : Hid (d[j].k = 9) := h9
            clear h9 hd
            by_cases hb1 : d[j].b < 1
            · have hR : Hid (checkF d = (1, (j : Int))) := by
                show _ = _
                rw [hP.out, ← hS.out.2, placesF_skip hlt H9.out (Or.inl hb1)]
              go_wp2_with fail
              refine (F_any _ _ _).mono ?_
              rintro e w2 ⟨rfl, hb2⟩
              have hB2 := hB1.trans (hb2.mono (by omega))
              clear s0 s1 g0 hB1' hb2
              obtain ⟨hz2, s0, s1, g0, hB2'⟩ := res_cells hB2
              go_wp2_with fail
              exact bodyPost_ret (v := .agg #[.int .i64 1, .int .i64 j]) (by simp [results, Tryd.results9, go_sem, s0, s1]) rfl ⟨ret_pair hR.out, below_two hB2' _ _⟩
            · have h14 : d[j].b < 14 := by
                have := alone_parts HO.out
                simp at t9
                omega
              by_cases hb2 : (d.length : Int) ≤ j + d[j].b
              · have hR : Hid (checkF d = (1, (j : Int))) := by
                  show _ = _
                  rw [hP.out, ← hS.out.2, placesF_skip hlt H9.out (Or.inr (by omega))]
                go_wp2_with fail
                refine (F_any _ _ _).mono ?_
                rintro e w2 ⟨rfl, hb2⟩
                have hB2 := hB1.trans (hb2.mono (by omega))
                clear s0 s1 g0 hB1' hb2
                obtain ⟨hz2, s0, s1, g0, hB2'⟩ := res_cells hB2
                go_wp2_with fail
                exact bodyPost_ret (v := .agg #[.int .i64 1, .int .i64 j]) (by simp [results, Tryd.results9, go_sem, s0, s1]) rfl ⟨ret_pair hR.out, below_two hB2' _ _⟩
              · have hS' : Hid (Seen d (j + 1)) := hS.out.next hlt HO.out (fun h => h8 h.1) (by omega)
                clear hS h8
                go_wp2_with fail
                go_roundg (d.length - (j + 1))
                case measure => omega
                case rel => exact ⟨j + 1, by omega, rfl, by go_num, hS', hB1⟩
          · have t9 : (d[j].k == 9) = false := by simp [h9]
            have hS' : Hid (Seen d (j + 1)) := hS.out.next hlt HO.out (fun h => h8 h.1) (fun h => h9 h.1)
            clear hS h8 h9 hd
            go_wp2_with fail
            go_roundg (d.length - (j + 1))
            case measure => omega
            case rel => exact ⟨j + 1, by omega, rfl, by go_num, hS', hB1⟩
    · obtain rfl : j = d.length := by omega
      have hR : Hid (checkF d = (0, 0)) := by
        show _ = _
        rw [hP.out, ← hS.out.2, List.drop_length]; rfl
      clear hS hd
      go_wp2_with fail
      exact bodyPost_ret (v := .agg #[.int .i64 0, .int .i64 0]) (by simp [results, Tryd.results9, go_sem, r0, r1]) rfl ⟨ret_pair hR.out, below_two hB' _ _⟩

theorem deedP_any (v : Value) (d : List Op5) (w : World) (hd : DeedAt w v d) (hmax : d.length ≤ 9223372036854775807) (hA : ∀ o ∈ d, aloneF o = 0) :
    Calls Tryd.prog 9 #[v] w fun e w' => e = .returned (.agg #[.int .i64 (checkF d).1, .int .i64 (checkF d).2]) ∧ Below w.heap.size w w' := by
  by_cases h : d.length ≤ 14
  · exact deedP_few v d w hd h hA
  · exact deedP_many v d w hd (by omega) hmax
end Go.Proofs.YtdohockbmphhfadDoor
