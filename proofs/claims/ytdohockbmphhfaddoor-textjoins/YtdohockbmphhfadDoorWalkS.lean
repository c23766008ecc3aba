/-
  The walks of the reference's own look at deeds and rounds.
-/
import Derived.Test.YtdohockbmphhfadDoorWalkR
import Derived.Test.YtdohockbmphhfadDoorMathS
namespace Go.Proofs.YtdohockbmphhfadDoor
open Go.RowKit

/-- An OStore stands among the first ones. -/
def storedF (d : List Op5) (j : Nat) : Bool := (d.take j).any fun o => o.k == 7
theorem storedF_succ {d : List Op5} {j : Nat} (h : j < d.length) : storedF d (j + 1) = (storedF d j || (d[j].k == 7)) := by
  unfold storedF; rw [List.take_succ_eq_append_getElem h, List.any_append]; simp

/-- A look that has come as far as j. -/
def Seen (d : List Op5) (j : Nat) : Prop := (∀ i (h : i < d.length), i < j → aloneF d[i] = 0) ∧ placesF d.length j (storedF d j) (d.drop j) = placesF d.length 0 false d
theorem seen_zero (d : List Op5) : Seen d 0 := ⟨fun i _ h => by omega, rfl⟩
theorem Seen.next {d : List Op5} {j : Nat} (h : Seen d j) (hj : j < d.length) (ha : aloneF d[j] = 0) (h8 : ¬ (d[j].k = 8 ∧ storedF d j = true)) (h9 : ¬ (d[j].k = 9 ∧ (d[j].b < 1 ∨ (d.length : Int) - 1 - j < d[j].b))) : Seen d (j + 1) := by
  refine ⟨fun i hi hij => ?_, ?_⟩
  · by_cases e : i = j
    · subst e; exact ha
    · exact h.1 i hi (by omega)
  · rw [← h.2, storedF_succ hj]
    by_cases h7 : d[j].k = 7
    · rw [show (d[j].k == 7) = true by simp [h7], Bool.or_true]
      exact placesF_store hj h7
    · rw [show (d[j].k == 7) = false by simp [h7], Bool.or_false]
      exact placesF_next hj h7 h8 h9
theorem firstF_all {z : Int × Int} : ∀ (d : List Op5) (i : Nat), (∀ o ∈ d, aloneF o = 0) → firstF z i d = z
  | [], _, _ => rfl
  | o :: r, i, h => by
    simp only [firstF]
    rw [if_neg (by simp [h o (by simp)])]
    exact firstF_all r (i + 1) fun x hx => h x (by simp [hx])
theorem Seen.check {d : List Op5} (h : Seen d d.length) (hl : d.length ≤ 14) : (checkF d).1 = 0 := by
  unfold checkF
  rw [if_neg (by omega), firstF_all d 0 (fun o ho => by
    obtain ⟨i, hi, rfl⟩ := List.mem_iff_getElem.1 ho
    exact h.1 i hi hi), ← h.2, List.drop_length]
  rfl

/-- What is told of a deed: with 0 it may be done. -/
def Tells (d : List Op5) (e : Ending) : Prop := ∃ c n : Int, e = .returned (.agg #[.int .i64 c, .int .i64 n]) ∧ (c = 0 → (checkF d).1 = 0)
theorem tells_bad (d : List Op5) {c n : Int} (h : c ≠ 0) : Tells d (.returned (.agg #[.int .i64 c, .int .i64 n])) := ⟨c, n, rfl, fun h' => absurd h' h⟩

set_option maxHeartbeats 400000 in
theorem deed_many (v : Value) (d : List Op5) (w : World) (hd : DeedAt w v d) (hlen : 14 < d.length) (hmax : d.length ≤ 9223372036854775807) :
    Calls Tryd.prog 9 #[v] w fun e w' => Tells d e ∧ Below w.heap.size w w' := by
  obtain ⟨a, cap, rfl, -⟩ := hd
  go_enter Tryd.func9, Tryd.ntmps9
  go_wp2_with fail
  refine (F_any _ _ _).mono ?_
  rintro e w1 ⟨rfl, hb1⟩
  have hB1 : Below (w.heap.size + 1) (w.alloc (.cells #[.int .i64 0, .int .i64 0] 26)) w1 := hb1.mono (by simp)
  obtain ⟨hz1, s0, s1, g0, hB1'⟩ := res_cells hB1
  clear hb1
  go_wp2_with fail
  exact bodyPost_ret (v := .agg #[.int .i64 4, .int .i64 (-1)]) (by simp [results, Tryd.results9, go_sem, s0, s1]) rfl ⟨tells_bad d (by decide), below_two hB1' _ _⟩

set_option maxHeartbeats 1000000 in
theorem deed_few (v : Value) (d : List Op5) (w : World) (hd : DeedAt w v d) (hlen : d.length ≤ 14) :
    Calls Tryd.prog 9 #[v] w fun e w' => Tells d e ∧ Below w.heap.size w w' := by
  obtain ⟨a, cap, rfl, hd⟩ := hd
  go_enter Tryd.func9, Tryd.ntmps9
  go_wp2_with fail
  go_loopg [3] d.length (fun g i wr => ∃ j : Nat, j ≤ d.length ∧ g = d.length - j ∧ i = .int .i64 j ∧ Hid (Seen d j) ∧ Below (w.heap.size + 1) (w.alloc (.cells #[.int .i64 0, .int .i64 0] 26)) wr)
  case atStart => exact ⟨0, by omega, by omega, rfl, seen_zero d, Below.refl _ _⟩
  case round =>
    obtain ⟨j, hj, hg, rfl, hS, hB⟩ := hrel
    obtain ⟨hz, r0, r1, f0, hB'⟩ := res_cells hB
    by_cases hlt : j < d.length
    · obtain ⟨b, off, rfl, c0, c1, c2, c3, c4⟩ := hd j hlt
      replace c0 := cell_later hB' c0
      replace c1 := cell_later hB' c1
      replace c2 := cell_later hB' c2
      replace c3 := cell_later hB' c3
      replace c4 := cell_later hB' c4
      go_wp2_with fail
      refine (fault_any d[j] _).mono ?_
      rintro e w1 ⟨rfl, hb1⟩
      replace c0 := cell_later hb1 c0
      replace c2 := cell_later hb1 c2
      have hB1 : Below (w.heap.size + 1) (w.alloc (.cells #[.int .i64 0, .int .i64 0] 26)) w1 := hB.trans (hb1.mono (by omega))
      clear r0 r1 f0 hB' hb1 c1 c3 c4 hB hz
      obtain ⟨hz1, s0, s1, g0, hB1'⟩ := res_cells hB1
      by_cases ho : aloneF d[j] = 0
      · have HO : Hid (aloneF d[j] = 0) := ho
        have to : (aloneF d[j] != 0) = false := by simp [ho]
        clear ho
        by_cases h8 : d[j].k = 8
        · have t8 : (d[j].k == 8) = true := by simp [h8]
          have t9 : (d[j].k == 9) = false := by rw [beq_eq_false_iff_ne]; omega
          have H8 : Hid (d[j].k = 8) := h8
          clear h8
          go_wp2_with fail
          go_loopg [5] j (fun g i wr => ∃ m : Nat, m ≤ j ∧ g = j - m ∧ i = .int .i64 m ∧ Hid (∀ i (h : i < d.length), i < m → ¬ d[i].k = 7) ∧ wr = w1)
          case atStart => exact ⟨0, by omega, by omega, rfl, fun i _ h => by omega, rfl⟩
          case round =>
            obtain ⟨m, hm, hgm, rfl, hN, hwr⟩ := hrel
            subst hwr
            by_cases hmj : m < j
            · obtain ⟨b', off', e', q0, -⟩ := hd m (by omega)
              cases e'
              replace q0 := cell_later hB1' q0
              by_cases h7 : d[m].k = 7
              · have t7 : (d[m].k == 7) = true := by simp [h7]
                clear h7
                go_wp2_with fail
                refine (F_any _ _ _).mono ?_
                rintro e w2 ⟨rfl, hb2⟩
                have hB2 := hB1.trans (hb2.mono (by omega))
                clear s0 s1 g0 hB1' hb2
                obtain ⟨hz2, s0, s1, g0, hB2'⟩ := res_cells hB2
                go_wp2_with fail
                exact bodyPost_ret (v := .agg #[.int .i64 5, .int .i64 j]) (by simp [results, Tryd.results9, go_sem, s0, s1]) rfl ⟨tells_bad d (by decide), below_two hB2' _ _⟩
              · have t7 : (d[m].k == 7) = false := by simp [h7]
                have hN' : Hid (∀ i (h : i < d.length), i < m + 1 → ¬ d[i].k = 7) := fun i h hi => by
                  by_cases e : i = m
                  · subst e; exact h7
                  · exact hN.out i h (by omega)
                clear h7 hN
                go_wp2_with fail
                go_roundg (j - (m + 1))
                case measure => omega
                case rel => exact ⟨m + 1, by omega, rfl, by go_num, hN', rfl⟩
            · obtain rfl : m = j := by omega
              have hst : storedF d m = false := by
                unfold storedF
                rw [List.any_eq_false]
                intro o ho
                obtain ⟨i, hi, rfl⟩ := List.mem_iff_getElem.1 ho
                rw [List.length_take] at hi
                rw [List.getElem_take]
                simpa using hN.out i (by omega) (by omega)
              have hS' : Hid (Seen d (m + 1)) := hS.out.next hlt HO.out (by rw [hst]; simp) (by have := H8.out; omega)
              clear hS hN hst
              go_wp2_with fail
              go_roundg (d.length - (m + 1))
              case measure => omega
              case rel => exact ⟨m + 1, by omega, rfl, by go_num, hS', hB1⟩
        · have t8 : (d[j].k == 8) = false := by simp [h8]
          by_cases h9 : d[j].k = 9
          · have t9 : (d[j].k == 9) = true := by simp [h9]
            clear h9 hd
            by_cases hb1 : d[j].b < 1
            · go_wp2_with fail
              refine (F_any _ _ _).mono ?_
              rintro e w2 ⟨rfl, hb2⟩
              have hB2 := hB1.trans (hb2.mono (by omega))
              clear s0 s1 g0 hB1' hb2
              obtain ⟨hz2, s0, s1, g0, hB2'⟩ := res_cells hB2
              go_wp2_with fail
              exact bodyPost_ret (v := .agg #[.int .i64 1, .int .i64 j]) (by simp [results, Tryd.results9, go_sem, s0, s1]) rfl ⟨tells_bad d (by decide), below_two hB2' _ _⟩
            · have h14 : d[j].b < 14 := by
                have := alone_parts HO.out
                simp at t9
                omega
              by_cases hb2 : (d.length : Int) ≤ j + d[j].b
              · go_wp2_with fail
                refine (F_any _ _ _).mono ?_
                rintro e w2 ⟨rfl, hb2⟩
                have hB2 := hB1.trans (hb2.mono (by omega))
                clear s0 s1 g0 hB1' hb2
                obtain ⟨hz2, s0, s1, g0, hB2'⟩ := res_cells hB2
                go_wp2_with fail
                exact bodyPost_ret (v := .agg #[.int .i64 1, .int .i64 j]) (by simp [results, Tryd.results9, go_sem, s0, s1]) rfl ⟨tells_bad d (by decide), below_two hB2' _ _⟩
              · have hS' : Hid (Seen d (j + 1)) := hS.out.next hlt HO.out (fun h => h8 h.1) (by omega)
                clear hS h8
                go_wp2_with fail
                go_roundg (d.length - (j + 1))
                case measure => omega
                case rel => exact ⟨j + 1, by omega, rfl, by go_num, hS', hB1⟩
          · have t9 : (d[j].k == 9) = false := by simp [h9]
            have hS' : Hid (Seen d (j + 1)) := hS.out.next hlt HO.out (fun h => h8 h.1) (fun h => h9 h.1)
            clear hS h8 h9 hd
            go_wp2_with fail
            go_roundg (d.length - (j + 1))
            case measure => omega
            case rel => exact ⟨j + 1, by omega, rfl, by go_num, hS', hB1⟩
      · have to : (aloneF d[j] != 0) = true := by simp [ho]
        have HO : Hid (aloneF d[j] ≠ 0) := ho
        clear ho hd
        go_wp2_with fail
        refine (F_any _ _ _).mono ?_
        rintro e w2 ⟨rfl, hb2⟩
        have hB2 := hB1.trans (hb2.mono (by omega))
        clear s0 s1 g0 hB1' hb2
        obtain ⟨hz2, s0, s1, g0, hB2'⟩ := res_cells hB2
        go_wp2_with fail
        exact bodyPost_ret (v := .agg #[.int .i64 (aloneF d[j]), .int .i64 j]) (by simp [results, Tryd.results9, go_sem, s0, s1]) rfl ⟨tells_bad d HO.out, below_two hB2' _ _⟩
    · obtain rfl : j = d.length := by omega
      have hck : Hid ((checkF d).1 = 0) := hS.out.check hlen
      clear hS hd
      go_wp2_with fail
      exact bodyPost_ret (v := .agg #[.int .i64 0, .int .i64 0]) (by simp [results, Tryd.results9, go_sem, r0, r1]) rfl ⟨⟨0, 0, rfl, fun _ => hck.out⟩, below_two hB' _ _⟩
end Go.Proofs.YtdohockbmphhfadDoor
