/-
  The walks of checkPlaces and Check.
-/
import Derived.Test.YtdohockbmphhfacDoorWalkA
import Derived.Deep.LoopGhost
namespace Go.Proofs.YtdohockbmphhfacDoor
open Go.RowKit

/-- A deed as it lies in memory: five cells an operation. -/
def DeedAt (w : World) (v : Value) (d : List Op5) : Prop :=
  ∃ a cap, v = .slice a d.length cap ∧ ∀ i (h : i < d.length), ∃ b off, a = some ⟨b, off, none⟩ ∧
    w.cell? ⟨b, off + i * 5, none⟩ = some (.int .i64 d[i].k) ∧ w.cell? ⟨b, off + i * 5 + 1, none⟩ = some (.int .i64 d[i].a) ∧
    w.cell? ⟨b, off + i * 5 + 2, none⟩ = some (.int .i64 d[i].b) ∧ w.cell? ⟨b, off + i * 5 + 3, none⟩ = some (.int .i64 d[i].c) ∧
    w.cell? ⟨b, off + i * 5 + 4, none⟩ = some (.int .i64 d[i].n)

theorem DeedAt.later {w w' : World} (hb : Below w.heap.size w w') {v : Value} {d : List Op5} (h : DeedAt w v d) : DeedAt w' v d := by
  obtain ⟨a, cap, rfl, h⟩ := h
  refine ⟨a, cap, rfl, fun i hi => ?_⟩
  obtain ⟨b, off, rfl, h0, h1, h2, h3, h4⟩ := h i hi
  exact ⟨b, off, rfl, cell_later hb h0, cell_later hb h1, cell_later hb h2, cell_later hb h3, cell_later hb h4⟩

theorem ret_pair {a b : Int} {p : Int × Int} (h : p = (a, b)) : Ending.returned (.agg #[.int .i64 a, .int .i64 b]) = .returned (.agg #[.int .i64 p.1, .int .i64 p.2]) := by rw [h]

theorem below_two {w wr : World} (h : Below w.heap.size w wr) (x y : Value) : Below w.heap.size w ((wr.setCell ⟨w.heap.size, 0, none⟩ x).setCell ⟨w.heap.size, 1, none⟩ y) :=
  (h.setCell (p := ⟨w.heap.size, 0, none⟩) (Nat.le_refl _) _).setCell (p := ⟨w.heap.size, 1, none⟩) (Nat.le_refl _) _
theorem below_two_alloc {w wr : World} (h : Below w.heap.size w wr) (x y : Value) (o : Obj) : Below w.heap.size w (((wr.setCell ⟨w.heap.size, 0, none⟩ x).setCell ⟨w.heap.size, 1, none⟩ y).alloc o) :=
  (below_two h x y).alloc (by have := (below_two h x y).size; omega) _

set_option maxHeartbeats 400000 in
theorem places_any (v : Value) (d : List Op5) (w : World) (hd : DeedAt w v d) (hlen : d.length ≤ 14) :
    Calls Tryd.prog 94 #[v] w fun e w' => e = .returned (.agg #[.int .i64 (placesF d.length 0 false d).1, .int .i64 (placesF d.length 0 false d).2]) ∧ Below w.heap.size w w' := by
  obtain ⟨a, cap, rfl, hd⟩ := hd
  go_enter Tryd.func94, Tryd.ntmps94
  go_wp2_with fail
  go_loopg [3, 9] d.length (fun g st i wr => ∃ j : Nat, ∃ s : Bool, j ≤ d.length ∧ g = d.length - j ∧ i = .int .i64 j ∧ st = .bool s ∧ Hid (placesF d.length j s (d.drop j) = placesF d.length 0 false d) ∧ Below (w.heap.size + 1) (w.alloc (.cells #[.int .i64 0, .int .i64 0] 93)) wr)
  case atStart => exact ⟨0, false, by omega, by omega, rfl, rfl, rfl, Below.refl _ _⟩
  case round =>
    obtain ⟨j, s, hj, hg, rfl, rfl, hF, hB⟩ := hrel
    by_cases hlt : j < d.length
    · obtain ⟨b, off, rfl, c0, c1, c2, c3, c4⟩ := hd j hlt
      have hB' : Below w.heap.size w wr := ((Below.refl _ _).alloc (Nat.le_refl _) _).trans (hB.mono (by omega))
      replace c0 := cell_later hB' c0
      replace c1 := cell_later hB' c1
      replace c2 := cell_later hB' c2
      replace c3 := cell_later hB' c3
      replace c4 := cell_later hB' c4
      clear hd
      have hz : w.heap.size < wr.heap.size := by have := hB.size; simp at this; omega
      have r0 : wr.cell? ⟨w.heap.size, 0, none⟩ = some (.int .i64 0) := by rw [hB.cell (p := ⟨w.heap.size, 0, none⟩) (by simp)]; simp
      have r1 : wr.cell? ⟨w.heap.size, 1, none⟩ = some (.int .i64 0) := by rw [hB.cell (p := ⟨w.heap.size, 1, none⟩) (by simp)]; simp
      have f0 : ∀ o, wr.frozen? ⟨w.heap.size, o, none⟩ = false := fun o => by rw [hB.frozen (p := ⟨w.heap.size, o, none⟩) (by simp)]; simp
      by_cases h7 : d[j].k = 7
      · have hF' : Hid (placesF d.length (j + 1) true (d.drop (j + 1)) = placesF d.length 0 false d) := (placesF_store (s := s) hlt h7).trans hF.out
        go_wp2_with fail
        go_roundg (d.length - (j + 1))
        case measure => omega
        case rel => exact ⟨j + 1, true, by omega, rfl, by go_num, rfl, hF', hB.alloc (by omega) _⟩
      · have t7 : (d[j].k == 7) = false := by simp [h7]
        by_cases h8 : d[j].k = 8
        · have t8 : (d[j].k == 8) = true := by simp [h8]
          cases s
          · have hF' : Hid (placesF d.length (j + 1) false (d.drop (j + 1)) = placesF d.length 0 false d) := (placesF_next hlt h7 (by simp) (by omega)).trans hF.out
            clear hF
            go_wp2_with fail
            go_roundg (d.length - (j + 1))
            case measure => omega
            case rel => exact ⟨j + 1, false, by omega, rfl, by go_num, rfl, hF', hB.alloc (by omega) _⟩
          · have hF' : Hid (placesF d.length 0 false d = (5, (j : Int))) := hF.out.symm.trans (placesF_stop hlt h8 rfl)
            clear hF
            go_wp2_with fail
            exact bodyPost_ret (v := .agg #[.int .i64 5, .int .i64 j]) (by simp [results, Tryd.results94, go_sem, r0, r1, hz]) rfl ⟨ret_pair hF'.out, below_two_alloc hB' _ _ _⟩
        · have t8 : (d[j].k == 8) = false := by simp [h8]
          by_cases h9 : d[j].k = 9
          · have t9 : (d[j].k == 9) = true := by simp [h9]
            by_cases hb1 : d[j].b < 1
            · have hF' : Hid (placesF d.length 0 false d = (1, (j : Int))) := hF.out.symm.trans (placesF_skip hlt h9 (Or.inl hb1))
              clear hF
              go_wp2_with fail
              exact bodyPost_ret (v := .agg #[.int .i64 1, .int .i64 j]) (by simp [results, Tryd.results94, go_sem, r0, r1, hz]) rfl ⟨ret_pair hF'.out, below_two_alloc hB' _ _ _⟩
            · by_cases hb2 : (d.length : Int) - 1 - j < d[j].b
              · have hF' : Hid (placesF d.length 0 false d = (1, (j : Int))) := hF.out.symm.trans (placesF_skip hlt h9 (Or.inr hb2))
                clear hF
                go_wp2_with fail
                exact bodyPost_ret (v := .agg #[.int .i64 1, .int .i64 j]) (by simp [results, Tryd.results94, go_sem, r0, r1, hz]) rfl ⟨ret_pair hF'.out, below_two_alloc hB' _ _ _⟩
              · have hF' : Hid (placesF d.length (j + 1) s (d.drop (j + 1)) = placesF d.length 0 false d) := (placesF_next hlt h7 (by omega) (by omega)).trans hF.out
                clear hF
                go_wp2_with fail
                go_roundg (d.length - (j + 1))
                case measure => omega
                case rel => exact ⟨j + 1, s, by omega, rfl, by go_num, rfl, hF', hB.alloc (by omega) _⟩
          · have t9 : (d[j].k == 9) = false := by simp [h9]
            have hF' : Hid (placesF d.length (j + 1) s (d.drop (j + 1)) = placesF d.length 0 false d) := (placesF_next hlt h7 (by omega) (by omega)).trans hF.out
            clear hF
            go_wp2_with fail
            go_roundg (d.length - (j + 1))
            case measure => omega
            case rel => exact ⟨j + 1, s, by omega, rfl, by go_num, rfl, hF', hB.alloc (by omega) _⟩
    · obtain rfl : j = d.length := by omega
      have hF' : Hid (placesF d.length 0 false d = (0, 0)) := by
        have h := hF.out; simp only [List.drop_length, placesF] at h; exact h.symm
      have hB' : Below w.heap.size w wr := ((Below.refl _ _).alloc (Nat.le_refl _) _).trans (hB.mono (by omega))
      have hz : w.heap.size < wr.heap.size := by have := hB.size; simp at this; omega
      have r0 : wr.cell? ⟨w.heap.size, 0, none⟩ = some (.int .i64 0) := by rw [hB.cell (p := ⟨w.heap.size, 0, none⟩) (by simp)]; simp
      have r1 : wr.cell? ⟨w.heap.size, 1, none⟩ = some (.int .i64 0) := by rw [hB.cell (p := ⟨w.heap.size, 1, none⟩) (by simp)]; simp
      have f0 : ∀ o, wr.frozen? ⟨w.heap.size, o, none⟩ = false := fun o => by rw [hB.frozen (p := ⟨w.heap.size, o, none⟩) (by simp)]; simp
      clear hF hd
      go_wp2_with fail
      exact bodyPost_ret (v := .agg #[.int .i64 0, .int .i64 0]) (by simp [results, Tryd.results94, go_sem, r0, r1]) rfl ⟨ret_pair hF'.out, below_two hB' _ _⟩
theorem Lim.pos {w : World} (h : Lim w) : 3 < w.heap.size := World.block_lt_of_cell? w _ (h 0 0 (by omega) (by omega))
theorem Lim.later {w w' : World} (hb : Below w.heap.size w w') (h : Lim w) : Lim w' := fun k j hk hj => cell_later hb (h k j hk hj)
theorem alone_any (o : Op5) (w : World) (hL : Lim w) :
    Calls Tryd.prog 93 #[.agg #[.int .i64 o.k, .int .i64 o.a, .int .i64 o.b, .int .i64 o.c, .int .i64 o.n]] w fun e w' => e = .returned (.int .i64 (aloneF o)) ∧ Below w.heap.size w w' := by
  by_cases h : o.k < 1 ∨ 9 < o.k
  · exact alone_bad o w h
  · exact alone_good o w (by omega) (by omega) hL hL.pos

/-- The result's two cells, in a later world. -/
theorem res_cells {w wr : World} (hB : Below (w.heap.size + 1) (w.alloc (.cells #[.int .i64 0, .int .i64 0] 93)) wr) :
    w.heap.size < wr.heap.size ∧ wr.cell? ⟨w.heap.size, 0, none⟩ = some (.int .i64 0) ∧ wr.cell? ⟨w.heap.size, 1, none⟩ = some (.int .i64 0) ∧ (∀ o, wr.frozen? ⟨w.heap.size, o, none⟩ = false) ∧ Below w.heap.size w wr := by
  refine ⟨by have := hB.size; simp at this; omega, ?_, ?_, fun o => ?_, ((Below.refl _ _).alloc (Nat.le_refl _) _).trans (hB.mono (by omega))⟩
  · rw [hB.cell (p := ⟨w.heap.size, 0, none⟩) (by simp)]; simp
  · rw [hB.cell (p := ⟨w.heap.size, 1, none⟩) (by simp)]; simp
  · rw [hB.frozen (p := ⟨w.heap.size, o, none⟩) (by simp)]; simp

set_option maxHeartbeats 400000 in
theorem check_many (v : Value) (d : List Op5) (w : World) (hd : DeedAt w v d) (hlen : 14 < d.length) (hmax : d.length ≤ 9223372036854775807) :
    Calls Tryd.prog 73 #[v] w fun e w' => e = .returned (.agg #[.int .i64 (checkF d).1, .int .i64 (checkF d).2]) ∧ Below w.heap.size w w' := by
  have hF : Hid (checkF d = (4, -1)) := by unfold checkF; rw [if_pos hlen]; rfl
  obtain ⟨a, cap, rfl, -⟩ := hd
  go_enter Tryd.func73, Tryd.ntmps73
  go_wp2_with fail
  exact bodyPost_ret (v := .agg #[.int .i64 4, .int .i64 (-1)]) (by simp [results, Tryd.results73, go_sem]) rfl ⟨ret_pair hF.out, (Below.refl _ _).alloc (Nat.le_refl _) _⟩

set_option maxHeartbeats 400000 in
theorem check_few (v : Value) (d : List Op5) (w : World) (hd : DeedAt w v d) (hlen : d.length ≤ 14) (hL : Lim w) :
    Calls Tryd.prog 73 #[v] w fun e w' => e = .returned (.agg #[.int .i64 (checkF d).1, .int .i64 (checkF d).2]) ∧ Below w.heap.size w w' := by
  have hF0 : Hid (checkF d = firstF (placesF d.length 0 false d) 0 d) := by unfold checkF; rw [if_neg (by omega)]; rfl
  have HD := hd
  obtain ⟨a, cap, rfl, hd⟩ := hd
  go_enter Tryd.func73, Tryd.ntmps73
  go_wp2_with fail
  go_loopg [12] d.length (fun g i wr => ∃ j : Nat, j ≤ d.length ∧ g = d.length - j ∧ i = .int .i64 j ∧ Hid (firstF (placesF d.length 0 false d) j (d.drop j) = firstF (placesF d.length 0 false d) 0 d) ∧ Below (w.heap.size + 1) (w.alloc (.cells #[.int .i64 0, .int .i64 0] 93)) wr)
  case atStart => exact ⟨0, by omega, by omega, rfl, rfl, Below.refl _ _⟩
  case round =>
    obtain ⟨j, hj, hg, rfl, hF, hB⟩ := hrel
    obtain ⟨hz, r0, r1, f0, hB'⟩ := res_cells hB
    by_cases hlt : j < d.length
    · obtain ⟨b, off, rfl, c0, c1, c2, c3, c4⟩ := hd j hlt
      replace c0 := cell_later hB' c0
      replace c1 := cell_later hB' c1
      replace c2 := cell_later hB' c2
      replace c3 := cell_later hB' c3
      replace c4 := cell_later hB' c4
      clear hd
      go_wp2_with fail
      refine (alone_any d[j] _ ?_).mono ?_
      · exact hL.later (hB'.alloc (by omega) _)
      rintro e w1 ⟨rfl, hb1⟩
      have hB1 : Below (w.heap.size + 1) (w.alloc (.cells #[.int .i64 0, .int .i64 0] 93)) w1 := (hB.alloc (by omega) _).trans (hb1.mono (by simp; omega))
      clear r0 r1 f0 hB' hb1 c0 c1 c2 c3 c4
      obtain ⟨hz1, s0, s1, g0, hB1'⟩ := res_cells hB1
      by_cases ho : aloneF d[j] = 0
      · have hF' : Hid (firstF (placesF d.length 0 false d) (j + 1) (d.drop (j + 1)) = firstF (placesF d.length 0 false d) 0 d) := (firstF_next hlt ho).trans hF.out
        clear hF
        go_wp2_with fail
        go_roundg (d.length - (j + 1))
        case measure => omega
        case rel => exact ⟨j + 1, by omega, rfl, by go_num, hF', hB1⟩
      · have hF' : Hid (checkF d = (aloneF d[j], (j : Int))) := hF0.out.trans (hF.out.symm.trans (firstF_bad hlt ho))
        clear hF hF0
        go_wp2_with fail
        exact bodyPost_ret (v := .agg #[.int .i64 (aloneF d[j]), .int .i64 j]) (by simp [results, Tryd.results73, go_sem, s0, s1]) rfl ⟨ret_pair hF'.out, below_two hB1' _ _⟩
    · obtain rfl : j = d.length := by omega
      have hF' : Hid (checkF d = placesF d.length 0 false d) := by
        have h := hF.out; simp only [List.drop_length, firstF] at h; exact hF0.out.trans h.symm
      clear hF hF0 hd
      go_wp2_with fail
      refine (places_any _ d _ (HD.later hB') hlen).mono ?_
      rintro e w1 ⟨rfl, hb1⟩
      have hB1 : Below (w.heap.size + 1) (w.alloc (.cells #[.int .i64 0, .int .i64 0] 93)) w1 := hB.trans (hb1.mono (by omega))
      clear r0 r1 f0 hB' hb1
      obtain ⟨hz1, s0, s1, g0, hB1'⟩ := res_cells hB1
      go_wp2_with fail
      exact bodyPost_ret (v := .agg #[.int .i64 (placesF d.length 0 false d).1, .int .i64 (placesF d.length 0 false d).2]) (by simp [results, Tryd.results73, go_sem, s0, s1]) rfl ⟨ret_pair hF'.out, below_two hB1' _ _⟩

theorem check_any (v : Value) (d : List Op5) (w : World) (hd : DeedAt w v d) (hmax : d.length ≤ 9223372036854775807) (hL : Lim w) :
    Calls Tryd.prog 73 #[v] w fun e w' => e = .returned (.agg #[.int .i64 (checkF d).1, .int .i64 (checkF d).2]) ∧ Below w.heap.size w w' := by
  by_cases h : d.length ≤ 14
  · exact check_few v d w hd h hL
  · exact check_many v d w hd (by omega) hmax

end Go.Proofs.YtdohockbmphhfacDoor
