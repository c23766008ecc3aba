/-
  The walks of the small functions. The walks of checkPlaces and Check. The walks of code.Round and of Great. Worlds that part in some blocks alone; a deed in blocks of which something is known; rows of the call's own, and append as one step of a region. States and results as values; a state in a block of its own.
-/
import Derived.Test.YtehkjbpgibdgpadGreatDoorRows
import Derived.Test.YtehkjbpgibdgpadGreatDoorJqMa
import Derived.WalkKit
import Derived.WalkSpells
import Derived.Deep.LoopGhost
import Derived.Maps.AppendAt
import Derived.Deep.RegionLaw
import Derived.OwnWalk
import Derived.Test.YtehkjbpgibdgpadGreatDoorJqMb
import Derived.Deep.QuietTactic
import Derived.BigQuiet
namespace Go.Proofs.YtehkjbpgibdgpadGreatDoor
open Go.RowKit

set_option maxHeartbeats 400000 in
theorem part_any (p l : Int) (w : World) :
    Calls Tryz.prog 138 #[.int .i64 p, .int .i64 l] w fun e w' => e = .returned (.int .i64 (partF p l)) ∧ w' = w := by
  unfold partF
  by_cases h0 : l = 0
  · by_cases h1 : p = 0
    · go_enter Tryz.func138, Tryz.ntmps138
      go_wp2
      go_ret
      exact ⟨by simp, rfl⟩
    · go_enter Tryz.func138, Tryz.ntmps138
      go_wp2
      go_ret
      exact ⟨by simp, rfl⟩
  · by_cases h1 : p < 0
    · go_enter Tryz.func138, Tryz.ntmps138
      go_wp2
      go_ret
      exact ⟨by simp, rfl⟩
    · by_cases h2 : l ≤ p
      · go_enter Tryz.func138, Tryz.ntmps138
        go_wp2
        go_ret
        exact ⟨by simp, rfl⟩
      · go_enter Tryz.func138, Tryz.ntmps138
        go_wp2
        go_ret
        exact ⟨by simp, rfl⟩

set_option maxHeartbeats 400000 in
theorem F_any (c n : Int) (w : World) :
    Calls Tryz.prog 16 #[.int .i64 c, .int .i64 n] w fun e w' => e = .returned (.agg #[.int .i64 c, .int .i64 n]) ∧ Below w.heap.size w w' := by
  go_enter Tryz.func16, Tryz.ntmps16
  go_wp2
  exact bodyPost_ret (v := .agg #[.int .i64 c, .int .i64 n]) (by simp [results, Tryz.results16, go_sem]) rfl ⟨rfl, (Below.refl _ _).alloc (Nat.le_refl _) _⟩

theorem ret_int {k : IntKind} {a b : Int} (h : a = b) : Ending.returned (.int k a) = .returned (.int k b) := by rw [h]

/-- The cells of the table of limits. -/
def Lim (w : World) : Prop := ∀ (k : Nat) (j : Nat), k < 10 → j < 3 → w.cell? ⟨4, k * 3 + j, none⟩ = some (.int .i64 (limF k j))

set_option maxHeartbeats 400000 in
theorem alone_bad (o : Op5) (w : World) (h : o.k < 1 ∨ 9 < o.k) :
    Calls Tryz.prog 109 #[.agg #[.int .i64 o.k, .int .i64 o.a, .int .i64 o.b, .int .i64 o.c, .int .i64 o.n]] w fun e w' => e = .returned (.int .i64 (aloneF o)) ∧ Below w.heap.size w w' := by
  obtain ⟨k, a, b, c, n⟩ := o
  have e : aloneF ⟨k, a, b, c, n⟩ = 2 := by unfold aloneF; rw [if_pos h]
  rw [e]; clear e
  dsimp only at h ⊢
  rcases h with h | h
  · go_enter Tryz.func109, Tryz.ntmps109
    go_wp2
    go_ret
    exact ⟨rfl, (Below.refl _ _).alloc (Nat.le_refl _) _⟩
  · have h' : ¬ k < 1 := by omega
    go_enter Tryz.func109, Tryz.ntmps109
    go_wp2
    go_ret
    exact ⟨rfl, (Below.refl _ _).alloc (Nat.le_refl _) _⟩

set_option maxHeartbeats 400000 in
theorem alone_good (o : Op5) (w : World) (h1 : 1 ≤ o.k) (h9 : o.k ≤ 9) (hL : Lim w) (hw : 4 < w.heap.size) :
    Calls Tryz.prog 109 #[.agg #[.int .i64 o.k, .int .i64 o.a, .int .i64 o.b, .int .i64 o.c, .int .i64 o.n]] w fun e w' => e = .returned (.int .i64 (aloneF o)) ∧ Below w.heap.size w w' := by
  obtain ⟨k, a, b, c, n⟩ := o
  dsimp only at h1 h9 ⊢
  obtain ⟨m, rfl⟩ : ∃ m : Nat, k = (m : Int) := ⟨k.toNat, by omega⟩
  have l0 : w.cell? ⟨4, m * 3, none⟩ = some (.int .i64 (limF m 0)) := hL m 0 (by omega) (by omega)
  have l1 : w.cell? ⟨4, m * 3 + 1, none⟩ = some (.int .i64 (limF m 1)) := hL m 1 (by omega) (by omega)
  have l2 : w.cell? ⟨4, m * 3 + 2, none⟩ = some (.int .i64 (limF m 2)) := hL m 2 (by omega) (by omega)
  go_enter Tryz.func109, Tryz.ntmps109
  have i0 : ∀ w, (Instr.index 186 (.agg #[.int .i64 a, .int .i64 b, .int .i64 c]) (.int .i64 0)).run Tryz.prog w = .ok (.int .i64 a) w := fun _ => by kernel_rfl
  have i1 : ∀ w, (Instr.index 186 (.agg #[.int .i64 a, .int .i64 b, .int .i64 c]) (.int .i64 1)).run Tryz.prog w = .ok (.int .i64 b) w := fun _ => by kernel_rfl
  have i2 : ∀ w, (Instr.index 186 (.agg #[.int .i64 a, .int .i64 b, .int .i64 c]) (.int .i64 2)).run Tryz.prog w = .ok (.int .i64 c) w := fun _ => by kernel_rfl
  go_wp2_with fail
  go_loop [21] (fun i => ∃ j : Nat, j ≤ 3 ∧ i = .int .i64 j ∧ Hid ((0 < j → partF a (limF m 0) = 0) ∧ (1 < j → partF b (limF m 1) = 0) ∧ (2 < j → partF c (limF m 2) = 0))) (fun i => 3 - (intOf i).toNat)
  case atStart => exact ⟨0, by omega, rfl, fun h => by omega, fun h => by omega, fun h => by omega⟩
  case round =>
    obtain ⟨j, hj, rfl, hh⟩ := hrel
    have hc : j = 0 ∨ j = 1 ∨ j = 2 ∨ j = 3 := by omega
    rcases hc with rfl | rfl | rfl | rfl
    · by_cases hp : partF a (limF m 0) = 0
      · go_wp2_with (go_at_call 138; refine (part_any _ _ _).mono ?_; rintro e w' ⟨rfl, rfl⟩)
        go_round
        case rel => exact ⟨1, by omega, by go_num, fun _ => hp, fun h => by omega, fun h => by omega⟩
        case measure => simp [intOf]
      · have hf : Hid (aloneF ⟨m, a, b, c, n⟩ = partF a (limF m 0)) := aloneF_a (o := ⟨m, a, b, c, n⟩) (by dsimp only; omega) hp
        go_wp2_with (go_at_call 138; refine (part_any _ _ _).mono ?_; rintro e w' ⟨rfl, rfl⟩)
        go_ret
        exact ⟨ret_int hf.out.symm, (Below.refl _ _).alloc (Nat.le_refl _) _⟩
    · by_cases hp : partF b (limF m 1) = 0
      · go_wp2_with (go_at_call 138; refine (part_any _ _ _).mono ?_; rintro e w' ⟨rfl, rfl⟩)
        go_round
        case rel => exact ⟨2, by omega, by go_num, fun _ => hh.out.1 (by omega), fun _ => hp, fun h => by omega⟩
        case measure => simp [intOf]
      · have hf : Hid (aloneF ⟨m, a, b, c, n⟩ = partF b (limF m 1)) := aloneF_b (o := ⟨m, a, b, c, n⟩) (by dsimp only; omega) (hh.out.1 (by omega)) hp
        go_wp2_with (go_at_call 138; refine (part_any _ _ _).mono ?_; rintro e w' ⟨rfl, rfl⟩)
        go_ret
        exact ⟨ret_int hf.out.symm, (Below.refl _ _).alloc (Nat.le_refl _) _⟩
    · by_cases hp : partF c (limF m 2) = 0
      · go_wp2_with (go_at_call 138; refine (part_any _ _ _).mono ?_; rintro e w' ⟨rfl, rfl⟩)
        go_round
        case rel => exact ⟨3, by omega, by go_num, fun _ => hh.out.1 (by omega), fun _ => hh.out.2.1 (by omega), fun _ => hp⟩
        case measure => simp [intOf]
      · have hf : Hid (aloneF ⟨m, a, b, c, n⟩ = partF c (limF m 2)) := aloneF_c (o := ⟨m, a, b, c, n⟩) (by dsimp only; omega) (hh.out.1 (by omega)) (hh.out.2.1 (by omega)) hp
        go_wp2_with (go_at_call 138; refine (part_any _ _ _).mono ?_; rintro e w' ⟨rfl, rfl⟩)
        go_ret
        exact ⟨ret_int hf.out.symm, (Below.refl _ _).alloc (Nat.le_refl _) _⟩
    · have hf : Hid (aloneF ⟨m, a, b, c, n⟩ = if n ≠ 0 ∧ (m : Int) ≠ 1 then 3 else 0) := aloneF_n (o := ⟨m, a, b, c, n⟩) (by dsimp only; omega) (hh.out.1 (by omega)) (hh.out.2.1 (by omega)) (hh.out.2.2 (by omega))
      by_cases hn : n = 0
      · have hg : Hid (0 = aloneF ⟨m, a, b, c, n⟩) := by rw [hf.out, if_neg (by omega)]; rfl
        have hb : (n != 0) = false := by simp [hn]
        clear hf hn
        go_wp2
        go_ret
        exact ⟨ret_int hg.out, (Below.refl _ _).alloc (Nat.le_refl _) _⟩
      · have hb : (n != 0) = true := by simp [hn]
        by_cases hm : (m : Int) = 1
        · have hg : Hid (0 = aloneF ⟨m, a, b, c, n⟩) := by rw [hf.out, if_neg (by omega)]; rfl
          have hb' : ((m : Int) != 1) = false := by simp [hm]
          clear hf hn hm
          go_wp2
          go_ret
          exact ⟨ret_int hg.out, (Below.refl _ _).alloc (Nat.le_refl _) _⟩
        · have hg : Hid (3 = aloneF ⟨m, a, b, c, n⟩) := by rw [hf.out, if_pos ⟨hn, hm⟩]; rfl
          have hb' : ((m : Int) != 1) = true := by simp [hm]
          clear hf hn hm
          go_wp2
          go_ret
          exact ⟨ret_int hg.out, (Below.refl _ _).alloc (Nat.le_refl _) _⟩
end Go.Proofs.YtehkjbpgibdgpadGreatDoor
namespace Go.Proofs.YtehkjbpgibdgpadGreatDoor
open Go.RowKit

/-- A deed as it lies in memory: five cells an operation. -/
def DeedAt (w : World) (v : Value) (d : List Op5) : Prop :=
  ∃ a cap, v = .slice a d.length cap ∧ ∀ i (h : i < d.length), ∃ b off, a = some ⟨b, off, none⟩ ∧
    w.cell? ⟨b, off + i * 5, none⟩ = some (.int .i64 d[i].k) ∧ w.cell? ⟨b, off + i * 5 + 1, none⟩ = some (.int .i64 d[i].a) ∧
    w.cell? ⟨b, off + i * 5 + 2, none⟩ = some (.int .i64 d[i].b) ∧ w.cell? ⟨b, off + i * 5 + 3, none⟩ = some (.int .i64 d[i].c) ∧
    w.cell? ⟨b, off + i * 5 + 4, none⟩ = some (.int .i64 d[i].n)

theorem DeedAt.later {w w' : World} (hb : Below w.heap.size w w') {v : Value} {d : List Op5} (h : DeedAt w v d) : DeedAt w' v d := by
  obtain ⟨a, cap, rfl, h⟩ := h
  refine ⟨a, cap, rfl, fun i hi => ?_⟩
  obtain ⟨b, off, rfl, h0, h1, h2, h3, h4⟩ := h i hi
  exact ⟨b, off, rfl, cell_later hb h0, cell_later hb h1, cell_later hb h2, cell_later hb h3, cell_later hb h4⟩

theorem ret_pair {a b : Int} {p : Int × Int} (h : p = (a, b)) : Ending.returned (.agg #[.int .i64 a, .int .i64 b]) = .returned (.agg #[.int .i64 p.1, .int .i64 p.2]) := by rw [h]

theorem below_two {w wr : World} (h : Below w.heap.size w wr) (x y : Value) : Below w.heap.size w ((wr.setCell ⟨w.heap.size, 0, none⟩ x).setCell ⟨w.heap.size, 1, none⟩ y) :=
  (h.setCell (p := ⟨w.heap.size, 0, none⟩) (Nat.le_refl _) _).setCell (p := ⟨w.heap.size, 1, none⟩) (Nat.le_refl _) _
theorem below_two_alloc {w wr : World} (h : Below w.heap.size w wr) (x y : Value) (o : Obj) : Below w.heap.size w (((wr.setCell ⟨w.heap.size, 0, none⟩ x).setCell ⟨w.heap.size, 1, none⟩ y).alloc o) :=
  (below_two h x y).alloc (by have := (below_two h x y).size; omega) _

set_option maxHeartbeats 400000 in
theorem places_any (v : Value) (d : List Op5) (w : World) (hd : DeedAt w v d) (hlen : d.length ≤ 14) :
    Calls Tryz.prog 110 #[v] w fun e w' => e = .returned (.agg #[.int .i64 (placesF d.length 0 false d).1, .int .i64 (placesF d.length 0 false d).2]) ∧ Below w.heap.size w w' := by
  obtain ⟨a, cap, rfl, hd⟩ := hd
  go_enter Tryz.func110, Tryz.ntmps110
  go_wp2_with fail
  go_loopg [3, 9] d.length (fun g st i wr => ∃ j : Nat, ∃ s : Bool, j ≤ d.length ∧ g = d.length - j ∧ i = .int .i64 j ∧ st = .bool s ∧ Hid (placesF d.length j s (d.drop j) = placesF d.length 0 false d) ∧ Below (w.heap.size + 1) (w.alloc (.cells #[.int .i64 0, .int .i64 0] 42)) wr)
  case atStart => exact ⟨0, false, by omega, by omega, rfl, rfl, rfl, Below.refl _ _⟩
  case round =>
    obtain ⟨j, s, hj, hg, rfl, rfl, hF, hB⟩ := hrel
    by_cases hlt : j < d.length
    · obtain ⟨b, off, rfl, c0, c1, c2, c3, c4⟩ := hd j hlt
      have hB' : Below w.heap.size w wr := ((Below.refl _ _).alloc (Nat.le_refl _) _).trans (hB.mono (by omega))
      replace c0 := cell_later hB' c0
      replace c1 := cell_later hB' c1
      replace c2 := cell_later hB' c2
      replace c3 := cell_later hB' c3
      replace c4 := cell_later hB' c4
      clear hd
      have hz : w.heap.size < wr.heap.size := by have := hB.size; simp at this; omega
      have r0 : wr.cell? ⟨w.heap.size, 0, none⟩ = some (.int .i64 0) := by rw [hB.cell (p := ⟨w.heap.size, 0, none⟩) (by simp)]; simp
      have r1 : wr.cell? ⟨w.heap.size, 1, none⟩ = some (.int .i64 0) := by rw [hB.cell (p := ⟨w.heap.size, 1, none⟩) (by simp)]; simp
      have f0 : ∀ o, wr.frozen? ⟨w.heap.size, o, none⟩ = false := fun o => by rw [hB.frozen (p := ⟨w.heap.size, o, none⟩) (by simp)]; simp
      by_cases h7 : d[j].k = 7
      · have hF' : Hid (placesF d.length (j + 1) true (d.drop (j + 1)) = placesF d.length 0 false d) := (placesF_store (s := s) hlt h7).trans hF.out
        go_wp2_with fail
        go_roundg (d.length - (j + 1))
        case measure => omega
        case rel => exact ⟨j + 1, true, by omega, rfl, by go_num, rfl, hF', hB.alloc (by omega) _⟩
      · have t7 : (d[j].k == 7) = false := by simp [h7]
        by_cases h8 : d[j].k = 8
        · have t8 : (d[j].k == 8) = true := by simp [h8]
          cases s
          · have hF' : Hid (placesF d.length (j + 1) false (d.drop (j + 1)) = placesF d.length 0 false d) := (placesF_next hlt h7 (by simp) (by omega)).trans hF.out
            clear hF
            go_wp2_with fail
            go_roundg (d.length - (j + 1))
            case measure => omega
            case rel => exact ⟨j + 1, false, by omega, rfl, by go_num, rfl, hF', hB.alloc (by omega) _⟩
          · have hF' : Hid (placesF d.length 0 false d = (5, (j : Int))) := hF.out.symm.trans (placesF_stop hlt h8 rfl)
            clear hF
            go_wp2_with fail
            exact bodyPost_ret (v := .agg #[.int .i64 5, .int .i64 j]) (by simp [results, Tryz.results110, go_sem, r0, r1, hz]) rfl ⟨ret_pair hF'.out, below_two_alloc hB' _ _ _⟩
        · have t8 : (d[j].k == 8) = false := by simp [h8]
          by_cases h9 : d[j].k = 9
          · have t9 : (d[j].k == 9) = true := by simp [h9]
            by_cases hb1 : d[j].b < 1
            · have hF' : Hid (placesF d.length 0 false d = (1, (j : Int))) := hF.out.symm.trans (placesF_skip hlt h9 (Or.inl hb1))
              clear hF
              go_wp2_with fail
              exact bodyPost_ret (v := .agg #[.int .i64 1, .int .i64 j]) (by simp [results, Tryz.results110, go_sem, r0, r1, hz]) rfl ⟨ret_pair hF'.out, below_two_alloc hB' _ _ _⟩
            · by_cases hb2 : (d.length : Int) - 1 - j < d[j].b
              · have hF' : Hid (placesF d.length 0 false d = (1, (j : Int))) := hF.out.symm.trans (placesF_skip hlt h9 (Or.inr hb2))
                clear hF
                go_wp2_with fail
                exact bodyPost_ret (v := .agg #[.int .i64 1, .int .i64 j]) (by simp [results, Tryz.results110, go_sem, r0, r1, hz]) rfl ⟨ret_pair hF'.out, below_two_alloc hB' _ _ _⟩
              · have hF' : Hid (placesF d.length (j + 1) s (d.drop (j + 1)) = placesF d.length 0 false d) := (placesF_next hlt h7 (by omega) (by omega)).trans hF.out
                clear hF
                go_wp2_with fail
                go_roundg (d.length - (j + 1))
                case measure => omega
                case rel => exact ⟨j + 1, s, by omega, rfl, by go_num, rfl, hF', hB.alloc (by omega) _⟩
          · have t9 : (d[j].k == 9) = false := by simp [h9]
            have hF' : Hid (placesF d.length (j + 1) s (d.drop (j + 1)) = placesF d.length 0 false d) := (placesF_next hlt h7 (by omega) (by omega)).trans hF.out
            clear hF
            go_wp2_with fail
            go_roundg (d.length - (j + 1))
            case measure => omega
            case rel => exact ⟨j + 1, s, by omega, rfl, by go_num, rfl, hF', hB.alloc (by omega) _⟩
    · obtain rfl : j = d.length := by omega
      have hF' : Hid (placesF d.length 0 false d = (0, 0)) := by
        have h := hF.out; simp only [List.drop_length, placesF] at h; exact h.symm
      have hB' : Below w.heap.size w wr := ((Below.refl _ _).alloc (Nat.le_refl _) _).trans (hB.mono (by omega))
      have hz : w.heap.size < wr.heap.size := by have := hB.size; simp at this; omega
      have r0 : wr.cell? ⟨w.heap.size, 0, none⟩ = some (.int .i64 0) := by rw [hB.cell (p := ⟨w.heap.size, 0, none⟩) (by simp)]; simp
      have r1 : wr.cell? ⟨w.heap.size, 1, none⟩ = some (.int .i64 0) := by rw [hB.cell (p := ⟨w.heap.size, 1, none⟩) (by simp)]; simp
      have f0 : ∀ o, wr.frozen? ⟨w.heap.size, o, none⟩ = false := fun o => by rw [hB.frozen (p := ⟨w.heap.size, o, none⟩) (by simp)]; simp
      clear hF hd
      go_wp2_with fail
      exact bodyPost_ret (v := .agg #[.int .i64 0, .int .i64 0]) (by simp [results, Tryz.results110, go_sem, r0, r1]) rfl ⟨ret_pair hF'.out, below_two hB' _ _⟩
theorem Lim.pos {w : World} (h : Lim w) : 4 < w.heap.size := World.block_lt_of_cell? w _ (h 0 0 (by omega) (by omega))
theorem Lim.later {w w' : World} (hb : Below w.heap.size w w') (h : Lim w) : Lim w' := fun k j hk hj => cell_later hb (h k j hk hj)
theorem alone_any (o : Op5) (w : World) (hL : Lim w) :
    Calls Tryz.prog 109 #[.agg #[.int .i64 o.k, .int .i64 o.a, .int .i64 o.b, .int .i64 o.c, .int .i64 o.n]] w fun e w' => e = .returned (.int .i64 (aloneF o)) ∧ Below w.heap.size w w' := by
  by_cases h : o.k < 1 ∨ 9 < o.k
  · exact alone_bad o w h
  · exact alone_good o w (by omega) (by omega) hL hL.pos

/-- The result's two cells, in a later world. -/
theorem res_cells {w wr : World} (hB : Below (w.heap.size + 1) (w.alloc (.cells #[.int .i64 0, .int .i64 0] 42)) wr) :
    w.heap.size < wr.heap.size ∧ wr.cell? ⟨w.heap.size, 0, none⟩ = some (.int .i64 0) ∧ wr.cell? ⟨w.heap.size, 1, none⟩ = some (.int .i64 0) ∧ (∀ o, wr.frozen? ⟨w.heap.size, o, none⟩ = false) ∧ Below w.heap.size w wr := by
  refine ⟨by have := hB.size; simp at this; omega, ?_, ?_, fun o => ?_, ((Below.refl _ _).alloc (Nat.le_refl _) _).trans (hB.mono (by omega))⟩
  · rw [hB.cell (p := ⟨w.heap.size, 0, none⟩) (by simp)]; simp
  · rw [hB.cell (p := ⟨w.heap.size, 1, none⟩) (by simp)]; simp
  · rw [hB.frozen (p := ⟨w.heap.size, o, none⟩) (by simp)]; simp

set_option maxHeartbeats 400000 in
theorem check_many (v : Value) (d : List Op5) (w : World) (hd : DeedAt w v d) (hlen : 14 < d.length) (hmax : d.length ≤ 9223372036854775807) :
    Calls Tryz.prog 80 #[v] w fun e w' => e = .returned (.agg #[.int .i64 (checkF d).1, .int .i64 (checkF d).2]) ∧ Below w.heap.size w w' := by
  have hF : Hid (checkF d = (4, -1)) := by unfold checkF; rw [if_pos hlen]; rfl
  obtain ⟨a, cap, rfl, -⟩ := hd
  go_enter Tryz.func80, Tryz.ntmps80
  go_wp2_with fail
  exact bodyPost_ret (v := .agg #[.int .i64 4, .int .i64 (-1)]) (by simp [results, Tryz.results80, go_sem]) rfl ⟨ret_pair hF.out, (Below.refl _ _).alloc (Nat.le_refl _) _⟩

set_option maxHeartbeats 400000 in
theorem check_few (v : Value) (d : List Op5) (w : World) (hd : DeedAt w v d) (hlen : d.length ≤ 14) (hL : Lim w) :
    Calls Tryz.prog 80 #[v] w fun e w' => e = .returned (.agg #[.int .i64 (checkF d).1, .int .i64 (checkF d).2]) ∧ Below w.heap.size w w' := by
  have hF0 : Hid (checkF d = firstF (placesF d.length 0 false d) 0 d) := by unfold checkF; rw [if_neg (by omega)]; rfl
  have HD := hd
  obtain ⟨a, cap, rfl, hd⟩ := hd
  go_enter Tryz.func80, Tryz.ntmps80
  go_wp2_with fail
  go_loopg [12] d.length (fun g i wr => ∃ j : Nat, j ≤ d.length ∧ g = d.length - j ∧ i = .int .i64 j ∧ Hid (firstF (placesF d.length 0 false d) j (d.drop j) = firstF (placesF d.length 0 false d) 0 d) ∧ Below (w.heap.size + 1) (w.alloc (.cells #[.int .i64 0, .int .i64 0] 42)) wr)
  case atStart => exact ⟨0, by omega, by omega, rfl, rfl, Below.refl _ _⟩
  case round =>
    obtain ⟨j, hj, hg, rfl, hF, hB⟩ := hrel
    obtain ⟨hz, r0, r1, f0, hB'⟩ := res_cells hB
    by_cases hlt : j < d.length
    · obtain ⟨b, off, rfl, c0, c1, c2, c3, c4⟩ := hd j hlt
      replace c0 := cell_later hB' c0
      replace c1 := cell_later hB' c1
      replace c2 := cell_later hB' c2
      replace c3 := cell_later hB' c3
      replace c4 := cell_later hB' c4
      clear hd
      go_wp2_with fail
      refine (alone_any d[j] _ ?_).mono ?_
      · exact hL.later (hB'.alloc (by omega) _)
      rintro e w1 ⟨rfl, hb1⟩
      have hB1 : Below (w.heap.size + 1) (w.alloc (.cells #[.int .i64 0, .int .i64 0] 42)) w1 := (hB.alloc (by omega) _).trans (hb1.mono (by simp; omega))
      clear r0 r1 f0 hB' hb1 c0 c1 c2 c3 c4
      obtain ⟨hz1, s0, s1, g0, hB1'⟩ := res_cells hB1
      by_cases ho : aloneF d[j] = 0
      · have hF' : Hid (firstF (placesF d.length 0 false d) (j + 1) (d.drop (j + 1)) = firstF (placesF d.length 0 false d) 0 d) := (firstF_next hlt ho).trans hF.out
        clear hF
        go_wp2_with fail
        go_roundg (d.length - (j + 1))
        case measure => omega
        case rel => exact ⟨j + 1, by omega, rfl, by go_num, hF', hB1⟩
      · have hF' : Hid (checkF d = (aloneF d[j], (j : Int))) := hF0.out.trans (hF.out.symm.trans (firstF_bad hlt ho))
        clear hF hF0
        go_wp2_with fail
        exact bodyPost_ret (v := .agg #[.int .i64 (aloneF d[j]), .int .i64 j]) (by simp [results, Tryz.results80, go_sem, s0, s1]) rfl ⟨ret_pair hF'.out, below_two hB1' _ _⟩
    · obtain rfl : j = d.length := by omega
      have hF' : Hid (checkF d = placesF d.length 0 false d) := by
        have h := hF.out; simp only [List.drop_length, firstF] at h; exact hF0.out.trans h.symm
      clear hF hF0 hd
      go_wp2_with fail
      refine (places_any _ d _ (HD.later hB') hlen).mono ?_
      rintro e w1 ⟨rfl, hb1⟩
      have hB1 : Below (w.heap.size + 1) (w.alloc (.cells #[.int .i64 0, .int .i64 0] 42)) w1 := hB.trans (hb1.mono (by omega))
      clear r0 r1 f0 hB' hb1
      obtain ⟨hz1, s0, s1, g0, hB1'⟩ := res_cells hB1
      go_wp2_with fail
      exact bodyPost_ret (v := .agg #[.int .i64 (placesF d.length 0 false d).1, .int .i64 (placesF d.length 0 false d).2]) (by simp [results, Tryz.results80, go_sem, s0, s1]) rfl ⟨ret_pair hF'.out, below_two hB1' _ _⟩

theorem check_any (v : Value) (d : List Op5) (w : World) (hd : DeedAt w v d) (hmax : d.length ≤ 9223372036854775807) (hL : Lim w) :
    Calls Tryz.prog 80 #[v] w fun e w' => e = .returned (.agg #[.int .i64 (checkF d).1, .int .i64 (checkF d).2]) ∧ Below w.heap.size w w' := by
  by_cases h : d.length ≤ 14
  · exact check_few v d w hd h hL
  · exact check_many v d w hd (by omega) hmax

end Go.Proofs.YtehkjbpgibdgpadGreatDoor
namespace Go.Proofs.YtehkjbpgibdgpadGreatDoor
open Go.RowKit

/-- A round as it lies in memory. -/
def RoundAt (w : World) (v : Value) (r : List (List Op5)) : Prop :=
  ∃ a cap, v = .slice a r.length cap ∧ ∀ i (h : i < r.length), ∃ b off, a = some ⟨b, off, none⟩ ∧ ∃ dv, w.cell? ⟨b, off + i, none⟩ = some dv ∧ DeedAt w dv r[i]

theorem RoundAt.later {w w' : World} (hb : Below w.heap.size w w') {v : Value} {r : List (List Op5)} (h : RoundAt w v r) : RoundAt w' v r := by
  obtain ⟨a, cap, rfl, h⟩ := h
  refine ⟨a, cap, rfl, fun i hi => ?_⟩
  obtain ⟨b, off, rfl, dv, h0, h1⟩ := h i hi
  exact ⟨b, off, rfl, dv, cell_later hb h0, h1.later hb⟩

/-- No slice is longer than a machine's memory. -/
def Fits (r : List (List Op5)) : Prop := r.length ≤ 9223372036854775807 ∧ ∀ i (h : i < r.length), r[i].length ≤ 9223372036854775807

set_option maxHeartbeats 400000 in
theorem round_many (v : Value) (r : List (List Op5)) (w : World) (hr : RoundAt w v r) (hlen : 8 < r.length) (hf : Fits r) :
    Calls Tryz.prog 118 #[v] w fun e w' => e = .returned (.int .i64 (roundF r)) ∧ Below w.heap.size w w' := by
  have hF : Hid (4 = roundF r) := by unfold roundF; rw [if_pos hlen]; rfl
  have hm := hf.1
  obtain ⟨a, cap, rfl, -⟩ := hr
  go_enter Tryz.func118, Tryz.ntmps118
  go_wp2_with fail
  go_ret
  exact ⟨ret_int hF.out, Below.refl _ _⟩

set_option maxHeartbeats 400000 in
theorem round_few (v : Value) (r : List (List Op5)) (w : World) (hr : RoundAt w v r) (hlen : r.length ≤ 8) (hf : Fits r) (hL : Lim w) :
    Calls Tryz.prog 118 #[v] w fun e w' => e = .returned (.int .i64 (roundF r)) ∧ Below w.heap.size w w' := by
  have hF0 : Hid (roundF r = codesF r) := by unfold roundF; rw [if_neg (by omega)]; rfl
  obtain ⟨a, cap, rfl, hr⟩ := hr
  go_enter Tryz.func118, Tryz.ntmps118
  go_wp2_with fail
  go_loopg [11] r.length (fun g i wr => ∃ j : Nat, j ≤ r.length ∧ g = r.length - j ∧ i = .int .i64 j ∧ Hid (codesF (r.drop j) = codesF r) ∧ Below w.heap.size w wr)
  case atStart => exact ⟨0, by omega, by omega, rfl, rfl, Below.refl _ _⟩
  case round =>
    obtain ⟨j, hj, hg, rfl, hF, hB⟩ := hrel
    by_cases hlt : j < r.length
    · obtain ⟨b, off, rfl, dv, c0, hD⟩ := hr j hlt
      replace c0 := cell_later hB c0
      replace hD := hD.later hB
      have hm := hf.2 j hlt
      clear hr
      go_wp2_with fail
      refine (check_any dv r[j] _ hD (by omega) (hL.later hB)).mono ?_
      rintro e w1 ⟨rfl, hb1⟩
      have hB1 : Below w.heap.size w w1 := hB.trans (hb1.mono hB.size)
      clear hb1 hD c0
      by_cases ho : (checkF r[j]).1 = 0
      · have hF' : Hid (codesF (r.drop (j + 1)) = codesF r) := (codesF_next hlt ho).trans hF.out
        clear hF
        go_wp2_with fail
        go_roundg (r.length - (j + 1))
        case measure => omega
        case rel => exact ⟨j + 1, by omega, rfl, by go_num, hF', hB1.alloc hB1.size _⟩
      · have hF' : Hid ((checkF r[j]).1 = roundF r) := (hF0.out.trans (hF.out.symm.trans (codesF_bad hlt ho))).symm
        clear hF hF0
        go_wp2_with fail
        go_ret
        exact ⟨ret_int hF'.out, hB1.alloc hB1.size _⟩
    · obtain rfl : j = r.length := by omega
      have hF' : Hid (0 = roundF r) := by
        have h := hF.out; simp only [List.drop_length, codesF] at h; exact h.trans hF0.out.symm
      clear hF hF0 hr
      go_wp2_with fail
      go_ret
      exact ⟨ret_int hF'.out, hB⟩

theorem round_any (v : Value) (r : List (List Op5)) (w : World) (hr : RoundAt w v r) (hf : Fits r) (hL : Lim w) :
    Calls Tryz.prog 118 #[v] w fun e w' => e = .returned (.int .i64 (roundF r)) ∧ Below w.heap.size w w' := by
  by_cases h : r.length ≤ 8
  · exact round_few v r w hr h hf hL
  · exact round_many v r w hr (by omega) hf

/-- It tells a bool. -/
def IsBool (e : Ending) : Prop := ∃ g : Bool, e = .returned (.bool g)


end Go.Proofs.YtehkjbpgibdgpadGreatDoor
namespace Go.Proofs.YtehkjbpgibdgpadGreatDoor
open Go.RowKit

/-- All blocks that lay there are as they were, but for some. -/
structure Grew (S : Nat → Prop) (w w' : World) : Prop where
  os : w'.os = w.os
  tape : w'.tape = w.tape
  output : w'.output = w.output
  size : w.heap.size ≤ w'.heap.size
  block : ∀ k, k < w.heap.size → ¬ S k → w'.heap[k]? = w.heap[k]?
theorem Grew.refl (S : Nat → Prop) (w : World) : Grew S w w := ⟨rfl, rfl, rfl, Nat.le_refl _, fun _ _ _ => rfl⟩
theorem Grew.trans {S : Nat → Prop} {a b c : World} (h : Grew S a b) (k : Grew S b c) : Grew S a c :=
  ⟨k.os.trans h.os, k.tape.trans h.tape, k.output.trans h.output, Nat.le_trans h.size k.size, fun i hi hn => (k.block i (Nat.lt_of_lt_of_le hi h.size) hn).trans (h.block i hi hn)⟩
theorem Grew.of_below {S : Nat → Prop} {w w' : World} (h : Below w.heap.size w w') : Grew S w w' := ⟨h.os, h.tape, h.output, h.size, fun i hi _ => h.block i hi⟩
theorem Grew.of_grown {S : Nat → Prop} {w w' : World} {B : Nat} (h : w.grownBy w' (some B)) (hB : S B) : Grew S w w' :=
  ⟨h.os, h.tape, h.output, h.size, fun i hi hn => h.block i hi (fun e => hn (by cases e; exact hB))⟩
theorem Grew.mono {S S' : Nat → Prop} {w w' : World} (h : Grew S w w') (hS : ∀ k, S k → S' k) : Grew S' w w' := ⟨h.os, h.tape, h.output, h.size, fun i hi hn => h.block i hi (fun e => hn (hS i e))⟩
theorem Grew.drew {S : Nat → Prop} {a w : World} (h : Grew S a w) : Grew S a w.drew := ⟨h.os, h.tape, h.output, h.size, h.block⟩
theorem Grew.cell {S : Nat → Prop} {w w' : World} (h : Grew S w w') {p : Addr} {v : Value} (hp : w.cell? p = some v) (hn : ¬ S p.block) : w'.cell? p = some v := by
  rw [World.cell?_of_block (w := w) (h.block p.block (World.block_lt_of_cell? w _ hp) hn)]; exact hp
theorem Grew.frozen {S : Nat → Prop} {w w' : World} (h : Grew S w w') {p : Addr} (hp : p.block < w.heap.size) (hn : ¬ S p.block) : w'.frozen? p = w.frozen? p := World.frozen?_of_block (w := w) (h.block p.block hp hn)
theorem Grew.below {S : Nat → Prop} {n : Nat} {a w w' : World} (h : Grew S w w') (ha : Below n a w) (hn : n ≤ w.heap.size) (hS : ∀ k, S k → n ≤ k) : Below n a w' :=
  ⟨h.os.trans ha.os, h.tape.trans ha.tape, h.output.trans ha.output, Nat.le_trans ha.size h.size, fun k hk => (h.block k (by omega) (fun e => by have := hS k e; omega)).trans (ha.block k hk)⟩

/-- A deed in blocks of which something is known. -/
def DeedIn (P : Nat → Prop) (w : World) (v : Value) (d : List Op5) : Prop :=
  ∃ a cap, v = .slice a d.length cap ∧ ∀ i (h : i < d.length), ∃ b off, P b ∧ a = some ⟨b, off, none⟩ ∧
    w.cell? ⟨b, off + i * 5, none⟩ = some (.int .i64 d[i].k) ∧ w.cell? ⟨b, off + i * 5 + 1, none⟩ = some (.int .i64 d[i].a) ∧
    w.cell? ⟨b, off + i * 5 + 2, none⟩ = some (.int .i64 d[i].b) ∧ w.cell? ⟨b, off + i * 5 + 3, none⟩ = some (.int .i64 d[i].c) ∧
    w.cell? ⟨b, off + i * 5 + 4, none⟩ = some (.int .i64 d[i].n)
theorem DeedIn.at {P : Nat → Prop} {w : World} {v : Value} {d : List Op5} (h : DeedIn P w v d) : DeedAt w v d := by
  obtain ⟨a, cap, rfl, h⟩ := h
  refine ⟨a, cap, rfl, fun i hi => ?_⟩
  obtain ⟨b, off, -, e, hc⟩ := h i hi
  exact ⟨b, off, e, hc⟩
theorem DeedIn.mono {P Q : Nat → Prop} {w : World} {v : Value} {d : List Op5} (h : DeedIn P w v d) (hPQ : ∀ b, b < w.heap.size → P b → Q b) : DeedIn Q w v d := by
  obtain ⟨a, cap, rfl, h⟩ := h
  refine ⟨a, cap, rfl, fun i hi => ?_⟩
  obtain ⟨b, off, hp, e, hc⟩ := h i hi
  exact ⟨b, off, hPQ b (World.block_lt_of_cell? w _ hc.1) hp, e, hc⟩
theorem DeedIn.grew {P S : Nat → Prop} {w w' : World} {v : Value} {d : List Op5} (h : DeedIn P w v d) (hg : Grew S w w') (hPS : ∀ b, P b → ¬ S b) : DeedIn P w' v d := by
  obtain ⟨a, cap, rfl, h⟩ := h
  refine ⟨a, cap, rfl, fun i hi => ?_⟩
  obtain ⟨b, off, hp, e, c0, c1, c2, c3, c4⟩ := h i hi
  have hn := hPS b hp
  exact ⟨b, off, hp, e, hg.cell c0 hn, hg.cell c1 hn, hg.cell c2 hn, hg.cell c3 hn, hg.cell c4 hn⟩
theorem DeedIn.later {P : Nat → Prop} {w w' : World} {v : Value} {d : List Op5} (h : DeedIn P w v d) (hb : Below w.heap.size w w') : DeedIn P w' v d := h.grew (S := fun _ => False) (Grew.of_below hb) (fun _ _ h => h)

def deedCells : List Op5 → List Value
  | [] => []
  | o :: r => .int .i64 o.k :: .int .i64 o.a :: .int .i64 o.b :: .int .i64 o.c :: .int .i64 o.n :: deedCells r
theorem deedCells_length (d : List Op5) : (deedCells d).length = d.length * 5 := by
  induction d with
  | nil => rfl
  | cons o r ih => simp only [deedCells, List.length_cons, ih]; omega
theorem deedCells_one (d : List Op5) : ∀ u ∈ deedCells d, u.oneCell' = true := by
  induction d with
  | nil => intro u hu; simp [deedCells] at hu
  | cons o r ih =>
    intro u hu
    simp only [deedCells, List.mem_cons] at hu
    rcases hu with rfl | rfl | rfl | rfl | rfl | hu
    · rfl
    · rfl
    · rfl
    · rfl
    · rfl
    · exact ih u hu
theorem deedCells_at (d : List Op5) : ∀ i (h : i < d.length), (deedCells d)[i * 5]? = some (.int .i64 d[i].k) ∧ (deedCells d)[i * 5 + 1]? = some (.int .i64 d[i].a) ∧ (deedCells d)[i * 5 + 2]? = some (.int .i64 d[i].b) ∧ (deedCells d)[i * 5 + 3]? = some (.int .i64 d[i].c) ∧ (deedCells d)[i * 5 + 4]? = some (.int .i64 d[i].n) := by
  induction d with
  | nil => intro i h; simp at h
  | cons o r ih =>
    intro i h
    cases i with
    | zero => exact ⟨rfl, rfl, rfl, rfl, rfl⟩
    | succ i =>
      have := ih i (by simpa using h)
      rw [show (i + 1) * 5 = i * 5 + 5 by omega]
      exact this
theorem addr_add (b off t : Nat) : (⟨b, off, none⟩ : Addr).add t = ⟨b, off + t, none⟩ := by
  unfold Addr.add; split <;> simp_all
theorem DeedAt.cells {w : World} {a : Option Addr} {cap : Nat} {d : List Op5} (h : DeedAt w (.slice a d.length cap) d) (h0 : 0 < d.length) : ∃ b off, a = some ⟨b, off, none⟩ ∧ ∀ j u, (deedCells d)[j]? = some u → w.cell? ((⟨b, off, none⟩ : Addr).add j) = some u := by
  obtain ⟨a', cap', e, h⟩ := h
  cases e
  obtain ⟨b, off, rfl, -⟩ := h 0 h0
  refine ⟨b, off, rfl, fun j u hu => ?_⟩
  have hj : j < d.length * 5 := by
    have := (List.getElem?_eq_some_iff.1 hu).1
    rw [deedCells_length] at this; exact this
  obtain ⟨q, m, hm, rfl⟩ : ∃ q m, m < 5 ∧ j = q * 5 + m := ⟨j / 5, j % 5, by omega, by omega⟩
  obtain ⟨b', off', e, c0, c1, c2, c3, c4⟩ := h q (by omega)
  cases e
  obtain ⟨p0, p1, p2, p3, p4⟩ := deedCells_at d q (by omega)
  rw [addr_add]
  have : m = 0 ∨ m = 1 ∨ m = 2 ∨ m = 3 ∨ m = 4 := by omega
  rcases this with rfl | rfl | rfl | rfl | rfl
  · rw [Nat.add_zero] at hu ⊢; rw [p0] at hu; cases hu; exact c0
  · rw [p1] at hu; cases hu; rw [← Nat.add_assoc]; exact c1
  · rw [p2] at hu; cases hu; rw [← Nat.add_assoc]; exact c2
  · rw [p3] at hu; cases hu; rw [← Nat.add_assoc]; exact c3
  · rw [p4] at hu; cases hu; rw [← Nat.add_assoc]; exact c4
theorem deedIn_row {w : World} {g cap : Nat} {d : List Op5} {t : TypeId} (P : Nat → Prop) (hP : P g) (hg : w.heap[g]? = some (.cells (deedCells d).toArray t (0, 0))) : DeedIn P w (.slice (some ⟨g, 0, none⟩) d.length cap) d := by
  refine ⟨_, cap, rfl, fun i hi => ⟨g, 0, hP, rfl, ?_⟩⟩
  obtain ⟨p0, p1, p2, p3, p4⟩ := deedCells_at d i hi
  have hc : ∀ j, w.cell? ⟨g, j, none⟩ = (deedCells d)[j]? := fun j => by simp [World.cell?, hg]
  simp only [Nat.zero_add, hc]
  exact ⟨p0, p1, p2, p3, p4⟩

theorem step_append_at {P : Program} {ops : Array Oper} {o : Oper} {a : Act} {w : World} {K : Act → World → Prop} {Q : Exit → Act → World → Prop} {E : Prop}
    (hgd : o.guard = none) (s x : Operand) (t : TypeId) (ho : o.op = .call { callee := .builtin .append, args := #[s, x], argTypes := #[t, t] })
    (base : Nat) (e : TypeId) (i : TypeInfo) (z : Value) (size bytes : Nat) (ht : P.underlying t = some (.slice e)) (hi : P.info? e = some i) (hz : i.zero = some z)
    (hsize : i.size = size) (hby : i.bytes = bytes) (hzs : z.cells.size = size) (hsz : 0 < size)
    (v : Value) (n : Nat) (xs : List Value) (hs : a.eval s = v) (hown : w.ownsRow base e size v n xs)
    (ad : Addr) (m c : Nat) (news : List Value) (hx : a.eval x = .slice (some ad) m c) (hl : news.length = m * size) (hnews : ∀ j u, news[j]? = some u → w.cell? (ad.add j) = some u) (h1 : ∀ u ∈ news, u.oneCell' = true)
    (h63 : n + m ≤ maxLen) (hbytes : (n + m) * bytes ≤ 140737488355328) (hbase : base ≤ w.heap.size)
    (h : ∀ v' w', w'.ownsRow base e size v' (n + m) (xs ++ news) → w.grownBy w' v.ownBlock → (v'.ownBlock = v.ownBlock ∨ v'.ownBlock = some w.heap.size) → K (a.put o.dst v') w') :
    if Region.wanted o (yielded ops a.tmps) = true then Oper.wp P o a w K Q else E := by
  have hw : Region.wanted o (yielded ops a.tmps) = true := by simp [Region.wanted, hgd]
  rw [if_pos hw]
  obtain ⟨v', w', hr, h2, h3, -, h5⟩ := run_append_own_at (P := P) w base t o.type e i z size bytes ht hi hz hsize hby hzs hsz v n xs hown ad m c news hl hnews h1 h63 hbytes hbase
  unfold Oper.wp execOp
  simp only [ho, resolve, invoke, builtin, Sem.run_bind, Sem.run_pure, Result.andThen_ok, List.map_toArray, List.map_cons, List.map_nil, hs, hx, hr]
  exact h v' w' h2 h3 h5

theorem owns_kept {w w' : World} {base : Nat} {e : TypeId} {size : Nat} {v : Value} {n : Nat} {xs : List Value} (h : w.ownsRow base e size v n xs) (hb : ∀ g, v.ownBlock = some g → w'.heap[g]? = w.heap[g]?) : w'.ownsRow base e size v n xs := by
  refine ⟨h.1, ?_⟩
  rcases h.2 with hn | ⟨g, cap, cur, hv, hbase, hg, rest⟩
  · exact .inl hn
  · refine .inr ⟨g, cap, cur, hv, hbase, ?_, rest⟩
    rw [hb g (by rw [hv]; rfl)]; exact hg
theorem owns_lt {w : World} {base : Nat} {e : TypeId} {size : Nat} {v : Value} {n : Nat} {xs : List Value} (h : w.ownsRow base e size v n xs) {g : Nat} (hg : v.ownBlock = some g) : base ≤ g ∧ g < w.heap.size := by
  rcases h.2 with ⟨rfl, -⟩ | ⟨g', cap, cur, rfl, hbase, hc, -⟩
  · cases hg
  · cases hg
    exact ⟨hbase, (Array.getElem?_eq_some_iff.1 hc).1⟩
theorem owns_below {w w' : World} {base : Nat} {e : TypeId} {size : Nat} {v : Value} {n : Nat} {xs : List Value} (h : w.ownsRow base e size v n xs) (hb : Below w.heap.size w w') : w'.ownsRow base e size v n xs := owns_kept h fun g hg => hb.block g (owns_lt h hg).2
theorem owns_cells {w : World} {base : Nat} {e : TypeId} {v : Value} {n : Nat} {xs : List Value} {size : Nat} (h : w.ownsRow base e size v n xs) (hn : 0 < n) : ∃ g cap, v = .slice (some ⟨g, 0, none⟩) n cap ∧ ∀ j u, xs[j]? = some u → w.cell? ⟨g, j, none⟩ = some u := by
  have hc := h
  rcases h.2 with ⟨-, h0⟩ | ⟨g, cap, cur, rfl, -⟩
  · omega
  · refine ⟨g, cap, rfl, fun j u hj => ?_⟩
    have := hc.cells (g := g) rfl j u hj
    rw [show (⟨g, 0, none⟩ : Addr).add j = ⟨g, j, none⟩ by unfold Addr.add; split <;> simp_all] at this
    exact this

end Go.Proofs.YtehkjbpgibdgpadGreatDoor
namespace Go.Proofs.YtehkjbpgibdgpadGreatDoor
open Go.RowKit

/-- A state, and what a deed came to, as values. -/
def stV (s : Nat → Int) : Value := .agg #[.int .i64 (s 0), .int .i64 (s 1), .int .i64 (s 2), .int .i64 (s 3), .int .i64 (s 4), .int .i64 (s 5), .int .i64 (s 6), .int .i64 (s 7), .int .i64 (s 8), .int .i64 (s 9)]
def resV (c : Int) (g : Nat → Int) : Value := .agg #[.int .i64 c, .int .i64 (g 0), .int .i64 (g 1), .int .i64 (g 2), .int .i64 (g 3)]

theorem lt10 {P : Nat → Prop} (h0 : P 0) (h1 : P 1) (h2 : P 2) (h3 : P 3) (h4 : P 4) (h5 : P 5) (h6 : P 6) (h7 : P 7) (h8 : P 8) (h9 : P 9) : ∀ i, i < 10 → P i
  | 0, _ => h0 | 1, _ => h1 | 2, _ => h2 | 3, _ => h3 | 4, _ => h4 | 5, _ => h5 | 6, _ => h6 | 7, _ => h7 | 8, _ => h8 | 9, _ => h9
theorem lt5 {P : Nat → Prop} (h0 : P 0) (h1 : P 1) (h2 : P 2) (h3 : P 3) (h4 : P 4) : ∀ i, i < 5 → P i
  | 0, _ => h0 | 1, _ => h1 | 2, _ => h2 | 3, _ => h3 | 4, _ => h4
theorem lt4 {P : Nat → Prop} (h0 : P 0) (h1 : P 1) (h2 : P 2) (h3 : P 3) : ∀ i, i < 4 → P i
  | 0, _ => h0 | 1, _ => h1 | 2, _ => h2 | 3, _ => h3

/-- A state in a block of its own. -/
def Box (w : World) (B : Nat) (s : Nat → Int) : Prop := ∀ i, i < 10 → w.cell? ⟨B, i, none⟩ = some (.int .i64 (s i))
theorem Box.later {w w' : World} {B : Nat} {s : Nat → Int} (h : Box w B s) (hb : Below w.heap.size w w') : Box w' B s := fun i hi => cell_later hb (h i hi)
theorem Box.ten {w : World} {B : Nat} {s : Nat → Int} (h : Box w B s) : w.cell? ⟨B, 0, none⟩ = some (.int .i64 (s 0)) ∧ w.cell? ⟨B, 1, none⟩ = some (.int .i64 (s 1)) ∧ w.cell? ⟨B, 2, none⟩ = some (.int .i64 (s 2)) ∧ w.cell? ⟨B, 3, none⟩ = some (.int .i64 (s 3)) ∧ w.cell? ⟨B, 4, none⟩ = some (.int .i64 (s 4)) ∧ w.cell? ⟨B, 5, none⟩ = some (.int .i64 (s 5)) ∧ w.cell? ⟨B, 6, none⟩ = some (.int .i64 (s 6)) ∧ w.cell? ⟨B, 7, none⟩ = some (.int .i64 (s 7)) ∧ w.cell? ⟨B, 8, none⟩ = some (.int .i64 (s 8)) ∧ w.cell? ⟨B, 9, none⟩ = some (.int .i64 (s 9)) :=
  ⟨h 0 (by omega), h 1 (by omega), h 2 (by omega), h 3 (by omega), h 4 (by omega), h 5 (by omega), h 6 (by omega), h 7 (by omega), h 8 (by omega), h 9 (by omega)⟩
theorem box_new (w : World) (s : Nat → Int) : Box (w.alloc (.cells #[.int .i64 (s 0), .int .i64 (s 1), .int .i64 (s 2), .int .i64 (s 3), .int .i64 (s 4), .int .i64 (s 5), .int .i64 (s 6), .int .i64 (s 7), .int .i64 (s 8), .int .i64 (s 9)] 32)) w.heap.size s := lt10 (by go_simp) (by go_simp) (by go_simp) (by go_simp) (by go_simp) (by go_simp) (by go_simp) (by go_simp) (by go_simp) (by go_simp)

/-- A row with one place changed, in its block. -/
theorem Box.set {w : World} {B : Nat} {s : Nat → Int} (h : Box w B s) {m : Nat} (hm : m < 10) (n : Int) : Box (w.setCell ⟨B, m, none⟩ (.int .i64 n)) B (putAt s m n) := fun i hi => by
  by_cases e : i = m
  · subst e; rw [World.cell?_setCell_same _ _ _ (h i hi)]; simp [putAt]
  · rw [World.cell?_setCell_other _ _ _ _ (fun h => by simp only [Addr.mk.injEq] at h; omega), h i hi]; simp [putAt, e]
theorem Box.apart {w : World} {B C : Nat} {s : Nat → Int} (h : Box w B s) (hne : C ≠ B) (m : Nat) (v : Value) : Box (w.setCell ⟨C, m, none⟩ v) B s := fun i hi => by
  rw [World.cell?_setCell_other _ _ _ _ (fun h => by simp only [Addr.mk.injEq] at h; omega)]; exact h i hi
theorem Box.congr {w : World} {B : Nat} {s t : Nat → Int} (h : Box w B s) (e : ∀ i, i < 10 → s i = t i) : Box w B t := fun i hi => by rw [← e i hi]; exact h i hi
theorem drewN_below {B : Nat} {a w : World} (h : Below B a w) (n : Nat) : Below B a (w.drewN n) := h.trans ⟨rfl, rfl, rfl, Nat.le_refl _, fun _ _ => rfl⟩
theorem ret_bool {a b : Bool} (h : a = b) : Ending.returned (.bool a) = .returned (.bool b) := by rw [h]
theorem ret_tuple2 {s t : Nat → Int} {c d : Int} {g h : Nat → Int} {o : Out} (ho : o = ⟨t, d, h⟩) (hs : s = t) (hc : c = d) (hg : g = h) : Ending.returned (.tuple #[stV s, resV c g]) = .returned (.tuple #[stV o.st, resV o.code o.regs]) := by
  subst ho hs hc hg; rfl
theorem below_res {B : Nat} {w W : World} (h : Below B w W) {b c : Nat} (h1 : B ≤ b) (h2 : B ≤ c) (x0 x1 x2 x3 x4 x5 x6 x7 x8 x9 y0 y1 y2 y3 y4 : Value) : Below B w (((((((((((((((W.setCell ⟨b, 0, none⟩ x0).setCell ⟨b, 1, none⟩ x1).setCell ⟨b, 2, none⟩ x2).setCell ⟨b, 3, none⟩ x3).setCell ⟨b, 4, none⟩ x4).setCell ⟨b, 5, none⟩ x5).setCell ⟨b, 6, none⟩ x6).setCell ⟨b, 7, none⟩ x7).setCell ⟨b, 8, none⟩ x8).setCell ⟨b, 9, none⟩ x9).setCell ⟨c, 0, none⟩ y0).setCell ⟨c, 1, none⟩ y1).setCell ⟨c, 2, none⟩ y2).setCell ⟨c, 3, none⟩ y3).setCell ⟨c, 4, none⟩ y4).drew :=
  (((((((((((((((h.setCell (p := ⟨b, 0, none⟩) h1 x0).setCell (p := ⟨b, 1, none⟩) h1 x1).setCell (p := ⟨b, 2, none⟩) h1 x2).setCell (p := ⟨b, 3, none⟩) h1 x3).setCell (p := ⟨b, 4, none⟩) h1 x4).setCell (p := ⟨b, 5, none⟩) h1 x5).setCell (p := ⟨b, 6, none⟩) h1 x6).setCell (p := ⟨b, 7, none⟩) h1 x7).setCell (p := ⟨b, 8, none⟩) h1 x8).setCell (p := ⟨b, 9, none⟩) h1 x9).setCell (p := ⟨c, 0, none⟩) h2 y0).setCell (p := ⟨c, 1, none⟩) h2 y1).setCell (p := ⟨c, 2, none⟩) h2 y2).setCell (p := ⟨c, 3, none⟩) h2 y3).setCell (p := ⟨c, 4, none⟩) h2 y4).drew

end Go.Proofs.YtehkjbpgibdgpadGreatDoor
