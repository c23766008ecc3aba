/-
  The walks of a round's Left and Results.
-/
import Derived.Test.YthlhbmldfjkagabDoorRndB
import Derived.Laws.OwnMore
import Derived.Maps.AppendAt
namespace Go.Proofs.YthlhbmldfjkagabDoor
open Go.RowKit Go.Shelf

/-- Those that are not over. -/
def leftL (X : Nat → Wk) (n : Nat) : List Nat := (List.range n).filter fun i => !(X i).over

section
variable {w : World} {c : Nat → Nat} {N E B : Nat} {vW : Value} {C : Nat → Nat} {U : Nat → Value} {s : Nat → Int} {r : List (List Op5)} {X : Nat → Wk} {T : Nat → List Slot4}

set_option maxHeartbeats 1000000 in
theorem left_any (h : RdIn w c N E B vW C U s r X T) :
    Calls Tryd.prog 33 #[.pointer (some ⟨E, 0, none⟩)] w fun e w' => (∃ u, e = .returned u ∧ w'.ownsRow w.heap.size 3 1 u (leftL X r.length).length ((leftL X r.length).map fun k : Nat => .int .i64 (k : Int))) ∧ Below w.heap.size w w' := by
  obtain ⟨i0, hi, hz0, hz1, hz2⟩ := info_parts info3
  have h8 := h.le
  obtain ⟨va, cap, rfl, -⟩ := h.at'.row
  have q1 := h.at'.fw
  go_enter Tryd.func33, Tryd.ntmps33
  go_wp2_with fail
  go_loopg [3, 10] r.length (fun g v i wq => ∃ m : Nat, ∃ u : Value, m ≤ r.length ∧ g = r.length - m ∧ i = .int .i64 m ∧ u = v ∧ wq.ownsRow w.heap.size 3 1 u (leftL X m).length ((leftL X m).map fun k : Nat => .int .i64 (k : Int)) ∧ Below w.heap.size w wq)
  case atStart => exact ⟨0, _, by omega, by omega, rfl, rfl, by simpa [leftL] using World.ownsRow_nil _ _ _ _, Below.refl _ _⟩
  case round =>
    obtain ⟨m, u, hm, hg', rfl, hu, hown, hBq⟩ := hrel
    subst hu
    clear q1
    have hln : (leftL X m).length ≤ 8 := by
      have := List.length_filter_le (fun i => !(X i).over) (List.range m)
      simp only [List.length_range] at this
      unfold leftL; omega
    by_cases hlt : m < r.length
    · have hdone := done_in (h.later hBq) hlt
      have hmi : (m : Int) < (r.length : Int) := by omega
      cases hbm : (X m).over with
      | true =>
        rw [hbm] at hdone
        have hf : Hid (leftL X (m + 1) = leftL X m) := by
          show _ = _
          unfold leftL
          rw [List.range_succ, List.filter_append]; simp [hbm]
        clear hbm
        generalize leftL X m = l at *
        go_wp2_with fail
        refine hdone.mono ?_
        clear hdone
        rintro e w1 ⟨rfl, hb1⟩
        have hB1 : Below w.heap.size w w1 := hBq.trans (hb1.mono hBq.size)
        have hown1 := owns_below hown hb1
        clear hb1 hBq hown
        go_wp2_with fail
        go_roundg (r.length - (m + 1))
        case measure => omega
        case rel => exact ⟨m + 1, _, by omega, rfl, by go_num, rfl, by rw [hf.out]; exact hown1, hB1⟩
      | false =>
        rw [hbm] at hdone
        have hf : Hid (leftL X (m + 1) = leftL X m ++ [m]) := by
          show _ = _
          unfold leftL
          rw [List.range_succ, List.filter_append]; simp [hbm]
        clear hbm
        generalize leftL X m = l at *
        go_wp2_with fail
        refine hdone.mono ?_
        clear hdone
        rintro e w1 ⟨rfl, hb1⟩
        have hB1 : Below w.heap.size w w1 := hBq.trans (hb1.mono hBq.size)
        have hown1 := owns_below hown hb1
        clear hb1 hBq hown
        go_wp2_with (at_builtin; refine wpList_append_own _ rfl _ _ 26 rfl w.heap.size 3 i0 (.int .i64 0) 1 8 Tryd.underlying26 hi hz0 hz1 hz2 rfl (by decide) _ _ _ rfl (hown1.alloc _) ⟨w1.heap.size, 0, none⟩ 1 1 [.int .i64 (m : Int)] rfl rfl (cell_one_new _ _ _) (by simp [Value.oneCell']) (by unfold maxLen; omega) (by omega) (by have := hB1.size; simp; omega) ?_; intro v' w2 hown' hgrow hnil)
        go_roundg (r.length - (m + 1))
        case measure => omega
        case rel =>
          refine ⟨m + 1, _, by omega, rfl, by go_num, rfl, by rw [hf.out]; simpa using hown', ?_⟩
          exact (hB1.alloc hB1.size _).grown hgrow (by have := hB1.size; simp; omega) (fun k hk => (hown1.lt k hk).1)
    · obtain rfl : m = r.length := by omega
      go_wp2_with fail
      go_ret
      exact ⟨⟨_, rfl, hown⟩, hBq⟩

/-- What the first n deeds came to, cell by cell. -/
def resW (X : Nat → Wk) : Nat → List Value
  | 0 => []
  | n + 1 => resW X n ++ [.int .i64 (resC (X n)), .int .i64 (resG (X n) 0), .int .i64 (resG (X n) 1), .int .i64 (resG (X n) 2), .int .i64 (resG (X n) 3)]
theorem resW_length (X : Nat → Wk) (n : Nat) : (resW X n).length = n * 5 := by
  induction n with
  | zero => rfl
  | succ n ih => simp only [resW, List.length_append, ih, List.length_cons, List.length_nil]; omega
/-- Five cells set, one behind the other. -/
theorem take_set5 (xs : List Value) (a : Nat) (h : a + 5 ≤ xs.length) (v0 v1 v2 v3 v4 : Value) :
    (((((xs.set a v0).set (a + 1) v1).set (a + 2) v2).set (a + 3) v3).set (a + 4) v4).take (a + 5) = xs.take a ++ [v0, v1, v2, v3, v4] := by
  apply List.ext_getElem?
  intro i
  simp only [List.getElem?_take, List.getElem?_set, List.getElem?_append, List.length_take, List.length_set]
  by_cases hi : i < a
  · simp [show i < a + 5 by omega, show ¬ a + 4 = i by omega, show ¬ a + 3 = i by omega, show ¬ a + 2 = i by omega, show ¬ a + 1 = i by omega, show ¬ a = i by omega, show i < min a xs.length by omega, hi]
  · by_cases h5 : i < a + 5
    · have hmin : min a xs.length = a := by omega
      rw [hmin, if_pos h5, if_neg hi]
      have hc : i = a ∨ i = a + 1 ∨ i = a + 2 ∨ i = a + 3 ∨ i = a + 4 := by omega
      rcases hc with rfl | rfl | rfl | rfl | rfl
      · simp; omega
      · simp; omega
      · simp; omega
      · simp; omega
      · simp; omega
    · rw [if_neg h5, if_neg (by omega)]
      rw [List.getElem?_eq_none]
      simp; omega
theorem infoR : (Tryd.prog.info? 36).map (fun i => (i.zero, i.size, i.bytes)) = some (some (.agg #[.int .i64 0, .int .i64 0, .int .i64 0, .int .i64 0, .int .i64 0]), 5, 40) := by kernel_rfl
theorem make_res (n : Nat) (hn : n ≤ 8) : ∃ cs : Array Value, cs.size = n * 5 ∧ ∀ w, (Instr.makeSlice 60 (.int .i64 (n : Int)) (.int .i64 (n : Int))).run Tryd.prog w = .ok (.slice (some ⟨w.heap.size, 0, none⟩) n n) (w.alloc (.cells cs 36)) := by
  obtain ⟨i, hi, hz, hs, hb⟩ := info_parts infoR
  refine ⟨madeCells (Value.agg #[.int .i64 0, .int .i64 0, .int .i64 0, .int .i64 0, .int .i64 0]).cells (n * i.size), ?_, fun w => ?_⟩
  · rw [size_madeCells, hs]
  · have := run_make (P := Tryd.prog) w 60 36 i _ Tryd.underlying60 hi hz .i64 .i64 n n (by omega) (Int.le_refl _) (by rw [hb]; omega) (by omega)
    simp only [Int.toNat_natCast] at this
    exact this
theorem row_set5 {w : World} {base G n : Nat} {e : TypeId} {xs : List Value} (h : w.ownsRow base e 5 (.slice (some ⟨G, 0, none⟩) n n) n xs) (a : Nat) (v0 v1 v2 v3 v4 : Value) :
    (((((w.setCell ⟨G, a, none⟩ v0).setCell ⟨G, a + 1, none⟩ v1).setCell ⟨G, a + 2, none⟩ v2).setCell ⟨G, a + 3, none⟩ v3).setCell ⟨G, a + 4, none⟩ v4).ownsRow base e 5 (.slice (some ⟨G, 0, none⟩) n n) n (((((xs.set a v0).set (a + 1) v1).set (a + 2) v2).set (a + 3) v3).set (a + 4) v4) :=
  ((((((((h.stored a v0).1).stored (a + 1) v1).1).stored (a + 2) v2).1).stored (a + 3) v3).1.stored (a + 4) v4).1
theorem below_set5 {n : Nat} {w W : World} (h : Below n w W) {G : Nat} (hG : n ≤ G) (a : Nat) (v0 v1 v2 v3 v4 : Value) : Below n w (((((W.setCell ⟨G, a, none⟩ v0).setCell ⟨G, a + 1, none⟩ v1).setCell ⟨G, a + 2, none⟩ v2).setCell ⟨G, a + 3, none⟩ v3).setCell ⟨G, a + 4, none⟩ v4) :=
  ((((h.setCell (p := ⟨G, a, none⟩) hG v0).setCell (p := ⟨G, a + 1, none⟩) hG v1).setCell (p := ⟨G, a + 2, none⟩) hG v2).setCell (p := ⟨G, a + 3, none⟩) hG v3).setCell (p := ⟨G, a + 4, none⟩) hG v4

set_option maxHeartbeats 1000000 in
theorem results_any (h : RdIn w c N E B vW C U s r X T) :
    Calls Tryd.prog 34 #[.pointer (some ⟨E, 0, none⟩)] w fun e w' => e = .returned (.slice (some ⟨w.heap.size, 0, none⟩) r.length r.length) ∧ w'.ownsRow w.heap.size 36 5 (.slice (some ⟨w.heap.size, 0, none⟩) r.length r.length) r.length (resW X r.length) ∧ Below w.heap.size w w' := by
  have h8 := h.le
  obtain ⟨cs, hcs, hmk⟩ := make_res r.length h8
  have HROW := h.at'.row
  obtain ⟨va, cap, rfl, -⟩ := h.at'.row
  have q1 := h.at'.fw
  have hEz : E < w.heap.size := World.block_lt_of_cell? w _ q1
  have hB0 : Below w.heap.size w (w.alloc (.cells cs 36)) := (Below.refl _ _).alloc (Nat.le_refl _) _
  have hO0 : (w.alloc (.cells cs 36)).ownsRow w.heap.size 36 5 (.slice (some ⟨w.heap.size, 0, none⟩) r.length r.length) r.length cs.toList := World.ownsRow_lit w cs r.length (Nat.le_refl _) (by unfold maxLen; omega) hcs
  go_enter Tryd.func34, Tryd.ntmps34
  go_wp2_with fail
  go_loopg [17] r.length (fun g i wr => ∃ j : Nat, ∃ xs : List Value, j ≤ r.length ∧ g = r.length - j ∧ i = .int .i64 j ∧ wr.ownsRow w.heap.size 36 5 (.slice (some ⟨w.heap.size, 0, none⟩) r.length r.length) r.length xs ∧ Hid (xs.take (j * 5) = resW X j) ∧ Below w.heap.size w wr)
  case atStart => exact ⟨0, cs.toList, by omega, by omega, rfl, hO0, by simp [Hid, resW], hB0⟩
  case round =>
    clear hB0 hO0 q1 hmk
    obtain ⟨j, xs, hj, hg, rfl, hO, hxs, hB⟩ := hrel
    by_cases hlt : j < r.length
    · have hres := (h.later hB).result hlt
      obtain ⟨va', cap', e', hrow⟩ := (h.later hB).at'.row
      cases e'
      obtain ⟨gw, rfl, q2⟩ := hrow j hlt
      have hji : (j : Int) < (r.length : Int) := by omega
      have hx' : Hid (resW X (j + 1) = resW X j ++ [.int .i64 (resC (X j)), .int .i64 (resG (X j) 0), .int .i64 (resG (X j) 1), .int .i64 (resG (X j) 2), .int .i64 (resG (X j) 3)]) := rfl
      generalize resC (X j) = y at hres hx'
      generalize resG (X j) 0 = y0 at hres hx'
      generalize resG (X j) 1 = y1 at hres hx'
      generalize resG (X j) 2 = y2 at hres hx'
      generalize resG (X j) 3 = y3 at hres hx'
      generalize (X j).over = ov at hres
      clear hrow HROW
      go_wp2_with fail
      refine hres.mono ?_
      clear hres
      rintro e w1 ⟨rfl, hb1⟩
      have hB1 : Below w.heap.size w w1 := hB.trans (hb1.mono hB.size)
      have hO1 := owns_below hO hb1
      have hxl := hO1.1
      have k0 := hO1.cellAt (j * 5) (by omega)
      have k1 := hO1.cellAt (j * 5 + 1) (by omega)
      have k2 := hO1.cellAt (j * 5 + 2) (by omega)
      have k3 := hO1.cellAt (j * 5 + 3) (by omega)
      have k4 := hO1.cellAt (j * 5 + 4) (by omega)
      rw [List.getElem?_eq_getElem (by omega)] at k0 k1 k2 k3 k4
      have u1 := hO1.frozenAt
      have hxs' : Hid ((((((xs.set (j * 5) (.int .i64 y)).set (j * 5 + 1) (.int .i64 y0)).set (j * 5 + 2) (.int .i64 y1)).set (j * 5 + 3) (.int .i64 y2)).set (j * 5 + 4) (.int .i64 y3)).take ((j + 1) * 5) = resW X (j + 1)) := by
        show _ = _
        rw [show (j + 1) * 5 = j * 5 + 5 by omega, take_set5 xs (j * 5) (by omega), hxs.out, hx'.out]
      have HO2 : Hid _ := row_set5 hO1 (j * 5) (.int .i64 y) (.int .i64 y0) (.int .i64 y1) (.int .i64 y2) (.int .i64 y3)
      have HB2 : Hid _ := below_set5 hB1 (Nat.le_refl _) (j * 5) (.int .i64 y) (.int .i64 y0) (.int .i64 y1) (.int .i64 y2) (.int .i64 y3)
      clear hb1 hO hB hxs hx' q2
      go_wp2_with fail
      go_roundg (r.length - (j + 1))
      case measure => omega
      case rel => exact ⟨j + 1, _, by omega, rfl, by go_num, HO2.out, hxs', HB2.out⟩
    · obtain rfl : j = r.length := by omega
      have hxs' : Hid (xs = resW X r.length) := by
        have h := hxs.out
        have hl := hO.1
        rw [← hl, List.take_length] at h
        exact h
      have HOWN : Hid _ := hO
      clear hxs hO HROW
      go_wp2_with fail
      go_ret
      exact ⟨rfl, by rw [← hxs'.out]; exact HOWN.out, hB⟩
end
end Go.Proofs.YthlhbmldfjkagabDoor
