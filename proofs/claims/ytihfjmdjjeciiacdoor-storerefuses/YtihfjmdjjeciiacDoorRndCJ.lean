/-
  The walks of a round's Left and Results.
-/
import Derived.Test.YtihfjmdjjeciiacDoorRndBJ
import Derived.Laws.OwnMore
import Derived.Maps.AppendAt
namespace Go.Proofs.YtihfjmdjjeciiacDoor
open Go.RowKit Go.Shelf

/-- Those that are not over. -/
def leftL (X : Nat → Wk) (n : Nat) : List Nat := (List.range n).filter fun i => !(X i).over

section
variable {w : World} {c : Nat → Nat} {N E B : Nat} {vW : Value} {C : Nat → Nat} {U : Nat → Value} {s : Nat → Int} {r : List (List Op5)} {X : Nat → Wk} {T : Nat → List Slot4}



/-- What the first n deeds came to, cell by cell. -/
def resW (X : Nat → Wk) : Nat → List Value
  | 0 => []
  | n + 1 => resW X n ++ [.int .i64 (resC (X n)), .int .i64 (resG (X n) 0), .int .i64 (resG (X n) 1), .int .i64 (resG (X n) 2), .int .i64 (resG (X n) 3)]
theorem resW_length (X : Nat → Wk) (n : Nat) : (resW X n).length = n * 5 := by
  induction n with
  | zero => rfl
  | succ n ih => simp only [resW, List.length_append, ih, List.length_cons, List.length_nil]; omega
/-- Five cells set, one behind the other. -/
theorem take_set5 (xs : List Value) (a : Nat) (h : a + 5 ≤ xs.length) (v0 v1 v2 v3 v4 : Value) :
    (((((xs.set a v0).set (a + 1) v1).set (a + 2) v2).set (a + 3) v3).set (a + 4) v4).take (a + 5) = xs.take a ++ [v0, v1, v2, v3, v4] := by
  apply List.ext_getElem?
  intro i
  simp only [List.getElem?_take, List.getElem?_set, List.getElem?_append, List.length_take, List.length_set]
  by_cases hi : i < a
  · simp [show i < a + 5 by omega, show ¬ a + 4 = i by omega, show ¬ a + 3 = i by omega, show ¬ a + 2 = i by omega, show ¬ a + 1 = i by omega, show ¬ a = i by omega, show i < min a xs.length by omega, hi]
  · by_cases h5 : i < a + 5
    · have hmin : min a xs.length = a := by omega
      rw [hmin, if_pos h5, if_neg hi]
      have hc : i = a ∨ i = a + 1 ∨ i = a + 2 ∨ i = a + 3 ∨ i = a + 4 := by omega
      rcases hc with rfl | rfl | rfl | rfl | rfl
      · simp; omega
      · simp; omega
      · simp; omega
      · simp; omega
      · simp; omega
    · rw [if_neg h5, if_neg (by omega)]
      rw [List.getElem?_eq_none]
      simp; omega
theorem infoR : (Tryd.prog.info? 110).map (fun i => (i.zero, i.size, i.bytes)) = some (some (.agg #[.int .i64 0, .int .i64 0, .int .i64 0, .int .i64 0, .int .i64 0]), 5, 40) := by kernel_rfl
theorem make_res (n : Nat) (hn : n ≤ 8) : ∃ cs : Array Value, cs.size = n * 5 ∧ ∀ w, (Instr.makeSlice 72 (.int .i64 (n : Int)) (.int .i64 (n : Int))).run Tryd.prog w = .ok (.slice (some ⟨w.heap.size, 0, none⟩) n n) (w.alloc (.cells cs 110)) := by
  obtain ⟨i, hi, hz, hs, hb⟩ := info_parts infoR
  refine ⟨madeCells (Value.agg #[.int .i64 0, .int .i64 0, .int .i64 0, .int .i64 0, .int .i64 0]).cells (n * i.size), ?_, fun w => ?_⟩
  · rw [size_madeCells, hs]
  · have := run_make (P := Tryd.prog) w 72 110 i _ Tryd.underlying72 hi hz .i64 .i64 n n (by omega) (Int.le_refl _) (by rw [hb]; omega) (by omega)
    simp only [Int.toNat_natCast] at this
    exact this
theorem row_set5 {w : World} {base G n : Nat} {e : TypeId} {xs : List Value} (h : w.ownsRow base e 5 (.slice (some ⟨G, 0, none⟩) n n) n xs) (a : Nat) (v0 v1 v2 v3 v4 : Value) :
    (((((w.setCell ⟨G, a, none⟩ v0).setCell ⟨G, a + 1, none⟩ v1).setCell ⟨G, a + 2, none⟩ v2).setCell ⟨G, a + 3, none⟩ v3).setCell ⟨G, a + 4, none⟩ v4).ownsRow base e 5 (.slice (some ⟨G, 0, none⟩) n n) n (((((xs.set a v0).set (a + 1) v1).set (a + 2) v2).set (a + 3) v3).set (a + 4) v4) :=
  ((((((((h.stored a v0).1).stored (a + 1) v1).1).stored (a + 2) v2).1).stored (a + 3) v3).1.stored (a + 4) v4).1
theorem below_set5 {n : Nat} {w W : World} (h : Below n w W) {G : Nat} (hG : n ≤ G) (a : Nat) (v0 v1 v2 v3 v4 : Value) : Below n w (((((W.setCell ⟨G, a, none⟩ v0).setCell ⟨G, a + 1, none⟩ v1).setCell ⟨G, a + 2, none⟩ v2).setCell ⟨G, a + 3, none⟩ v3).setCell ⟨G, a + 4, none⟩ v4) :=
  ((((h.setCell (p := ⟨G, a, none⟩) hG v0).setCell (p := ⟨G, a + 1, none⟩) hG v1).setCell (p := ⟨G, a + 2, none⟩) hG v2).setCell (p := ⟨G, a + 3, none⟩) hG v3).setCell (p := ⟨G, a + 4, none⟩) hG v4

set_option maxHeartbeats 1000000 in
theorem results_any (h : RdIn w c N E B vW C U s r X T) :
    Calls Tryd.prog 84 #[.pointer (some ⟨E, 0, none⟩)] w fun e w' => e = .returned (.slice (some ⟨w.heap.size, 0, none⟩) r.length r.length) ∧ w'.ownsRow w.heap.size 110 5 (.slice (some ⟨w.heap.size, 0, none⟩) r.length r.length) r.length (resW X r.length) ∧ Below w.heap.size w w' := by
  have h8 := h.le
  obtain ⟨cs, hcs, hmk⟩ := make_res r.length h8
  have HROW := h.at'.row
  obtain ⟨va, cap, rfl, -⟩ := h.at'.row
  have q1 := h.at'.fw
  have hEz : E < w.heap.size := World.block_lt_of_cell? w _ q1
  have hB0 : Below w.heap.size w (w.alloc (.cells cs 110)) := (Below.refl _ _).alloc (Nat.le_refl _) _
  have hO0 : (w.alloc (.cells cs 110)).ownsRow w.heap.size 110 5 (.slice (some ⟨w.heap.size, 0, none⟩) r.length r.length) r.length cs.toList := World.ownsRow_lit w cs r.length (Nat.le_refl _) (by unfold maxLen; omega) hcs
  go_enter Tryd.func84, Tryd.ntmps84
  go_wp2_with fail
  go_loopg [17] r.length (fun g i wr => ∃ j : Nat, ∃ xs : List Value, j ≤ r.length ∧ g = r.length - j ∧ i = .int .i64 j ∧ wr.ownsRow w.heap.size 110 5 (.slice (some ⟨w.heap.size, 0, none⟩) r.length r.length) r.length xs ∧ Hid (xs.take (j * 5) = resW X j) ∧ Below w.heap.size w wr)
  case atStart => exact ⟨0, cs.toList, by omega, by omega, rfl, hO0, by simp [Hid, resW], hB0⟩
  case round =>
    clear hB0 hO0 q1 hmk
    obtain ⟨j, xs, hj, hg, rfl, hO, hxs, hB⟩ := hrel
    by_cases hlt : j < r.length
    · have hres := (h.later hB).result hlt
      obtain ⟨va', cap', e', hrow⟩ := (h.later hB).at'.row
      cases e'
      obtain ⟨gw, rfl, q2⟩ := hrow j hlt
      have hji : (j : Int) < (r.length : Int) := by omega
      have hx' : Hid (resW X (j + 1) = resW X j ++ [.int .i64 (resC (X j)), .int .i64 (resG (X j) 0), .int .i64 (resG (X j) 1), .int .i64 (resG (X j) 2), .int .i64 (resG (X j) 3)]) := rfl
      generalize resC (X j) = y at hres hx'
      generalize resG (X j) 0 = y0 at hres hx'
      generalize resG (X j) 1 = y1 at hres hx'
      generalize resG (X j) 2 = y2 at hres hx'
      generalize resG (X j) 3 = y3 at hres hx'
      generalize (X j).over = ov at hres
      clear hrow HROW
      go_wp2_with fail
      refine hres.mono ?_
      clear hres
      rintro e w1 ⟨rfl, hb1⟩
      have hB1 : Below w.heap.size w w1 := hB.trans (hb1.mono hB.size)
      have hO1 := owns_below hO hb1
      have hxl := hO1.1
      have k0 := hO1.cellAt (j * 5) (by omega)
      have k1 := hO1.cellAt (j * 5 + 1) (by omega)
      have k2 := hO1.cellAt (j * 5 + 2) (by omega)
      have k3 := hO1.cellAt (j * 5 + 3) (by omega)
      have k4 := hO1.cellAt (j * 5 + 4) (by omega)
      rw [List.getElem?_eq_getElem (by omega)] at k0 k1 k2 k3 k4
      have u1 := hO1.frozenAt
      have hxs' : Hid ((((((xs.set (j * 5) (.int .i64 y)).set (j * 5 + 1) (.int .i64 y0)).set (j * 5 + 2) (.int .i64 y1)).set (j * 5 + 3) (.int .i64 y2)).set (j * 5 + 4) (.int .i64 y3)).take ((j + 1) * 5) = resW X (j + 1)) := by
        show _ = _
        rw [show (j + 1) * 5 = j * 5 + 5 by omega, take_set5 xs (j * 5) (by omega), hxs.out, hx'.out]
      have HO2 : Hid _ := row_set5 hO1 (j * 5) (.int .i64 y) (.int .i64 y0) (.int .i64 y1) (.int .i64 y2) (.int .i64 y3)
      have HB2 : Hid _ := below_set5 hB1 (Nat.le_refl _) (j * 5) (.int .i64 y) (.int .i64 y0) (.int .i64 y1) (.int .i64 y2) (.int .i64 y3)
      clear hb1 hO hB hxs hx' q2
      go_wp2_with fail
      go_roundg (r.length - (j + 1))
      case measure => omega
      case rel => exact ⟨j + 1, _, by omega, rfl, by go_num, HO2.out, hxs', HB2.out⟩
    · obtain rfl : j = r.length := by omega
      have hxs' : Hid (xs = resW X r.length) := by
        have h := hxs.out
        have hl := hO.1
        rw [← hl, List.take_length] at h
        exact h
      have HOWN : Hid _ := hO
      clear hxs hO HROW
      go_wp2_with fail
      go_ret
      exact ⟨rfl, by rw [← hxs'.out]; exact HOWN.out, hB⟩
end
end Go.Proofs.YtihfjmdjjeciiacDoor
