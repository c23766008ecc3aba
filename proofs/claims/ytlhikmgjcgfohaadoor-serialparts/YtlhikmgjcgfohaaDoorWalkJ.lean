/-
  What All has in memory: the state, the state that it will answer, the results.
-/
import Derived.Test.YtlhikmgjcgfohaaDoorLawC
import Derived.Laws.OwnMore
import Derived.Laws.MakeOwn
namespace Go.Proofs.YtlhikmgjcgfohaaDoor
open Go.RowKit

/-- What deeds came to, cell by cell. -/
def resCells : List Out → List Value
  | [] => []
  | o :: r => .int .i64 o.code :: .int .i64 (o.regs 0) :: .int .i64 (o.regs 1) :: .int .i64 (o.regs 2) :: .int .i64 (o.regs 3) :: resCells r
theorem resCells_length (l : List Out) : (resCells l).length = l.length * 5 := by
  induction l with
  | nil => rfl
  | cons o r ih => simp only [resCells, List.length_cons, ih]; omega
theorem resCells_append (l m : List Out) : resCells (l ++ m) = resCells l ++ resCells m := by
  induction l with
  | nil => rfl
  | cons o r ih => simp only [List.cons_append, resCells, ih]
theorem resCells_one (l : List Out) : ∀ u ∈ resCells l, u.oneCell' = true := by
  induction l with
  | nil => intro u hu; cases hu
  | cons o r ih =>
    intro u hu
    simp only [resCells, List.mem_cons] at hu
    rcases hu with rfl | rfl | rfl | rfl | rfl | hu
    · rfl
    · rfl
    · rfl
    · rfl
    · rfl
    · exact ih u hu
theorem resCells_at (l : List Out) : ∀ i (h : i < l.length), (resCells l)[i * 5]? = some (.int .i64 l[i].code) ∧ (resCells l)[i * 5 + 1]? = some (.int .i64 (l[i].regs 0)) ∧ (resCells l)[i * 5 + 2]? = some (.int .i64 (l[i].regs 1)) ∧ (resCells l)[i * 5 + 3]? = some (.int .i64 (l[i].regs 2)) ∧ (resCells l)[i * 5 + 4]? = some (.int .i64 (l[i].regs 3)) := by
  induction l with
  | nil => intro i h; simp at h
  | cons o r ih =>
    intro i h
    cases i with
    | zero => exact ⟨rfl, rfl, rfl, rfl, rfl⟩
    | succ i =>
      have := ih i (by simpa using h)
      rw [show (i + 1) * 5 = i * 5 + 5 by omega]
      exact this

/-- Five cells set, one behind the other. -/
theorem take_set5 (xs : List Value) (a : Nat) (h : a + 5 ≤ xs.length) (v0 v1 v2 v3 v4 : Value) :
    (((((xs.set a v0).set (a + 1) v1).set (a + 2) v2).set (a + 3) v3).set (a + 4) v4).take (a + 5) = xs.take a ++ [v0, v1, v2, v3, v4] := by
  apply List.ext_getElem?
  intro i
  simp only [List.getElem?_take, List.getElem?_set, List.getElem?_append, List.length_take, List.length_set]
  by_cases hi : i < a
  · simp [show i < a + 5 by omega, show ¬ a + 4 = i by omega, show ¬ a + 3 = i by omega, show ¬ a + 2 = i by omega, show ¬ a + 1 = i by omega, show ¬ a = i by omega, show i < min a xs.length by omega, hi]
  · by_cases h5 : i < a + 5
    · have hmin : min a xs.length = a := by omega
      rw [hmin, if_pos h5, if_neg hi]
      have hc : i = a ∨ i = a + 1 ∨ i = a + 2 ∨ i = a + 3 ∨ i = a + 4 := by omega
      rcases hc with rfl | rfl | rfl | rfl | rfl
      · simp; omega
      · simp; omega
      · simp; omega
      · simp; omega
      · simp; omega
    · rw [if_neg h5, if_neg (by omega)]
      rw [List.getElem?_eq_none]
      simp; omega

theorem owns_later {w w' : World} {base : Nat} {e : TypeId} {size : Nat} {v : Value} {n : Nat} {xs : List Value} (hb : Below w.heap.size w w') (h : w.ownsRow base e size v n xs) : w'.ownsRow base e size v n xs := by
  refine ⟨h.1, ?_⟩
  rcases h.2 with hn | ⟨g, cap, cur, hv, hbase, hg, rest⟩
  · exact .inl hn
  · refine .inr ⟨g, cap, cur, hv, hbase, ?_, rest⟩
    rw [hb.block g (Array.getElem?_eq_some_iff.1 hg).1]; exact hg

/-- The variables of All. -/
structure AllAt (w : World) (B G n : Nat) (x : Nat → Int) (xs : List Value) : Prop where
  box : Box w B x
  free0 : ∀ o, w.frozen? ⟨B, o, none⟩ = false
  one : Box w (B + 1) (fun _ => 0)
  free1 : ∀ o, w.frozen? ⟨B + 1, o, none⟩ = false
  row : w.ownsRow (B + 2) 43 5 (.slice (some ⟨G, 0, none⟩) n n) n xs

theorem Box.lt {w : World} {B : Nat} {s : Nat → Int} (h : Box w B s) : B < w.heap.size := World.block_lt_of_cell? w _ (h 0 (by omega))
theorem AllAt.later {w w' : World} {B G n : Nat} {x : Nat → Int} {xs : List Value} (h : AllAt w B G n x xs) (hb : Below w.heap.size w w') : AllAt w' B G n x xs :=
  ⟨h.box.later hb, fun o => by rw [hb.frozen (p := ⟨B, o, none⟩) h.box.lt]; exact h.free0 o, h.one.later hb, fun o => by rw [hb.frozen (p := ⟨B + 1, o, none⟩) h.one.lt]; exact h.free1 o, owns_later hb h.row⟩
theorem Box.congr {w : World} {B : Nat} {s t : Nat → Int} (h : Box w B s) (e : ∀ i, i < 10 → s i = t i) : Box w B t := fun i hi => by rw [← e i hi]; exact h i hi
/-- A key of the state is set. -/
theorem AllAt.setKey {w : World} {B G n : Nat} {x : Nat → Int} {xs : List Value} (h : AllAt w B G n x xs) (_hG : B + 2 ≤ G) {m : Nat} (hm : m < 10) (y : Int) : AllAt (w.setCell ⟨B, m, none⟩ (.int .i64 y)) B G n (putAt x m y) xs :=
  ⟨h.box.set hm y, fun o => by rw [World.frozen?_setCell]; exact h.free0 o, h.one.apart (by omega) _ _, fun o => by rw [World.frozen?_setCell]; exact h.free1 o, ownsRow_setCell_below h.row (a := ⟨B, m, none⟩) (by simp) _⟩
/-- A cell of the results is set. -/
theorem AllAt.setRow {w : World} {B G n : Nat} {x : Nat → Int} {xs : List Value} (h : AllAt w B G n x xs) (hG : B + 2 ≤ G) (j : Nat) (v : Value) : AllAt (w.setCell ⟨G, j, none⟩ v) B G n x (xs.set j v) :=
  ⟨h.box.apart (by omega) _ _, fun o => by rw [World.frozen?_setCell]; exact h.free0 o, h.one.apart (by omega) _ _, fun o => by rw [World.frozen?_setCell]; exact h.free1 o, (h.row.stored j v).1⟩

theorem AllAt.round {w : World} {B G n : Nat} {x : Nat → Int} {xs : List Value} (h : AllAt w B G n x xs) (hG : B + 2 ≤ G) (y : Nat → Int) (j : Nat) (v0 v1 v2 v3 v4 : Value) :
    AllAt (((((((((((((((w.setCell ⟨B, 0, none⟩ (.int .i64 (y 0))).setCell ⟨B, 1, none⟩ (.int .i64 (y 1))).setCell ⟨B, 2, none⟩ (.int .i64 (y 2))).setCell ⟨B, 3, none⟩ (.int .i64 (y 3))).setCell ⟨B, 4, none⟩ (.int .i64 (y 4))).setCell ⟨B, 5, none⟩ (.int .i64 (y 5))).setCell ⟨B, 6, none⟩ (.int .i64 (y 6))).setCell ⟨B, 7, none⟩ (.int .i64 (y 7))).setCell ⟨B, 8, none⟩ (.int .i64 (y 8))).setCell ⟨B, 9, none⟩ (.int .i64 (y 9))).setCell ⟨G, j * 5, none⟩ v0).setCell ⟨G, j * 5 + 1, none⟩ v1).setCell ⟨G, j * 5 + 2, none⟩ v2).setCell ⟨G, j * 5 + 3, none⟩ v3).setCell ⟨G, j * 5 + 4, none⟩ v4) B G n y (((((xs.set (j * 5) v0).set (j * 5 + 1) v1).set (j * 5 + 2) v2).set (j * 5 + 3) v3).set (j * 5 + 4) v4) := by
  have h1 := ((((((((((h.setKey hG (m := 0) (by omega) (y 0)).setKey hG (m := 1) (by omega) (y 1)).setKey hG (m := 2) (by omega) (y 2)).setKey hG (m := 3) (by omega) (y 3)).setKey hG (m := 4) (by omega) (y 4)).setKey hG (m := 5) (by omega) (y 5)).setKey hG (m := 6) (by omega) (y 6)).setKey hG (m := 7) (by omega) (y 7)).setKey hG (m := 8) (by omega) (y 8)).setKey hG (m := 9) (by omega) (y 9))
  have h2 := ((((h1.setRow hG (j * 5) v0).setRow hG (j * 5 + 1) v1).setRow hG (j * 5 + 2) v2).setRow hG (j * 5 + 3) v3).setRow hG (j * 5 + 4) v4
  exact ⟨h2.box.congr (lt10 rfl rfl rfl rfl rfl rfl rfl rfl rfl rfl), h2.free0, h2.one, h2.free1, h2.row⟩

theorem info43 : (Tryd.prog.info? 43).map (fun i => (i.zero, i.size, i.bytes)) = some (some (.agg #[.int .i64 0, .int .i64 0, .int .i64 0, .int .i64 0, .int .i64 0]), 5, 40) := by kernel_rfl

theorem make_run (n : Nat) (hn : n ≤ 8) : ∃ cs : Array Value, cs.size = n * 5 ∧ ∀ w, (Instr.makeSlice 48 (.int .i64 (n : Int)) (.int .i64 (n : Int))).run Tryd.prog w = .ok (.slice (some ⟨w.heap.size, 0, none⟩) n n) (w.alloc (.cells cs 43)) := by
  obtain ⟨i, hi, hz, hs, hb⟩ := info_parts info43
  refine ⟨madeCells (Value.agg #[.int .i64 0, .int .i64 0, .int .i64 0, .int .i64 0, .int .i64 0]).cells (n * i.size), ?_, fun w => ?_⟩
  · rw [size_madeCells, hs]
  · have := run_make (P := Tryd.prog) w 48 43 i _ Tryd.underlying48 hi hz .i64 .i64 n n (by omega) (Int.le_refl _) (by rw [hb]; omega) (by omega)
    simp only [Int.toNat_natCast] at this
    exact this

theorem allSt_take {s : Nat → Int} {r : List (List Op5)} {j : Nat} (h : j < r.length) : allSt s (r.take (j + 1)) = (doF (allSt s (r.take j)) r[j]).st := by
  rw [List.take_add_one, List.getElem?_eq_getElem h, Option.toList_some, allSt_append]; rfl
theorem allOut_take {s : Nat → Int} {r : List (List Op5)} {j : Nat} (h : j < r.length) : allOut s (r.take (j + 1)) = allOut s (r.take j) ++ [doF (allSt s (r.take j)) r[j]] := by
  rw [List.take_add_one, List.getElem?_eq_getElem h, Option.toList_some, allOut_append]; rfl
end Go.Proofs.YtlhikmgjcgfohaaDoor
