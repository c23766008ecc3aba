/-
  The walks of Slots and of the reference's SameSlots.
-/
import Derived.Test.YthlhbmldfjkagaaDoorBoardA
import Derived.Test.YthlhbmldfjkagaaDoorTabH
import Derived.Test.YthlhbmldfjkagaaDoorEqA
namespace Go.Proofs.YthlhbmldfjkagaaDoor
open Go.RowKit Go.Shelf

/-- Slots as they lie in memory. -/
def SlotsAt (w : World) (v : Value) (l : List Slot4) : Prop :=
  ∃ a cap, v = .slice a l.length cap ∧ ∀ i, i < l.length → ∃ b off, a = some ⟨b, off, none⟩ ∧
    w.cell? ⟨b, off + i * 4, none⟩ = some (.int .i64 (slotAt l i).b) ∧ w.cell? ⟨b, off + i * 4 + 1, none⟩ = some (.bool (slotAt l i).op) ∧
    w.cell? ⟨b, off + i * 4 + 2, none⟩ = some (.bool (slotAt l i).vo) ∧ w.cell? ⟨b, off + i * 4 + 3, none⟩ = some (.int .i64 (slotAt l i).n)
theorem SlotsAt.later {w w' : World} {v : Value} {l : List Slot4} (h : SlotsAt w v l) (hb : Below w.heap.size w w') : SlotsAt w' v l := by
  obtain ⟨a, cap, rfl, h⟩ := h
  refine ⟨a, cap, rfl, fun i hi => ?_⟩
  obtain ⟨b, off, e, c0, c1, c2, c3⟩ := h i hi
  exact ⟨b, off, e, cell_later hb c0, cell_later hb c1, cell_later hb c2, cell_later hb c3⟩
theorem slotsAt_of_owns {w : World} {N : Nat} {v : Value} {l : List Slot4} (h : w.ownsRow N 103 4 v l.length (slotCells l)) : SlotsAt w v l := by
  by_cases h0 : 0 < l.length
  · obtain ⟨g, cap, rfl, hc⟩ := owns_cells h h0
    refine ⟨_, cap, rfl, fun i hi => ⟨g, 0, rfl, ?_⟩⟩
    obtain ⟨p0, p1, p2, p3⟩ := slotCells_at l i hi
    simp only [Nat.zero_add]
    exact ⟨hc _ _ p0, hc _ _ p1, hc _ _ p2, hc _ _ p3⟩
  · obtain rfl : l = [] := List.eq_nil_of_length_eq_zero (by omega)
    rcases h.2 with ⟨rfl, -⟩ | ⟨g, cap, cur, rfl, -⟩
    · exact ⟨none, 0, rfl, fun i hi => by simp at hi⟩
    · exact ⟨_, cap, rfl, fun i hi => by simp at hi⟩
theorem RowAt.cells {w : World} {B off : Nat} {l : List Slot4} (h : RowAt w B off l) : ∀ j u, (slotCells l)[j]? = some u → w.cell? ((⟨B, off, none⟩ : Addr).add j) = some u := fun j u hu => by
  have hj : j < l.length * 4 := by
    have := (List.getElem?_eq_some_iff.1 hu).1
    rw [slotCells_length] at this; exact this
  obtain ⟨q, m, hm, rfl⟩ : ∃ q m, m < 4 ∧ j = q * 4 + m := ⟨j / 4, j % 4, by omega, by omega⟩
  obtain ⟨c0, c1, c2, c3⟩ := h.cell q (by omega)
  obtain ⟨p0, p1, p2, p3⟩ := slotCells_at l q (by omega)
  rw [show (⟨B, off, none⟩ : Addr).add (q * 4 + m) = ⟨B, off + (q * 4 + m), none⟩ by unfold Addr.add; split <;> simp_all]
  have : m = 0 ∨ m = 1 ∨ m = 2 ∨ m = 3 := by omega
  rcases this with rfl | rfl | rfl | rfl
  · rw [Nat.add_zero] at hu ⊢; rw [p0] at hu; cases hu; exact c0
  · rw [p1] at hu; cases hu; rw [← Nat.add_assoc]; exact c1
  · rw [p2] at hu; cases hu; rw [← Nat.add_assoc]; exact c2
  · rw [p3] at hu; cases hu; rw [← Nat.add_assoc]; exact c3

theorem info83s : (Tryd.prog.info? 103).map (fun i => (i.zero, i.size, i.bytes)) = some (some (.agg #[.int .i64 0, .bool false, .bool false, .int .i64 0]), 4, 24) := by kernel_rfl

set_option maxRecDepth 100000 in
set_option maxHeartbeats 1000000 in
theorem clone_any (B off : Nat) (l : List Slot4) (w : World) (h : RowAt w B off l) :
    Calls Tryd.prog 67 #[.slice (some ⟨B, off, none⟩) l.length 9] w fun e w' => (∃ u, e = .returned u ∧ w'.ownsRow w.heap.size 103 4 u l.length (slotCells l)) ∧ Below w.heap.size w w' := by
  obtain ⟨i0, hi, hz0, hz1, hz2⟩ := info_parts info83s
  have hl := h.len
  have HN : Hid (∀ j u, (slotCells l)[j]? = some u → (w.alloc (.cells #[] 103)).cell? ((⟨B, off, none⟩ : Addr).add j) = some u) := (h.later ((Below.refl _ _).alloc (Nat.le_refl _) _)).cells
  have HL : Hid ((slotCells l).length = l.length * 4) := slotCells_length l
  have H1 : Hid (∀ u ∈ slotCells l, u.oneCell' = true) := slotCells_one l
  have heq : ∀ w, (binOp .eql 73 (.slice (some ⟨B, off, none⟩) l.length 9) (.slice none 0 0)).run Tryd.prog w = .ok (.bool false) w := fun _ => by kernel_rfl
  have hown : (w.alloc (.cells #[] 103)).ownsRow w.heap.size 103 4 (.slice (some ⟨w.heap.size, 0, none⟩) 0 0) 0 [] := ⟨rfl, .inr ⟨w.heap.size, 0, #[], rfl, Nat.le_refl _, World.alloc_heap_new w _, Nat.le_refl _, by simp, rfl, rfl⟩⟩
  generalize slotCells l = LC at *
  generalize l.length = n at *
  clear h
  go_enter Tryd.func67, Tryd.ntmps67
  go_wp2_with (at_builtin; refine wpList_append_own _ rfl _ _ 73 rfl w.heap.size 103 i0 (.agg #[.int .i64 0, .bool false, .bool false, .int .i64 0]) 4 24 Tryd.underlying73 hi hz0 hz1 hz2 rfl (by decide) _ 0 [] rfl hown ⟨B, off, none⟩ n 9 LC rfl HL.out HN.out H1.out (by unfold maxLen; omega) (by omega) (by simp) ?_; intro v' w1 hown' hgrow hnil)
  go_ret
  refine ⟨⟨v', rfl, ?_⟩, ((Below.refl _ _).alloc (Nat.le_refl _) _).grown hgrow (by simp) (fun k hk => (hown.lt k hk).1)⟩
  rw [Nat.zero_add, List.nil_append] at hown'
  exact hown'

set_option maxRecDepth 100000 in
set_option maxHeartbeats 1000000 in
theorem slots_any (B k : Nat) (hk : k < 10) (T : Nat → List Slot4) (w : World) (h : TabAt w B T) :
    Calls Tryd.prog 45 #[.pointer (some ⟨B, 0, none⟩), .int .i64 (k : Int)] w fun e w' => (∃ u, e = .returned u ∧ w'.ownsRow w.heap.size 103 4 u (T k).length (slotCells (T k))) ∧ Below w.heap.size w w' := by
  have hrow := h.row k hk
  have hki : (k : Int) < 10 := by omega
  have hall := all_row B (k * 37) (T k) w hrow
  have hcl := clone_any B (k * 37) (T k) w.drew hrow.drew
  generalize slotCells (T k) = LC at *
  generalize (T k).length = n at *
  clear hrow h
  go_enter Tryd.func45, Tryd.ntmps45
  go_wp2_with (first | (go_at_call 39; refine (key_in k hk _).mono ?_; rintro e w' ⟨rfl, rfl⟩) | (go_at_call 68; refine hall.mono ?_; rintro e w' ⟨rfl, rfl⟩))
  refine hcl.mono ?_
  rintro e w1 ⟨⟨u, rfl, ho⟩, hb⟩
  go_wp2_with fail
  go_ret
  exact ⟨⟨u, rfl, ho⟩, (Below.refl _ _).drew.trans hb⟩

set_option maxRecDepth 100000 in
set_option maxHeartbeats 1000000 in
theorem same_any (v1 v2 : Value) (l : List Slot4) (w : World) (h1 : SlotsAt w v1 l) (h2 : SlotsAt w v2 l) (hl : l.length ≤ 9) :
    Calls Tryd.prog 44 #[v1, v2] w fun e w' => e = .returned (.bool true) ∧ Below w.heap.size w w' := by
  obtain ⟨a1, cap1, rfl, h1⟩ := h1
  obtain ⟨a2, cap2, rfl, h2⟩ := h2
  go_enter Tryd.func44, Tryd.ntmps44
  go_wp2_with fail
  go_loopg [5] l.length (fun g i wr => ∃ j : Nat, j ≤ l.length ∧ g = l.length - j ∧ i = .int .i64 j ∧ Below w.heap.size w wr)
  case atStart => exact ⟨0, by omega, by omega, rfl, Below.refl _ _⟩
  case round =>
    obtain ⟨j, hj, hg, rfl, hB⟩ := hrel
    by_cases hlt : j < l.length
    · obtain ⟨b, off, rfl, c0, c1, c2, c3⟩ := h1 j hlt
      obtain ⟨b', off', rfl, d0, d1, d2, d3⟩ := h2 j hlt
      replace c0 := cell_later hB c0
      replace c1 := cell_later hB c1
      replace c2 := cell_later hB c2
      replace c3 := cell_later hB c3
      replace d0 := cell_later hB d0
      replace d1 := cell_later hB d1
      replace d2 := cell_later hB d2
      replace d3 := cell_later hB d3
      have hji : (j : Int) < (l.length : Int) := by omega
      generalize slotAt l j = x at *
      clear h1 h2
      go_wp2_with fail
      go_quiet (fail)
      go_wp2_with fail
      go_roundg (l.length - (j + 1))
      case measure => omega
      case rel => exact ⟨j + 1, by omega, rfl, by go_num, drewN_below hB _⟩
    · clear h1 h2
      go_wp2_with fail
      go_ret
      exact ⟨rfl, hB⟩
end Go.Proofs.YthlhbmldfjkagaaDoor
