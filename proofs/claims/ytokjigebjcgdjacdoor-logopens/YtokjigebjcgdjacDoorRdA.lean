/-
  A reader as it lies in memory; the walks of its next and end.
-/
import Derived.Test.YtokjigebjcgdjacDoorMemC
import Derived.WalkLawsBesides
namespace Go.Proofs.YtokjigebjcgdjacDoor
open Go.RowKit

/-- A reader in block C: what is left, in blocks below N. -/
def ReadAt (w : World) (N C : Nat) (l : List Int) : Prop :=
  N ≤ C ∧ AllB l ∧ ∃ v, w.cell? ⟨C, 0, none⟩ = some v ∧ w.frozen? ⟨C, 0, none⟩ = false ∧ BytesIn (fun b => b < N) w v l

theorem ReadAt.lt {w : World} {N C : Nat} {l : List Int} (h : ReadAt w N C l) : C < w.heap.size := by
  obtain ⟨-, -, v, hv, -⟩ := h
  exact World.block_lt_of_cell? w _ hv
theorem ReadAt.grew {S : Nat → Prop} {w w' : World} {N C : Nat} {l : List Int} (h : ReadAt w N C l) (hg : Grew S w w') (hS : ∀ b, b ≤ C → ¬ S b) : ReadAt w' N C l := by
  have hlt := h.lt
  obtain ⟨hN, hb, v, hv, hf, hl⟩ := h
  exact ⟨hN, hb, v, hg.cell hv (hS C (Nat.le_refl _)), by rw [hg.frozen (p := ⟨C, 0, none⟩) hlt (hS C (Nat.le_refl _))]; exact hf, hl.grew hg fun b hb => hS b (by omega)⟩
theorem ReadAt.alloc {w : World} {N C : Nat} {l : List Int} (h : ReadAt w N C l) (o : Obj) : ReadAt (w.alloc o) N C l := h.grew (S := fun _ => False) (Grew.of_below ((Below.refl _ _).alloc (Nat.le_refl _) _)) (fun _ _ h => h)
theorem ReadAt.apart {w : World} {N C g : Nat} {l : List Int} (h : ReadAt w N C l) (hg : C < g) (o : Nat) (u : Value) : ReadAt (w.setCell ⟨g, o, none⟩ u) N C l :=
  h.grew (S := fun b => b = g) ⟨rfl, rfl, rfl, by simp [World.setCell], fun i _ hi => Below.heap_setCell _ _ _ _ hi⟩ (fun b hb e => by omega)
theorem ReadAt.other {w : World} {N C g : Nat} {l : List Int} (h : ReadAt w N C l) (hg : N ≤ g) (hne : g ≠ C) (o : Nat) (u : Value) : ReadAt (w.setCell ⟨g, o, none⟩ u) N C l := by
  have hlt := h.lt
  have hG : Grew (fun b => b = g) w (w.setCell ⟨g, o, none⟩ u) := ⟨rfl, rfl, rfl, by simp [World.setCell], fun i _ hi => Below.heap_setCell _ _ _ _ hi⟩
  obtain ⟨hN, hb, v, hv, hf, hl⟩ := h
  exact ⟨hN, hb, v, hG.cell hv (fun e => hne e.symm), by rw [hG.frozen (p := ⟨C, 0, none⟩) hlt (fun e => hne e.symm)]; exact hf, hl.grew hG fun b hb e => by omega⟩
theorem ReadAt.all {w : World} {N C : Nat} {l : List Int} (h : ReadAt w N C l) : AllB l := h.2.1

/-- What a reader gives up with. -/
def gave : List PanicEntry := [{ v := .iface 83 (.agg #[]), recovered := false }]

theorem grew_cellC (w : World) (C o : Nat) (u : Value) : Grew (fun b => b = C) w (w.setCell ⟨C, o, none⟩ u) := ⟨rfl, rfl, rfl, by simp [World.setCell], fun i _ hi => Below.heap_setCell _ _ _ _ hi⟩

set_option maxHeartbeats 400000 in
theorem next_some {N C : Nat} {x : Int} {l : List Int} {w : World} (h : ReadAt w N C (x :: l)) :
    Calls Tryd.prog 52 #[.pointer (some ⟨C, 0, none⟩)] w fun e w' => e = .returned (.int .u8 x) ∧ ReadAt w' N C l ∧ Grew (fun b => b = C) w w' ∧ w'.heap.size = w.heap.size := by
  obtain ⟨hN, hb, v, hv, hf, hl⟩ := h
  have HL := hl
  obtain ⟨a, cap, rfl, hc, hcell⟩ := hl
  obtain ⟨b, off, hbN, rfl, hx⟩ := hcell 0 (by simp)
  simp only [List.length_cons, List.getElem_cons_zero, Nat.add_zero] at hv hx hc HL
  clear hcell
  have HT := HL.tail
  unfold sliced at HT
  by_cases h1 : cap = 1
  · rw [if_pos h1, Nat.add_sub_cancel] at HT
    subst h1
    obtain rfl : l = [] := List.eq_nil_of_length_eq_zero (by omega)
    simp only [List.length_nil, Nat.zero_add, Nat.sub_self] at HT hv
    go_enter Tryd.func52, Tryd.ntmps52
    go_wp2
    go_ret
    exact ⟨rfl, ⟨hN, hb.tail, _, World.cell?_setCell_same _ _ _ hv, by rw [World.frozen?_setCell]; exact hf, HT.grew (grew_cellC _ C 0 _) (fun b hb e => by omega)⟩, grew_cellC _ _ _ _, by simp [World.setCell]⟩
  · rw [if_neg h1, Nat.add_sub_cancel] at HT
    simp only [Option.map_some, Nat.mul_one, addr_add] at HT
    go_enter Tryd.func52, Tryd.ntmps52
    go_wp2
    go_ret
    exact ⟨rfl, ⟨hN, hb.tail, _, World.cell?_setCell_same _ _ _ hv, by rw [World.frozen?_setCell]; exact hf, HT.grew (grew_cellC _ C 0 _) (fun b hb e => by omega)⟩, grew_cellC _ _ _ _, by simp [World.setCell]⟩

set_option maxHeartbeats 400000 in
theorem next_none {N C : Nat} {w : World} (h : ReadAt w N C []) :
    Calls Tryd.prog 52 #[.pointer (some ⟨C, 0, none⟩)] w fun e w' => e = .panicked gave ∧ w' = w := by
  obtain ⟨hN, hb, v, hv, hf, hl⟩ := h
  obtain ⟨a, cap, rfl, hc, -⟩ := hl
  simp only [List.length_nil] at hv
  go_enter Tryd.func52, Tryd.ntmps52
  go_wp2
  exact ⟨rfl, rfl, rfl⟩

set_option maxHeartbeats 400000 in
theorem end_none {N C : Nat} {w : World} (h : ReadAt w N C []) :
    Calls Tryd.prog 47 #[.pointer (some ⟨C, 0, none⟩)] w fun e w' => e = .returned (.tuple #[]) ∧ w' = w := by
  obtain ⟨hN, hb, v, hv, hf, hl⟩ := h
  obtain ⟨a, cap, rfl, hc, -⟩ := hl
  simp only [List.length_nil] at hv
  go_enter Tryd.func47, Tryd.ntmps47
  go_wp2
  go_end0
  exact ⟨rfl, rfl⟩

set_option maxHeartbeats 400000 in
theorem end_some {N C : Nat} {x : Int} {l : List Int} {w : World} (h : ReadAt w N C (x :: l)) :
    Calls Tryd.prog 47 #[.pointer (some ⟨C, 0, none⟩)] w fun e w' => e = .panicked gave ∧ w' = w := by
  obtain ⟨hN, hb, v, hv, hf, hl⟩ := h
  obtain ⟨a, cap, rfl, hc, -⟩ := hl
  simp only [List.length_cons] at hv
  go_enter Tryd.func47, Tryd.ntmps47
  go_wp2
  exact ⟨rfl, rfl, rfl⟩
end Go.Proofs.YtokjigebjcgdjacDoor
