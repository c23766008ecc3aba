/-
  The walk of caracoleref.SameResults at two lists that are the same.
-/
import Derived.Test.YtlhikmgjcgfohaaDoorWalkK
import Derived.Deep.MidRow
namespace Go.Proofs.YtlhikmgjcgfohaaDoor
open Go.RowKit

/-- What deeds came to, as it lies in memory. -/
def ResAt (w : World) (v : Value) (l : List Out) : Prop :=
  ∃ a cap, v = .slice a l.length cap ∧ ∀ i (h : i < l.length), ∃ g, a = some ⟨g, 0, none⟩ ∧
    w.cell? ⟨g, i * 5, none⟩ = some (.int .i64 l[i].code) ∧ w.cell? ⟨g, i * 5 + 1, none⟩ = some (.int .i64 (l[i].regs 0)) ∧ w.cell? ⟨g, i * 5 + 2, none⟩ = some (.int .i64 (l[i].regs 1)) ∧
    w.cell? ⟨g, i * 5 + 3, none⟩ = some (.int .i64 (l[i].regs 2)) ∧ w.cell? ⟨g, i * 5 + 4, none⟩ = some (.int .i64 (l[i].regs 3))

theorem res_of_owns {w : World} {base : Nat} {v : Value} {l : List Out} (h : w.ownsRow base 43 5 v l.length (resCells l)) : ResAt w v l := by
  rcases h.2 with ⟨rfl, h0⟩ | ⟨g, cap, cur, rfl, -⟩
  · exact ⟨none, 0, by rw [h0], fun i hi => by omega⟩
  · refine ⟨some ⟨g, 0, none⟩, cap, rfl, fun i hi => ⟨g, rfl, ?_⟩⟩
    have hc : ∀ t u, (resCells l)[t]? = some u → w.cell? ⟨g, t, none⟩ = some u := fun t u ht => by
      have := h.cells (g := g) rfl t u ht
      rw [Addr.add_mid, Nat.zero_add] at this
      exact this
    obtain ⟨c0, c1, c2, c3, c4⟩ := resCells_at l i hi
    exact ⟨hc _ _ c0, hc _ _ c1, hc _ _ c2, hc _ _ c3, hc _ _ c4⟩

set_option maxHeartbeats 400000 in
theorem same_any (v u : Value) (l : List Out) (w : World) (hv : ResAt w v l) (hu : ResAt w u l) (hn : l.length ≤ 100) :
    Calls Tryd.prog 23 #[v, u] w fun e w' => e = .returned (.bool true) ∧ Below w.heap.size w w' := by
  obtain ⟨a, cap, rfl, hv⟩ := hv
  obtain ⟨a', cap', rfl, hu⟩ := hu
  go_enter Tryd.func23, Tryd.ntmps23
  go_wp2_with fail
  go_loopg [5] l.length (fun g i wr => ∃ j : Nat, j ≤ l.length ∧ g = l.length - j ∧ i = .int .i64 j ∧ Below w.heap.size w wr)
  case atStart => exact ⟨0, by omega, by omega, rfl, Below.refl _ _⟩
  case round =>
    obtain ⟨j, hj, hg, rfl, hB⟩ := hrel
    by_cases hlt : j < l.length
    · obtain ⟨g, rfl, c0, c1, c2, c3, c4⟩ := hv j hlt
      obtain ⟨g', rfl, d0, d1, d2, d3, d4⟩ := hu j hlt
      replace c0 := cell_later hB c0
      replace c1 := cell_later hB c1
      replace c2 := cell_later hB c2
      replace c3 := cell_later hB c3
      replace c4 := cell_later hB c4
      replace d0 := cell_later hB d0
      replace d1 := cell_later hB d1
      replace d2 := cell_later hB d2
      replace d3 := cell_later hB d3
      replace d4 := cell_later hB d4
      have h43 := eq43 l[j].code (l[j].regs 0) (l[j].regs 1) (l[j].regs 2) (l[j].regs 3)
      clear hv hu
      go_wp2_with fail
      go_quiet (fail)
      go_wp2_with fail
      go_roundg (l.length - (j + 1))
      case measure => omega
      case rel => exact ⟨j + 1, by omega, rfl, by go_num, drewN_below hB _⟩
    · clear hv hu
      go_wp2_with fail
      go_ret
      exact ⟨rfl, hB⟩
end Go.Proofs.YtlhikmgjcgfohaaDoor
