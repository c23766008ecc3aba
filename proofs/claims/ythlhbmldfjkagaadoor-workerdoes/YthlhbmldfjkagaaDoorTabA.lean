/-
  The walks of the small functions of package table, and of the library's iterator that goes backward over a slice.
-/
import Derived.Test.YthlhbmldfjkagaaDoorBase
import Derived.Test.YthlhbmldfjkagaaDoorMathT
import Derived.RangeFuncNested
import Derived.RangeFuncBound
import Derived.RangeFuncBox
import Derived.RangeFuncCalls
import Derived.RangeFuncLeaves
import Derived.Shelf.Abstract
import Derived.Shelf.AbstractIn
import Derived.Shelf.RegionOpen
import Derived.OwnWalkIn
import Derived.TacticsInMore
import Derived.LoopNIn
import Derived.LoopIn
namespace Go.Proofs.YthlhbmldfjkagaaDoor
open Go.RowKit Go.Shelf

def slotV (s : Slot4) : Value := .agg #[.int .i64 s.b, .bool s.op, .bool s.vo, .int .i64 s.n]

/-- A function that tells of a slot, whatever lies where: for worlds that keep what lay at a call's beginning. -/
def Asks (f : Nat) (cap : Array Value) (p : Slot4 → Bool) (w0 : World) : Prop :=
  ∀ (s : Slot4) (w : World), Below w0.heap.size w0 w → Calls Tryd.prog f (#[.agg #[.int .i64 s.b, .bool s.op, .bool s.vo, .int .i64 s.n]] ++ cap) w fun e w' => e = .returned (.bool (p s)) ∧ Below w.heap.size w w'

set_option maxHeartbeats 400000 in
theorem key_in (k : Nat) (hk : k < 10) (w : World) : Calls Tryd.prog 39 #[.int .i64 (k : Int)] w fun e w' => e = .returned (.bool true) ∧ w' = w := by
  have h1 : (k : Int) < 10 := by omega
  go_enter Tryd.func39, Tryd.ntmps39
  go_wp2
  go_ret
  exact ⟨by simp, rfl⟩

set_option maxHeartbeats 400000 in
theorem key_out (k : Int) (hk : k < 0 ∨ 10 ≤ k) (w : World) : Calls Tryd.prog 39 #[.int .i64 k] w fun e w' => e = .returned (.bool false) ∧ w' = w := by
  rcases hk with h | h
  · go_enter Tryd.func39, Tryd.ntmps39
    go_wp2
    go_ret
    exact ⟨by simp, rfl⟩
  · have h0 : ¬ k < 0 := by omega
    have h1 : ¬ k < 10 := by omega
    have h2 : 0 ≤ k := by omega
    go_enter Tryd.func39, Tryd.ntmps39
    go_wp2
    go_ret
    exact ⟨by simp, rfl⟩


set_option maxHeartbeats 400000 in
theorem ahead_asks (C : Nat) (b : Int) (w0 : World) (hc : w0.cell? ⟨C, 0, none⟩ = some (.int .i64 b)) : Asks 62 #[.pointer (some ⟨C, 0, none⟩)] (aheadP b) w0 := by
  intro s w hb
  replace hc := cell_later hb hc
  have hC : C < w.heap.size := World.block_lt_of_cell? w _ hc
  obtain ⟨sb, so, sv, sn⟩ := s
  show Calls Tryd.prog 62 #[.agg #[.int .i64 sb, .bool so, .bool sv, .int .i64 sn], .pointer (some ⟨C, 0, none⟩)] w _
  by_cases h : sb < b
  · have h' : Hid (aheadP b ⟨sb, so, sv, sn⟩ = !sv) := by show aheadP _ _ = _; simp [aheadP, h]
    go_enter Tryd.func62, Tryd.ntmps62
    go_wp2
    go_ret
    exact ⟨ret_bool h'.out.symm, (Below.refl _ _).alloc (Nat.le_refl _) _⟩
  · have h' : Hid (aheadP b ⟨sb, so, sv, sn⟩ = false) := by show aheadP _ _ = _; simp [aheadP, h]
    go_enter Tryd.func62, Tryd.ntmps62
    go_wp2
    go_ret
    exact ⟨ret_bool h'.out.symm, (Below.refl _ _).alloc (Nat.le_refl _) _⟩

set_option maxHeartbeats 400000 in
theorem open_asks (C : Nat) (b : Int) (w0 : World) (hc : w0.cell? ⟨C, 0, none⟩ = some (.int .i64 b)) : Asks 80 #[.pointer (some ⟨C, 0, none⟩)] (openP b) w0 := by
  intro s w hb
  replace hc := cell_later hb hc
  have hC : C < w.heap.size := World.block_lt_of_cell? w _ hc
  obtain ⟨sb, so, sv, sn⟩ := s
  show Calls Tryd.prog 80 #[.agg #[.int .i64 sb, .bool so, .bool sv, .int .i64 sn], .pointer (some ⟨C, 0, none⟩)] w _
  cases so
  · have h' : Hid (openP b ⟨sb, false, sv, sn⟩ = false) := by show openP _ _ = _; simp [openP]
    go_enter Tryd.func80, Tryd.ntmps80
    go_wp2
    go_ret
    exact ⟨ret_bool h'.out.symm, (Below.refl _ _).alloc (Nat.le_refl _) _⟩
  · have h' : Hid (openP b ⟨sb, true, sv, sn⟩ = (sb == b)) := by show openP _ _ = _; simp [openP]
    go_enter Tryd.func80, Tryd.ntmps80
    go_wp2
    go_ret
    exact ⟨ret_bool h'.out.symm, (Below.refl _ _).alloc (Nat.le_refl _) _⟩

def stillP (s : Slot4) : Bool := s.op
def knownP (s : Slot4) : Bool := !s.op && !s.vo

set_option maxHeartbeats 400000 in
theorem still_asks (w0 : World) : Asks 63 #[] stillP w0 := by
  intro s w hb
  obtain ⟨sb, so, sv, sn⟩ := s
  show Calls Tryd.prog 63 #[.agg #[.int .i64 sb, .bool so, .bool sv, .int .i64 sn]] w _
  go_enter Tryd.func63, Tryd.ntmps63
  go_wp2
  go_ret
  exact ⟨rfl, (Below.refl _ _).alloc (Nat.le_refl _) _⟩

set_option maxHeartbeats 400000 in
theorem known_asks (w0 : World) : Asks 64 #[] knownP w0 := by
  intro s w hb
  obtain ⟨sb, so, sv, sn⟩ := s
  show Calls Tryd.prog 64 #[.agg #[.int .i64 sb, .bool so, .bool sv, .int .i64 sn]] w _
  cases so
  · go_enter Tryd.func64, Tryd.ntmps64
    go_wp2
    go_ret
    exact ⟨rfl, (Below.refl _ _).alloc (Nat.le_refl _) _⟩
  · go_enter Tryd.func64, Tryd.ntmps64
    go_wp2
    go_ret
    exact ⟨rfl, (Below.refl _ _).alloc (Nat.le_refl _) _⟩

/-- A key's slots, as they lie at a place of a block. -/
structure RowAt (w : World) (B off : Nat) (l : List Slot4) : Prop where
  len : l.length ≤ 9
  many : w.cell? ⟨B, off + 36, none⟩ = some (.int .i64 l.length)
  cell : ∀ i, i < l.length → w.cell? ⟨B, off + i * 4, none⟩ = some (.int .i64 (slotAt l i).b) ∧ w.cell? ⟨B, off + i * 4 + 1, none⟩ = some (.bool (slotAt l i).op) ∧
    w.cell? ⟨B, off + i * 4 + 2, none⟩ = some (.bool (slotAt l i).vo) ∧ w.cell? ⟨B, off + i * 4 + 3, none⟩ = some (.int .i64 (slotAt l i).n)

theorem RowAt.later {w w' : World} {B off : Nat} {l : List Slot4} (h : RowAt w B off l) (hb : Below w.heap.size w w') : RowAt w' B off l :=
  ⟨h.len, cell_later hb h.many, fun i hi => by
    obtain ⟨c0, c1, c2, c3⟩ := h.cell i hi
    exact ⟨cell_later hb c0, cell_later hb c1, cell_later hb c2, cell_later hb c3⟩⟩

set_option maxHeartbeats 400000 in
theorem all_row (B off : Nat) (l : List Slot4) (w : World) (h : RowAt w B off l) :
    Calls Tryd.prog 68 #[.pointer (some ⟨B, off, none⟩)] w fun e w' => e = .returned (.slice (some ⟨B, off, none⟩) l.length 9) ∧ w' = w.drew := by
  have hm := h.many
  have hl := h.len
  have hl' : (l.length : Int) ≤ 9 := by omega
  have hB : B < w.heap.size := World.block_lt_of_cell? w _ hm
  go_enter Tryd.func68, Tryd.ntmps68
  go_wp2_with fail
  go_region
  all_goals go_wp2_with fail
  all_goals go_ret
  all_goals exact ⟨rfl, rfl⟩

set_option maxHeartbeats 400000 in
theorem backward_any (v : Value) (a : Option Addr) (len cap : Nat) (hv : v = .slice a len cap) (w : World) :
    Calls Tryd.prog 79 #[v] w fun e w' => e = .returned (.func (.func 81) #[] #[.pointer (some ⟨w.heap.size, 0, none⟩)]) ∧ w' = w.alloc (.cells #[v] 73) := by
  subst hv
  have hmf : ∀ (fn : Fn) (first cap : Array Value) (w : World), (Instr.makeFunc fn first cap).run Tryd.prog w = .ok (.func fn first cap) w := fun _ _ _ _ => rfl
  go_enter Tryd.func79, Tryd.ntmps79
  go_wp2
  go_ret
  exact ⟨rfl, rfl⟩
end Go.Proofs.YthlhbmldfjkagaaDoor
