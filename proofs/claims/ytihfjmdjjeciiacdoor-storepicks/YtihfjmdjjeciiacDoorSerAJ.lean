/-
  The walks of serial.Arith and of a runner's step.
-/
import Derived.Test.YtihfjmdjjeciiacDoorJqWa
namespace Go.Proofs.YtihfjmdjjeciiacDoor
open Go.RowKit

set_option maxHeartbeats 400000 in
theorem arith_any (k a b : Int) (w : World) :
    Calls Tryd.prog 86 #[.int .i64 k, .int .i64 a, .int .i64 b] w fun e w' => e = .returned (.int .i64 (arithF k a b)) ∧ w' = w := by
  by_cases h3 : k = 3
  · have hF : Hid (wrap64 (a + b) = arithF k a b) := by unfold arithF; rw [if_pos h3]; rfl
    go_enter Tryd.func86, Tryd.ntmps86
    go_wp2
    go_ret
    exact ⟨ret_int hF.out, rfl⟩
  by_cases h4 : k = 4
  · have hF : Hid (wrap64 (a - b) = arithF k a b) := by unfold arithF; rw [if_neg h3, if_pos h4]; rfl
    go_enter Tryd.func86, Tryd.ntmps86
    go_wp2
    go_ret
    exact ⟨ret_int hF.out, rfl⟩
  by_cases h5 : k = 5
  · have hF : Hid (wrap64 (a * b) = arithF k a b) := by unfold arithF; rw [if_neg h3, if_neg h4, if_pos h5]; rfl
    go_enter Tryd.func86, Tryd.ntmps86
    go_wp2
    go_ret
    exact ⟨ret_int hF.out, rfl⟩
  by_cases h6 : k = 6
  · subst h6
    by_cases hl : a < b
    · have hF : Hid (1 = arithF 6 a b) := by unfold arithF; rw [if_neg h3, if_neg h4, if_neg h5, if_pos ⟨rfl, hl⟩]; rfl
      go_enter Tryd.func86, Tryd.ntmps86
      go_wp2
      go_ret
      exact ⟨ret_int hF.out, rfl⟩
    · have hF : Hid (0 = arithF 6 a b) := by unfold arithF; rw [if_neg h3, if_neg h4, if_neg h5, if_neg (by omega)]; rfl
      go_enter Tryd.func86, Tryd.ntmps86
      go_wp2
      go_ret
      exact ⟨ret_int hF.out, rfl⟩
  · have hF : Hid (0 = arithF k a b) := by unfold arithF; rw [if_neg h3, if_neg h4, if_neg h5, if_neg (by omega)]; rfl
    go_enter Tryd.func86, Tryd.ntmps86
    go_wp2
    go_ret
    exact ⟨ret_int hF.out, rfl⟩

/-- A runner as it lies in memory: four registers, ten keys, the place of the next operation. -/
structure RunAt (w : World) (R : Nat) (r : Run) : Prop where
  reg : ∀ i, i < 4 → w.cell? ⟨R, i, none⟩ = some (.int .i64 (r.regs i))
  key : ∀ i, i < 10 → w.cell? ⟨R, 4 + i, none⟩ = some (.int .i64 (r.st i))
  place : w.cell? ⟨R, 14, none⟩ = some (.int .i64 r.next)
  free : ∀ o, w.frozen? ⟨R, o, none⟩ = false

theorem RunAt.alloc {w : World} {R : Nat} {r : Run} (h : RunAt w R r) (o : Obj) : RunAt (w.alloc o) R r := by
  have hR : R < w.heap.size := World.block_lt_of_cell? w _ h.place
  have hb : Below w.heap.size w (w.alloc o) := (Below.refl _ _).alloc (Nat.le_refl _) _
  exact ⟨fun i hi => cell_later hb (h.reg i hi), fun i hi => cell_later hb (h.key i hi), cell_later hb h.place, fun o => by rw [hb.frozen (p := ⟨R, o, none⟩) hR]; exact h.free o⟩
theorem RunAt.drew {w : World} {R : Nat} {r : Run} (h : RunAt w R r) : RunAt w.drew R r :=
  ⟨fun i hi => by simpa using h.reg i hi, fun i hi => by simpa using h.key i hi, by simpa using h.place, fun o => by simpa using h.free o⟩
theorem RunAt.lt {w : World} {R : Nat} {r : Run} (h : RunAt w R r) : R < w.heap.size := World.block_lt_of_cell? w _ h.place

theorem RunAt.setReg {w : World} {R : Nat} {r : Run} (h : RunAt w R r) {m : Nat} (hm : m < 4) (n : Int) : RunAt (w.setCell ⟨R, m, none⟩ (.int .i64 n)) R ⟨putAt r.regs m n, r.st, r.next⟩ := by
  refine ⟨fun i hi => ?_, fun i hi => ?_, ?_, fun o => ?_⟩
  · by_cases e : i = m
    · subst e; rw [World.cell?_setCell_same _ _ _ (h.reg i hi)]; simp [putAt]
    · rw [World.cell?_setCell_other _ _ _ _ (fun h => by simp only [Addr.mk.injEq] at h; omega), h.reg i hi]; simp [putAt, e]
  · rw [World.cell?_setCell_other _ _ _ _ (fun h => by simp only [Addr.mk.injEq] at h; omega), h.key i hi]
  · rw [World.cell?_setCell_other _ _ _ _ (fun h => by simp only [Addr.mk.injEq] at h; omega), h.place]
  · rw [World.frozen?_setCell]; exact h.free o
theorem RunAt.setKey {w : World} {R : Nat} {r : Run} (h : RunAt w R r) {m : Nat} (hm : m < 10) (n : Int) : RunAt (w.setCell ⟨R, 4 + m, none⟩ (.int .i64 n)) R ⟨r.regs, putAt r.st m n, r.next⟩ := by
  refine ⟨fun i hi => ?_, fun i hi => ?_, ?_, fun o => ?_⟩
  · rw [World.cell?_setCell_other _ _ _ _ (fun h => by simp only [Addr.mk.injEq] at h; omega), h.reg i hi]
  · by_cases e : i = m
    · subst e; rw [World.cell?_setCell_same _ _ _ (h.key i hi)]; simp [putAt]
    · rw [World.cell?_setCell_other _ _ _ _ (fun h => by simp only [Addr.mk.injEq] at h; omega), h.key i hi]; simp [putAt, e]
  · rw [World.cell?_setCell_other _ _ _ _ (fun h => by simp only [Addr.mk.injEq] at h; omega), h.place]
  · rw [World.frozen?_setCell]; exact h.free o
theorem RunAt.setNext {w : World} {R : Nat} {r : Run} (h : RunAt w R r) (n : Nat) : RunAt (w.setCell ⟨R, 14, none⟩ (.int .i64 n)) R ⟨r.regs, r.st, n⟩ := by
  refine ⟨fun i hi => ?_, fun i hi => ?_, ?_, fun o => ?_⟩
  · rw [World.cell?_setCell_other _ _ _ _ (fun h => by simp only [Addr.mk.injEq] at h; omega), h.reg i hi]
  · rw [World.cell?_setCell_other _ _ _ _ (fun h => by simp only [Addr.mk.injEq] at h; omega), h.key i hi]
  · rw [World.cell?_setCell_same _ _ _ h.place]
  · rw [World.frozen?_setCell]; exact h.free o

end Go.Proofs.YtihfjmdjjeciiacDoor
