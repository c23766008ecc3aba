/-
  The walk of the reference's Reckon; the variables of its Do.
-/
import Derived.Test.YthlhbmldfjkagaaDoorWalkT
namespace Go.Proofs.YthlhbmldfjkagaaDoor
open Go.RowKit

set_option maxHeartbeats 400000 in
theorem reckon_any (k a b : Int) (w : World) :
    Calls Tryd.prog 20 #[.int .i64 k, .int .i64 a, .int .i64 b] w fun e w' => e = .returned (.int .i64 (arithF k a b)) ∧ w' = w := by
  by_cases h3 : k = 3
  · have hF : Hid (wrap64 (a + b) = arithF k a b) := by unfold arithF; rw [if_pos h3]; rfl
    go_enter Tryd.func20, Tryd.ntmps20
    go_wp2
    go_ret
    exact ⟨ret_int hF.out, rfl⟩
  by_cases h4 : k = 4
  · have hF : Hid (wrap64 (a - b) = arithF k a b) := by unfold arithF; rw [if_neg h3, if_pos h4]; rfl
    go_enter Tryd.func20, Tryd.ntmps20
    go_wp2
    go_ret
    exact ⟨ret_int hF.out, rfl⟩
  by_cases h5 : k = 5
  · have hF : Hid (wrap64 (a * b) = arithF k a b) := by unfold arithF; rw [if_neg h3, if_neg h4, if_pos h5]; rfl
    go_enter Tryd.func20, Tryd.ntmps20
    go_wp2
    go_ret
    exact ⟨ret_int hF.out, rfl⟩
  by_cases h6 : k = 6
  · subst h6
    by_cases hl : a < b
    · have hF : Hid (1 = arithF 6 a b) := by unfold arithF; rw [if_neg h3, if_neg h4, if_neg h5, if_pos ⟨rfl, hl⟩]; rfl
      go_enter Tryd.func20, Tryd.ntmps20
      go_wp2
      go_ret
      exact ⟨ret_int hF.out, rfl⟩
    · have hF : Hid (0 = arithF 6 a b) := by unfold arithF; rw [if_neg h3, if_neg h4, if_neg h5, if_neg (by omega)]; rfl
      go_enter Tryd.func20, Tryd.ntmps20
      go_wp2
      go_ret
      exact ⟨ret_int hF.out, rfl⟩
  · have hF : Hid (0 = arithF k a b) := by unfold arithF; rw [if_neg h3, if_neg h4, if_neg h5, if_neg (by omega)]; rfl
    go_enter Tryd.func20, Tryd.ntmps20
    go_wp2
    go_ret
    exact ⟨ret_int hF.out, rfl⟩

/-- The variables of the reference's Do: the state, its two results, the state as it came in, the registers. -/
structure DoAt (w : World) (B : Nat) (s regs st : Nat → Int) : Prop where
  key : Box w B st
  one : Box w (B + 1) (fun _ => 0)
  two : ∀ i, i < 5 → w.cell? ⟨B + 1 + 1, i, none⟩ = some (.int .i64 0)
  was : Box w (B + 1 + 1 + 1) s
  reg : ∀ i, i < 4 → w.cell? ⟨B + 1 + 1 + 1 + 1, i, none⟩ = some (.int .i64 (regs i))
  free : ∀ b, b < 5 → ∀ o, w.frozen? ⟨B + b, o, none⟩ = false

theorem DoAt.lt {w : World} {B : Nat} {s regs st : Nat → Int} (h : DoAt w B s regs st) : B + 1 + 1 + 1 + 1 < w.heap.size := World.block_lt_of_cell? w _ (h.reg 0 (by omega))
theorem DoAt.later {w w' : World} {B : Nat} {s regs st : Nat → Int} (h : DoAt w B s regs st) (hb : Below w.heap.size w w') : DoAt w' B s regs st :=
  ⟨h.key.later hb, h.one.later hb, fun i hi => cell_later hb (h.two i hi), h.was.later hb, fun i hi => cell_later hb (h.reg i hi), fun b hb5 o => by rw [hb.frozen (p := ⟨B + b, o, none⟩) (by have := h.lt; simp; omega)]; exact h.free b hb5 o⟩
theorem DoAt.setReg {w : World} {B : Nat} {s regs st : Nat → Int} (h : DoAt w B s regs st) {m : Nat} (_hm : m < 4) (n : Int) : DoAt (w.setCell ⟨B + 1 + 1 + 1 + 1, m, none⟩ (.int .i64 n)) B s (putAt regs m n) st :=
  ⟨h.key.apart (by omega) _ _, h.one.apart (by omega) _ _, fun i hi => by rw [World.cell?_setCell_other _ _ _ _ (fun h => by simp only [Addr.mk.injEq] at h; omega)]; exact h.two i hi, h.was.apart (by omega) _ _, fun i hi => by
    by_cases e : i = m
    · subst e; rw [World.cell?_setCell_same _ _ _ (h.reg i hi)]; simp [putAt]
    · rw [World.cell?_setCell_other _ _ _ _ (fun h => by simp only [Addr.mk.injEq] at h; omega), h.reg i hi]; simp [putAt, e], fun b hb o => by rw [World.frozen?_setCell]; exact h.free b hb o⟩
theorem DoAt.setKey {w : World} {B : Nat} {s regs st : Nat → Int} (h : DoAt w B s regs st) {m : Nat} (hm : m < 10) (n : Int) : DoAt (w.setCell ⟨B, m, none⟩ (.int .i64 n)) B s regs (putAt st m n) :=
  ⟨h.key.set hm n, h.one.apart (by omega) _ _, fun i hi => by rw [World.cell?_setCell_other _ _ _ _ (fun h => by simp only [Addr.mk.injEq] at h; omega)]; exact h.two i hi, h.was.apart (by omega) _ _, fun i hi => by
    rw [World.cell?_setCell_other _ _ _ _ (fun h => by simp only [Addr.mk.injEq] at h; omega)]; exact h.reg i hi, fun b hb o => by rw [World.frozen?_setCell]; exact h.free b hb o⟩
theorem DoAt.drew {w : World} {B : Nat} {s regs st : Nat → Int} (h : DoAt w B s regs st) : DoAt w.drew B s regs st := ⟨h.key, h.one, h.two, h.was, h.reg, h.free⟩

theorem stepF_num {o : Op5} {r : Run} (h : o.k = 1) : stepF o r = ⟨putAt r.regs o.a.toNat o.n, r.st, r.next + 1⟩ := by unfold stepF; rw [if_pos h]
theorem stepF_load {o : Op5} {r : Run} (h : o.k = 2) : stepF o r = ⟨putAt r.regs o.a.toNat (r.st o.b.toNat), r.st, r.next + 1⟩ := by unfold stepF; rw [if_neg (by omega), if_pos h]
theorem stepF_store {o : Op5} {r : Run} (h : o.k = 7) : stepF o r = ⟨r.regs, putAt r.st o.a.toNat (r.regs o.b.toNat), r.next + 1⟩ := by unfold stepF; rw [if_neg (by omega), if_neg (by omega), if_pos h]
theorem stepF_stop {o : Op5} {r : Run} (h : o.k = 8) : stepF o r = ⟨r.regs, r.st, r.next + 1⟩ := by unfold stepF; rw [if_neg (by omega), if_neg (by omega), if_neg (by omega), if_neg (by omega), if_neg (by omega)]
theorem stepF_skip {o : Op5} {r : Run} (h : o.k = 9) : stepF o r = ⟨r.regs, r.st, if r.regs o.a.toNat = 0 then r.next + 1 + o.b.toNat else r.next + 1⟩ := by unfold stepF; rw [if_neg (by omega), if_neg (by omega), if_neg (by omega), if_pos h]
theorem stepF_arith {o : Op5} {r : Run} (h : o.k = 3 ∨ o.k = 4 ∨ o.k = 5 ∨ o.k = 6) : stepF o r = ⟨putAt r.regs o.a.toNat (arithF o.k (r.regs o.b.toNat) (r.regs o.c.toNat)), r.st, r.next + 1⟩ := by unfold stepF; rw [if_neg (by omega), if_neg (by omega), if_neg (by omega), if_neg (by omega), if_pos h]
end Go.Proofs.YthlhbmldfjkagaaDoor
