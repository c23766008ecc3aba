/-
  The walks of code.Keys and of a row's add.
-/
import Derived.Test.YthlhbmldfjkagaaDoorTabE
namespace Go.Proofs.YthlhbmldfjkagaaDoor
open Go.RowKit Go.Shelf

/-- All cells of a table. -/
def Room (w : World) (B : Nat) : Prop := ∀ o, o < 370 → (w.cell? ⟨B, o, none⟩).isSome
theorem Room.later {w w' : World} {B : Nat} (h : Room w B) (hb : Below w.heap.size w w') : Room w' B := fun o ho => by
  obtain ⟨v, hv⟩ := Option.isSome_iff_exists.1 (h o ho)
  rw [cell_later hb hv]; rfl
theorem Room.set {w : World} {B : Nat} (h : Room w B) (m : Nat) (u : Value) : Room (w.setCell ⟨B, m, none⟩ u) B := fun o ho => by
  by_cases e : o = m
  · subst e; rw [World.cell?_setCell_same' _ _ _ (h o ho)]; rfl
  · rw [World.cell?_setCell_other _ _ _ _ (fun h => by simp only [Addr.mk.injEq] at h; omega)]; exact h o ho
theorem Room.put {w : World} {B : Nat} (h : Room w B) (m : Nat) (x : Slot4) : Room (put4 w B m x) B := (((h.set _ _).set _ _).set _ _).set _ _

theorem slotAt_append (l : List Slot4) (x : Slot4) (j : Nat) (hj : j < l.length + 1) : slotAt (l ++ [x]) j = if j = l.length then x else slotAt l j := by
  unfold slotAt
  by_cases e : j = l.length
  · subst e; simp
  · rw [if_neg e, List.getElem?_append_left (by omega)]

theorem RowAt.add {w : World} {B off : Nat} {l : List Slot4} (h : RowAt w B off l) (hl : l.length < 9) (hr : ∀ o, o < 37 → (w.cell? ⟨B, off + o, none⟩).isSome) (x : Slot4) :
    RowAt ((put4 w B (off + l.length * 4) x).setCell ⟨B, off + 36, none⟩ (.int .i64 ((l.length : Int) + 1))) B off (l ++ [x]) := by
  have hlen : (l ++ [x]).length = l.length + 1 := by simp
  refine ⟨by omega, ?_, fun j hj => ?_⟩
  · rw [World.cell?_setCell_same' _ _ _ (by rw [put4_other _ _ _ _ _ (by omega), h.many]; rfl), hlen]; simp
  · rw [hlen] at hj
    rw [World.cell?_setCell_other _ _ _ _ (fun h => by simp only [Addr.mk.injEq] at h; omega), World.cell?_setCell_other _ _ _ _ (fun h => by simp only [Addr.mk.injEq] at h; omega),
      World.cell?_setCell_other _ _ _ _ (fun h => by simp only [Addr.mk.injEq] at h; omega), World.cell?_setCell_other _ _ _ _ (fun h => by simp only [Addr.mk.injEq] at h; omega)]
    rw [slotAt_append _ _ _ hj]
    by_cases e : j = l.length
    · subst e
      rw [if_pos rfl]
      exact put4_same _ _ _ _ (hr _ (by omega)) (by rw [Nat.add_assoc]; exact hr _ (by omega)) (by rw [Nat.add_assoc]; exact hr _ (by omega)) (by rw [Nat.add_assoc]; exact hr _ (by omega))
    · rw [if_neg e, put4_other _ _ _ _ _ (by omega), put4_other _ _ _ _ _ (by omega), put4_other _ _ _ _ _ (by omega), put4_other _ _ _ _ _ (by omega)]
      exact h.cell j (by omega)
theorem RowAt.far' {w : World} {B off : Nat} {l : List Slot4} (h : RowAt w B off l) {o : Nat} (ho : o < off ∨ off + 37 ≤ o) (u : Value) : RowAt (w.setCell ⟨B, o, none⟩ u) B off l := by
  have hl := h.len
  refine ⟨h.len, by rw [World.cell?_setCell_other _ _ _ _ (fun h => by simp only [Addr.mk.injEq] at h; omega)]; exact h.many, fun j hj => ?_⟩
  rw [World.cell?_setCell_other _ _ _ _ (fun h => by simp only [Addr.mk.injEq] at h; omega), World.cell?_setCell_other _ _ _ _ (fun h => by simp only [Addr.mk.injEq] at h; omega),
    World.cell?_setCell_other _ _ _ _ (fun h => by simp only [Addr.mk.injEq] at h; omega), World.cell?_setCell_other _ _ _ _ (fun h => by simp only [Addr.mk.injEq] at h; omega)]
  exact h.cell j hj
theorem RowAt.drew {w : World} {B off : Nat} {l : List Slot4} (h : RowAt w B off l) : RowAt w.drew B off l := ⟨h.len, h.many, h.cell⟩

theorem Room.drew {w : World} {B : Nat} (h : Room w B) : Room w.drew B := h
theorem grown_drew (w : World) (row : Option Nat) : w.grownBy w.drew row := ⟨rfl, rfl, rfl, Nat.le_refl _, fun _ _ _ => rfl⟩
theorem TabAt.drew {w : World} {B : Nat} {T : Nat → List Slot4} (h : TabAt w B T) : TabAt w.drew B T := ⟨fun k hk => (h.row k hk).drew, h.free⟩
theorem TabAt.add {w : World} {B : Nat} {T : Nat → List Slot4} (h : TabAt w B T) (hr : Room w B) {k : Nat} (hk : k < 10) (hl : (T k).length < 9) (x : Slot4) :
    TabAt ((put4 w B (k * 37 + (T k).length * 4) x).setCell ⟨B, k * 37 + 36, none⟩ (.int .i64 (((T k).length : Int) + 1))) B (putT T k (T k ++ [x])) := by
  refine ⟨fun j hj => ?_, fun o => by rw [World.frozen?_setCell, put4_frozen]; exact h.free o⟩
  unfold putT
  by_cases e : j = k
  · subst e; rw [if_pos rfl]; exact (h.row j hj).add hl (fun o ho => hr _ (by omega)) x
  · rw [if_neg e]; exact ((h.row j hj).far (by omega) x).far' (by omega) _

set_option maxHeartbeats 1000000 in
theorem add_tab (B k : Nat) (hk : k < 10) (T : Nat → List Slot4) (x : Slot4) (w : World) (h : TabAt w B T) (hr : Room w B) (hl : (T k).length < 9) :
    Calls Tryd.prog 60 #[.pointer (some ⟨B, k * 37, none⟩), .agg #[.int .i64 x.b, .bool x.op, .bool x.vo, .int .i64 x.n]] w fun e w' => (∃ v, e = .returned v) ∧ TabAt w' B (putT T k (T k ++ [x])) ∧ Room w' B ∧ w.grownBy w' (some B) := by
  have hB : B < w.heap.size := h.lt
  have hB0 : Below w.heap.size w (w.alloc (.cells #[.int .i64 x.b, .bool x.op, .bool x.vo, .int .i64 x.n] 103)) := (Below.refl _ _).alloc (Nat.le_refl _) _
  have p1 : ((T k).length : Int) < 9 := by omega
  have h0 := h.later hB0
  have hr0 := hr.later hB0
  have hadd : Hid _ := h0.add hr0 hk hl x
  have hroom : Hid _ := ((hr0.put (k * 37 + (T k).length * 4) x)).set (k * 37 + 36) (.int .i64 (((T k).length : Int) + 1))
  have hgr : Hid _ := grown_trans (grown_trans (below_grown hB0 (some B)) (put4_grown _ B (k * 37 + (T k).length * 4) x)) (grown_setCell _ ⟨B, k * 37 + 36, none⟩ (.int .i64 (((T k).length : Int) + 1)))
  go_enter Tryd.func60, Tryd.ntmps60
  go_wp2_with fail
  obtain ⟨W0, e0⟩ : ∃ W0, W0 = w.alloc (.cells #[.int .i64 x.b, .bool x.op, .bool x.vo, .int .i64 x.n] 103) := ⟨_, rfl⟩
  have q0 : W0.cell? ⟨w.heap.size, 0, none⟩ = some (.int .i64 x.b) := by rw [e0]; go_simp
  have q1 : W0.cell? ⟨w.heap.size, 1, none⟩ = some (.bool x.op) := by rw [e0]; go_simp
  have q2 : W0.cell? ⟨w.heap.size, 2, none⟩ = some (.bool x.vo) := by rw [e0]; go_simp
  have q3 : W0.cell? ⟨w.heap.size, 3, none⟩ = some (.int .i64 x.n) := by rw [e0]; go_simp
  rw [← e0] at h0 hr0 hB0 hadd hroom hgr ⊢
  simp only [put4] at hadd hroom hgr
  clear e0
  have hm := (h0.row k hk).many
  obtain ⟨v0, c0⟩ := Option.isSome_iff_exists.1 (hr0 (k * 37 + (T k).length * 4) (by omega))
  obtain ⟨v1, c1⟩ := Option.isSome_iff_exists.1 (hr0 (k * 37 + (T k).length * 4 + 1) (by omega))
  obtain ⟨v2, c2⟩ := Option.isSome_iff_exists.1 (hr0 (k * 37 + (T k).length * 4 + 2) (by omega))
  obtain ⟨v3, c3⟩ := Option.isSome_iff_exists.1 (hr0 (k * 37 + (T k).length * 4 + 3) (by omega))
  have hfr := h0.free
  have hz : ¬ B = w.heap.size := by omega
  clear hB0 h hr h0 hr0
  go_region
  all_goals go_wp2_with fail
  all_goals go_end0
  all_goals exact ⟨⟨_, rfl⟩, hadd.out.drew, Room.drew hroom.out, grown_trans hgr.out (grown_drew _ _)⟩
end Go.Proofs.YthlhbmldfjkagaaDoor
