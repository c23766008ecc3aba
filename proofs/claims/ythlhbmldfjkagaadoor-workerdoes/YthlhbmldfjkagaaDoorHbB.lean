/-
  The walks of the reference's Board.change, Set and Void.
-/
import Derived.Test.YthlhbmldfjkagaaDoorHbA
import Derived.Laws.OwnMore
namespace Go.Proofs.YthlhbmldfjkagaaDoor
open Go.RowKit Go.Shelf

def four (x : Slot4) : List Value := [.int .i64 x.b, .bool x.op, .bool x.vo, .int .i64 x.n]
theorem slotCells_set (l : List Slot4) (i : Nat) (x : Slot4) (h : i < l.length) : slotCells (l.set i x) = ((((slotCells l).set (i * 4) (.int .i64 x.b)).set (i * 4 + 1) (.bool x.op)).set (i * 4 + 2) (.bool x.vo)).set (i * 4 + 3) (.int .i64 x.n) := by
  induction l generalizing i with
  | nil => simp at h
  | cons s r ih =>
    cases i with
    | zero => rfl
    | succ i =>
      have := ih i (by simpa using h)
      rw [List.set_cons_succ]
      show slotCells (s :: r.set i x) = _
      simp only [slotCells]
      rw [this, show (i + 1) * 4 = i * 4 + 4 by omega]
      rfl
def put4r (w : World) (g a : Nat) (x : Slot4) : World := (((w.setCell ⟨g, a, none⟩ (.int .i64 x.b)).setCell ⟨g, a + 1, none⟩ (.bool x.op)).setCell ⟨g, a + 2, none⟩ (.bool x.vo)).setCell ⟨g, a + 3, none⟩ (.int .i64 x.n)
theorem put4r_grown (w : World) (g a : Nat) (x : Slot4) : w.grownBy (put4r w g a x) (some g) :=
  grown_trans (grown_trans (grown_trans (grown_setCell w ⟨g, a, none⟩ _) (grown_setCell _ ⟨g, a + 1, none⟩ _)) (grown_setCell _ ⟨g, a + 2, none⟩ _)) (grown_setCell _ ⟨g, a + 3, none⟩ _)
theorem put4r_owns {w : World} {base g n cap a : Nat} {e : TypeId} {size : Nat} {xs : List Value} (h : w.ownsRow base e size (.slice (some ⟨g, 0, none⟩) n cap) n xs) (x : Slot4) : (put4r w g a x).ownsRow base e size (.slice (some ⟨g, 0, none⟩) n cap) n ((((xs.set a (.int .i64 x.b)).set (a + 1) (.bool x.op)).set (a + 2) (.bool x.vo)).set (a + 3) (.int .i64 x.n)) := by
  have h1 := (h.stored a (.int .i64 x.b)).1
  have h2 := (h1.stored (a + 1) (.bool x.op)).1
  have h3 := (h2.stored (a + 2) (.bool x.vo)).1
  exact (h3.stored (a + 3) (.int .i64 x.n)).1
/-- A slot of a board is put. -/
theorem BoardAt.put {w : World} {N D : Nat} {T : Nat → List Slot4} {V : Nat → Value} (h : BoardAt w N D T V) {k i g cap : Nat} (hk : k < 10) (hi : i < (T k).length) (hv : V k = .slice (some ⟨g, 0, none⟩) (T k).length cap) (x : Slot4) : BoardAt (put4r w g (i * 4) x) N D (putT T k ((T k).set i x)) V := by
  have hg := put4r_grown w g (i * 4) x
  have HO : ∀ base e size n xs, w.ownsRow base e size (.slice (some ⟨g, 0, none⟩) n cap) n xs → (put4r w g (i * 4) x).ownsRow base e size (.slice (some ⟨g, 0, none⟩) n cap) n ((((xs.set (i * 4) (.int .i64 x.b)).set (i * 4 + 1) (.bool x.op)).set (i * 4 + 2) (.bool x.vo)).set (i * 4 + 3) (.int .i64 x.n)) := fun _ _ _ _ _ h => put4r_owns h x
  generalize put4r w g (i * 4) x = W at *
  have hgD : g ≠ D := (h.apart k hk g (by rw [hv]; rfl)).1
  have hD : W.heap[D]? = w.heap[D]? := hg.block D h.lt (fun e => hgD (by cases e; rfl))
  refine ⟨fun j hj => by rw [World.cell?_of_block (w := w) hD]; exact h.cell j hj, fun j hj => ?_, h.apart, fun o => (World.frozen?_of_block hD).trans (h.free o)⟩
  by_cases e : j = k
  · subst e
    have ho := h.own j hj
    rw [hv] at ho ⊢
    unfold putT
    rw [if_pos rfl, List.length_set, slotCells_set _ _ _ hi]
    exact HO _ _ _ _ _ ho
  · unfold putT
    rw [if_neg e]
    refine owns_kept (h.own j hj) fun g' hg' => hg.block g' (owns_lt (h.own j hj) hg').2 (fun e' => e ?_)
    cases e'
    exact (h.apart k hk g (by rw [hv]; rfl)).2 j hj hg'

/-- The blocks that a change of a board may change. -/
def boardS (V : Nat → Value) : Nat → Prop := fun b => ∃ k, k < 10 ∧ (V k).ownBlock = some b

theorem settle_first {l : List Slot4} (hl : Fine l) {x : Slot4} {i : Nat} (hi : i < l.length) (h : openP x.b (slotAt l i) = true) : settleF l x = l.set i x := by
  unfold settleF
  have : lastF (openP x.b) l = some i := by
    rw [lastF_some]
    refine ⟨hi, h, fun j hij hj => ?_⟩
    have hr := hl.rise i j hij hj
    unfold openP at h ⊢
    simp at h
    simp
    intro _
    omega
  rw [this]

set_option maxRecDepth 100000 in
set_option maxHeartbeats 1000000 in
theorem changeB_any (N D k : Nat) (hk : k < 10) (x : Slot4) (T : Nat → List Slot4) (V : Nat → Value) (w : World) (h : BoardAt w N D T V) (h9 : (T k).length ≤ 9) (hf : Fine (T k)) :
    Calls Tryd.prog 66 #[.pointer (some ⟨D, 0, none⟩), .int .i64 (k : Int), .int .i64 x.b, .agg #[.int .i64 x.b, .bool x.op, .bool x.vo, .int .i64 x.n]] w fun e w' => (∃ t, e = .returned (.bool t)) ∧ BoardAt w' N D (settleT T (k : Int) x) V ∧ Grew (boardS V) w w' := by
  have hki : (k : Int) < 10 := by omega
  have hST : Hid (settleT T (k : Int) x = putT T k (settleF (T k) x)) := by show _ = _; unfold settleT; rw [if_pos ⟨by omega, by omega⟩, Int.toNat_natCast]
  have hB0 : Below w.heap.size w (w.alloc (.cells #[.int .i64 x.b, .bool x.op, .bool x.vo, .int .i64 x.n] 103)) := (Below.refl _ _).alloc (Nat.le_refl _) _
  have h0 := h.later hB0
  obtain ⟨W0, e0⟩ : ∃ W0, W0 = w.alloc (.cells #[.int .i64 x.b, .bool x.op, .bool x.vo, .int .i64 x.n] 103) := ⟨_, rfl⟩
  have x0 : W0.cell? ⟨w.heap.size, 0, none⟩ = some (.int .i64 x.b) := by rw [e0]; go_simp
  have x1 : W0.cell? ⟨w.heap.size, 1, none⟩ = some (.bool x.op) := by rw [e0]; go_simp
  have x2 : W0.cell? ⟨w.heap.size, 2, none⟩ = some (.bool x.vo) := by rw [e0]; go_simp
  have x3 : W0.cell? ⟨w.heap.size, 3, none⟩ = some (.int .i64 x.n) := by rw [e0]; go_simp
  go_enter Tryd.func66, Tryd.ntmps66
  go_wp2_with (go_at_call 29; refine (isKeyB k hk _).mono ?_; rintro e w1 ⟨rfl, hw1⟩; rw [hw1]; clear hw1)
  rw [← e0] at h0 hB0 ⊢
  clear e0
  have c := h0.cell k hk
  obtain ⟨a, cap, ev, hs⟩ := h0.slots hk
  have HV : Hid (V k = .slice a (T k).length cap) := ev
  rw [ev] at c
  have H0 : Hid (BoardAt W0 N D T V) := h0
  have HG : Hid (Grew (boardS V) w W0) := Grew.of_below hB0
  have HF : Hid (Fine (T k)) := hf
  obtain ⟨L, eL'⟩ : ∃ L, L = T k := ⟨_, rfl⟩
  rw [← eL'] at c hs h9
  have eL : Hid (L = T k) := eL'
  have hfr : Hid (∀ g, a = some ⟨g, 0, none⟩ → ∀ o, W0.frozen? ⟨g, o, none⟩ = false) := fun g e o => by
    have ho := h0.own k hk
    rw [ev, e] at ho
    exact ho.frozenAt o
  have hz0 : Hid (0 < L.length → ∃ g, a = some ⟨g, 0, none⟩) := fun hl => by
    obtain ⟨g, cap', e, -⟩ := owns_cells (h0.own k hk) (by rw [← eL']; exact hl)
    rw [ev] at e; cases e; exact ⟨g, rfl⟩
  clear eL' ev h0 h hB0 hf
  go_wp2_with fail
  go_loopg [9] L.length (fun g i wr => ∃ j : Nat, j ≤ L.length ∧ g = L.length - j ∧ i = .int .i64 j ∧ Hid (∀ q, q < j → openP x.b (slotAt L q) = false) ∧ wr = W0)
  case atStart => exact ⟨0, by omega, by omega, rfl, fun q hq => by omega, rfl⟩
  case round =>
    obtain ⟨j, hj, hg, rfl, hM, rfl⟩ := hrel
    by_cases hlt : j < L.length
    · obtain ⟨gg, rfl⟩ := hz0.out (by omega)
      obtain ⟨sb, off, e1, d0, d1, d2, d3⟩ := hs j hlt
      cases e1
      have hji : (j : Int) < (L.length : Int) := by omega
      have hop : Hid (openP x.b (slotAt L j) = ((slotAt L j).op && ((slotAt L j).b == x.b))) := rfl
      have hne : Hid (openP x.b (slotAt L j) = false → ∀ q, q < j + 1 → openP x.b (slotAt L q) = false) := fun he q hq => by
        by_cases e : q = j
        · rw [e]; exact he
        · exact hM.out q (by omega)
      by_cases hb : (slotAt L j).b = x.b
      · have tb : ((slotAt L j).b == x.b) = true := by simp [hb]
        cases ho : (slotAt L j).op with
        | true =>
          rw [ho] at d1
          have hset : Hid (settleF L x = L.set j x) := settle_first (by rw [eL.out]; exact HF.out) hlt (by rw [hop.out, ho, tb]; rfl)
          have fz := hfr.out gg rfl
          have hput : Hid (BoardAt (put4r wr gg (j * 4) x) N D (settleT T (k : Int) x) V ∧ Grew (boardS V) w (put4r wr gg (j * 4) x)) := by
            have h1 := H0.out.put (i := j) hk (by rw [← eL.out]; exact hlt) HV.out x
            rw [hST.out, ← eL.out, hset.out]
            rw [← eL.out] at h1
            exact ⟨h1, HG.out.trans (Grew.of_grown (put4r_grown wr gg (j * 4) x) ⟨k, hk, by rw [HV.out]; rfl⟩)⟩
          simp only [Nat.zero_add] at d0 d1 d2 d3
          clear hs hb ho hM hne hop hset
          go_wp2_with fail
          go_region
          all_goals go_wp2_with fail
          all_goals go_ret
          all_goals exact ⟨⟨_, rfl⟩, by have := hput.out.1; unfold put4r at this; exact this.later (Below.refl _ _).drew, by have := hput.out.2; unfold put4r at this; exact this.drew⟩
        | false =>
          rw [ho] at d1
          have hM' : Hid _ := hne.out (by rw [hop.out, ho]; rfl)
          simp only [Nat.zero_add] at d0 d1 d2 d3
          clear hs hM hne hop ho
          go_wp2_with fail
          go_roundg (L.length - (j + 1))
          case measure => omega
          case rel => exact ⟨j + 1, by omega, rfl, by go_num, hM', rfl⟩
      · have tb : ((slotAt L j).b == x.b) = false := by simp [hb]
        have hM' : Hid _ := hne.out (by rw [hop.out, tb]; simp)
        simp only [Nat.zero_add] at d0 d1 d2 d3
        clear hs hM hne hop hb
        go_wp2_with fail
        go_roundg (L.length - (j + 1))
        case measure => omega
        case rel => exact ⟨j + 1, by omega, rfl, by go_num, hM', rfl⟩
    · obtain rfl : j = L.length := by omega
      have hnone : Hid (settleT T (k : Int) x = T) := by
        show _ = _
        apply settleT_none
        unfold toldT
        rw [if_pos ⟨by omega, by omega⟩, Int.toNat_natCast, ← eL.out, toldF_false]
        exact hM.out
      clear hs hM
      go_wp2_with fail
      go_ret
      exact ⟨⟨_, rfl⟩, by rw [hnone.out]; exact H0.out, HG.out⟩
end Go.Proofs.YthlhbmldfjkagaaDoor
