/-
  A crew whose workers go on: what a step of one of them leaves of it.
-/
import Derived.Test.YthlhbmldfjkagaaDoorCrewC
namespace Go.Proofs.YthlhbmldfjkagaaDoor
open Go.RowKit Go.Shelf

structure CrewAt (w : World) (c : Nat → Nat) (N E B : Nat) (vW : Value) (C : Nat → Nat) (U : Nat → Value) (n : Nat) (r : List (List Op5)) (X : Nat → Wk) (T : Nat → List Slot4) : Prop where
  ft : w.cell? ⟨E, 0, none⟩ = some (.pointer (some ⟨B, 0, none⟩))
  fw : w.cell? ⟨E, 2, none⟩ = some vW
  ce : c E = 1
  tab : TabAt w B T
  cB : c B = 2
  ws : WorkersAt w c N vW C U n r X
  low : ∀ b, b < N → c b = 0
theorem CrewN.crew {w : World} {c : Nat → Nat} {N E B D NB : Nat} {vW vH : Value} {C : Nat → Nat} {U : Nat → Value} {n : Nat} {H : Nat → Nat} {V : Nat → Value} {n' : Nat} {Vb : Nat → Value} {r : List (List Op5)} {T : Nat → List Slot4} (h : CrewN w c N E B D NB vW vH C U n H V n' Vb r T) : CrewAt w c N E B vW C U n r (fun _ => wk0) T :=
  ⟨h.e.ft, h.e.fw, h.ce, h.tab, h.cB, h.ws, h.low⟩
theorem CrewAt.later {w w' : World} {c : Nat → Nat} {N E B : Nat} {vW : Value} {C : Nat → Nat} {U : Nat → Value} {n : Nat} {r : List (List Op5)} {X : Nat → Wk} {T : Nat → List Slot4} (h : CrewAt w c N E B vW C U n r X T) (hn : n ≤ 100) (hb : Below w.heap.size w w') : CrewAt w' c N E B vW C U n r X T :=
  ⟨cell_later hb h.ft, cell_later hb h.fw, h.ce, h.tab.later hb, h.cB, h.ws.grew hn (Grew.of_below (S := fun _ => False) hb) (fun _ _ e => e.elim) (fun _ _ => rfl), h.low⟩
theorem CrewAt.row {w : World} {c : Nat → Nat} {N E B : Nat} {vW : Value} {C : Nat → Nat} {U : Nat → Value} {n : Nat} {r : List (List Op5)} {X : Nat → Wk} {T : Nat → List Slot4} (h : CrewAt w c N E B vW C U n r X T) (hn : 0 < n) : ∃ g cap, vW = .slice (some ⟨g, 0, none⟩) n cap ∧ ∀ i, i < n → w.cell? ⟨g, i, none⟩ = some (.pointer (some ⟨C i, 0, none⟩)) := by
  obtain ⟨g, cap, e, hc⟩ := owns_cells h.ws.own hn
  exact ⟨g, cap, e, fun i hi => hc i _ (ptrs_at C hi)⟩
theorem CrewAt.ne {w : World} {c : Nat → Nat} {N E B : Nat} {vW : Value} {C : Nat → Nat} {U : Nat → Value} {n : Nat} {r : List (List Op5)} {X : Nat → Wk} {T : Nat → List Slot4} (h : CrewAt w c N E B vW C U n r X T) {i : Nat} (hi : i < n) : C i ≠ B := fun e => by
  have h1 := h.ws.ck i hi
  have h2 := h.cB
  rw [e] at h1; omega
/-- What a step of worker i leaves. -/
theorem CrewAt.stepped {w w' : World} {c : Nat → Nat} {N E B : Nat} {vW : Value} {C : Nat → Nat} {U : Nat → Value} {n : Nat} {r : List (List Op5)} {X : Nat → Wk} {T T' : Nat → List Slot4} {x' : Wk} (h : CrewAt w c N E B vW C U n r X T) (_hn : n ≤ 100) {i : Nat} (hi : i < n)
    (hx : WorkAt w' (C i) (U i) i x') (hT : TabAt w' B T') (hg : Grew (fun k => k = B ∨ k = C i) w w') : CrewAt w' c N E B vW C U n r (putW X i x') T' := by
  have hcol : ∀ b, (b = B ∨ b = C i) → c b = 2 ∨ c b = 100 + i := fun b e => by
    rcases e with rfl | rfl
    · exact .inl h.cB
    · exact .inr (h.ws.ck i hi)
  have hE : ¬ (E = B ∨ E = C i) := fun e => by have := hcol E e; have := h.ce; omega
  have hlt := World.block_lt_of_cell? w _ h.ft
  refine ⟨hg.cell h.ft hE, hg.cell h.fw hE, h.ce, hT, h.cB, ⟨owns_kept h.ws.own fun g hgg => ?_, h.ws.col, fun q hq => ?_, h.ws.ck, fun q hq hr => ?_⟩, h.low⟩
  · have := h.ws.col g hgg
    exact hg.block g (owns_lt h.ws.own hgg).2 (fun e => by have := hcol g e; omega)
  · unfold putW
    by_cases e : q = i
    · subst e; rw [if_pos rfl]; exact hx
    · rw [if_neg e]
      have := h.ws.ck q hq
      exact (h.ws.wk q hq).grew hg (fun e' => by have := hcol _ e'; omega)
  · exact (h.ws.dd q hq hr).grew hg (fun b hb e => by have := hcol b e; omega)
theorem CrewAt.below {w w' a : World} {c : Nat → Nat} {N E B m : Nat} {vW : Value} {C : Nat → Nat} {U : Nat → Value} {n : Nat} {r : List (List Op5)} {X : Nat → Wk} {T : Nat → List Slot4} (h : CrewAt w c N E B vW C U n r X T) {i : Nat} (hi : i < n) (hg : Grew (fun k => k = B ∨ k = C i) w w') (ha : Below m a w) (hm : m ≤ N) (hz : m ≤ w.heap.size) : Below m a w' :=
  hg.below ha hz (fun k e => by
    rcases Nat.lt_or_ge k N with hlt | hge
    · have h0 := h.low k hlt
      rcases e with rfl | rfl
      · have := h.cB; omega
      · have := h.ws.ck i hi; omega
    · omega)
/-- A step of worker i. -/
theorem CrewAt.step {w : World} {c : Nat → Nat} {N E B : Nat} {vW : Value} {C : Nat → Nat} {U : Nat → Value} {n : Nat} {r : List (List Op5)} {X : Nat → Wk} {T : Nat → List Slot4} (h : CrewAt w c N E B vW C U n r X T) {i : Nat} (hi : i < n) (hr : i < r.length) (hc : (checkF r[i]).1 = 0) (hw : WellW r[i] (X i)) :
    Calls Tryd.prog 50 #[.pointer (some ⟨C i, 0, none⟩), .pointer (some ⟨B, 0, none⟩)] w (Stepped (C i) B (U i) i w (stepW T r[i] (i : Int) (X i))) :=
  stepWk_any (C i) B (U i) i r[i] (X i) T w (h.ws.wk i hi) h.tab (h.ne hi) (h.ws.dd i hi hr).at hc hw
end Go.Proofs.YthlhbmldfjkagaaDoor
