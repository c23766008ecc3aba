/-
  A round under way as it lies in memory.
-/
import Derived.Test.YtihfjmdjjeciiacDoorJqWo
import Derived.Test.YtihfjmdjjeciiacDoorLawQJ
import Derived.Test.YtihfjmdjjeciiacDoorJqMb
namespace Go.Proofs.YtihfjmdjjeciiacDoor
open Go.RowKit Go.Shelf

structure RdAt (w : World) (c : Nat → Nat) (N E B : Nat) (vW : Value) (C : Nat → Nat) (U : Nat → Value) (r : List (List Op5)) (X : Nat → Wk) (T : Nat → List Slot4) : Prop where
  ft : w.cell? ⟨E, 0, none⟩ = some (.pointer (some ⟨B, 0, none⟩))
  fw : w.cell? ⟨E, 1, none⟩ = some vW
  ce : c E = 1
  tab : TabAt w B T
  cB : c B = 2
  ws : WorkersAt w c N vW C U r.length r X
  low : ∀ b, b < N → c b = 0

/-- The blocks that a step of a round may change. -/
def crewS (B : Nat) (C : Nat → Nat) (n : Nat) : Nat → Prop := fun k => k = B ∨ ∃ i, i < n ∧ k = C i

section
variable {w w' a : World} {c : Nat → Nat} {N E B m : Nat} {vW : Value} {C : Nat → Nat} {U : Nat → Value} {r : List (List Op5)} {X : Nat → Wk} {T T' : Nat → List Slot4}

theorem RdAt.later (h : RdAt w c N E B vW C U r X T) (hn : r.length ≤ 8) (hb : Below w.heap.size w w') : RdAt w' c N E B vW C U r X T :=
  ⟨cell_later hb h.ft, cell_later hb h.fw, h.ce, h.tab.later hb, h.cB, h.ws.grew (by omega) (Grew.of_below (S := fun _ => False) hb) (fun _ _ e => e.elim) (fun _ _ => rfl), h.low⟩
theorem RdAt.row (h : RdAt w c N E B vW C U r X T) : ∃ va cap, vW = .slice va r.length cap ∧ ∀ i, i < r.length → ∃ g, va = some ⟨g, 0, none⟩ ∧ w.cell? ⟨g, i, none⟩ = some (.pointer (some ⟨C i, 0, none⟩)) := by
  by_cases hn : 0 < r.length
  · obtain ⟨g, cap, e, hc⟩ := owns_cells h.ws.own hn
    exact ⟨_, cap, e, fun i hi => ⟨g, rfl, hc i _ (ptrs_at C hi)⟩⟩
  · have h0 : r.length = 0 := by omega
    have ho := h.ws.own
    rw [h0] at ho ⊢
    rcases ho.2 with ⟨rfl, -⟩ | ⟨g, cap, cur, rfl, -⟩
    · exact ⟨none, 0, rfl, fun i hi => by omega⟩
    · exact ⟨_, cap, rfl, fun i hi => by omega⟩
theorem RdAt.ne (h : RdAt w c N E B vW C U r X T) {i : Nat} (hi : i < r.length) : C i ≠ B := fun e => by
  have h1 := h.ws.ck i hi
  have h2 := h.cB
  rw [e] at h1; omega
theorem RdAt.lt (h : RdAt w c N E B vW C U r X T) {k : Nat} (hk : crewS B C r.length k) : k < w.heap.size := by
  rcases hk with rfl | ⟨i, hi, rfl⟩
  · exact h.tab.lt
  · exact (h.ws.wk i hi).lt
theorem RdAt.high (h : RdAt w c N E B vW C U r X T) {k : Nat} (hk : crewS B C r.length k) : N ≤ k := by
  rcases Nat.lt_or_ge k N with hlt | hge
  · have h0 := h.low k hlt
    rcases hk with rfl | ⟨i, hi, rfl⟩
    · have := h.cB; omega
    · have := h.ws.ck i hi; omega
  · exact hge
theorem RdAt.below (h : RdAt w c N E B vW C U r X T) (hg : Grew (crewS B C r.length) w w') (ha : Below m a w) (hm : m ≤ N) (hz : m ≤ w.heap.size) : Below m a w' :=
  hg.below ha hz (fun _ e => Nat.le_trans hm (h.high e))
/-- What a step of worker i leaves. -/
theorem RdAt.stepped {x' : Wk} (h : RdAt w c N E B vW C U r X T) {i : Nat} (hi : i < r.length)
    (hx : WorkAt w' (C i) (U i) i x') (hT : TabAt w' B T') (hg : Grew (fun k => k = B ∨ k = C i) w w') : RdAt w' c N E B vW C U r (putW X i x') T' := by
  have hcol : ∀ b, (b = B ∨ b = C i) → c b = 2 ∨ c b = 100 + i := fun b e => by
    rcases e with rfl | rfl
    · exact .inl h.cB
    · exact .inr (h.ws.ck i hi)
  have hE : ¬ (E = B ∨ E = C i) := fun e => by have := hcol E e; have := h.ce; omega
  refine ⟨hg.cell h.ft hE, hg.cell h.fw hE, h.ce, hT, h.cB, ⟨owns_kept h.ws.own fun g hgg => ?_, h.ws.col, fun q hq => ?_, h.ws.ck, fun q hq hr => ?_⟩, h.low⟩
  · have := h.ws.col g hgg
    exact hg.block g (owns_lt h.ws.own hgg).2 (fun e => by have := hcol g e; omega)
  · unfold putW
    by_cases e : q = i
    · subst e; rw [if_pos rfl]; exact hx
    · rw [if_neg e]
      have := h.ws.ck q hq
      exact (h.ws.wk q hq).grew hg (fun e' => by have := hcol _ e'; omega)
  · exact (h.ws.dd q hq hr).grew hg (fun b hb e => by have := hcol b e; omega)
end

/-- A round under way, in order. -/
structure RdIn (w : World) (c : Nat → Nat) (N E B : Nat) (vW : Value) (C : Nat → Nat) (U : Nat → Value) (s : Nat → Int) (r : List (List Op5)) (X : Nat → Wk) (T : Nat → List Slot4) : Prop where
  at' : RdAt w c N E B vW C U r X T
  ord : InOrder s r X T
  ck : ∀ d ∈ r, (checkF d).1 = 0
  le : r.length ≤ 8

section
variable {w w' a : World} {c : Nat → Nat} {N E B m : Nat} {vW : Value} {C : Nat → Nat} {U : Nat → Value} {s : Nat → Int} {r : List (List Op5)} {X : Nat → Wk} {T T' : Nat → List Slot4}

theorem RdIn.later (h : RdIn w c N E B vW C U s r X T) (hb : Below w.heap.size w w') : RdIn w' c N E B vW C U s r X T := ⟨h.at'.later h.le hb, h.ord, h.ck, h.le⟩
theorem RdIn.below (h : RdIn w c N E B vW C U s r X T) (hg : Grew (crewS B C r.length) w w') (ha : Below m a w) (hm : m ≤ N) (hz : m ≤ w.heap.size) : Below m a w' := h.at'.below hg ha hm hz
/-- A step of worker i. -/
theorem RdIn.step (h : RdIn w c N E B vW C U s r X T) {i : Nat} (hi : i < r.length) :
    Calls Tryd.prog 105 #[.pointer (some ⟨C i, 0, none⟩), .pointer (some ⟨B, 0, none⟩)] w fun e w' => e = .returned (.tuple #[.int .i64 (stepW T r[i] (i : Int) (X i)).what, .int .i64 (stepW T r[i] (i : Int) (X i)).who]) ∧ RdIn w' c N E B vW C U s r (putW X i (stepW T r[i] (i : Int) (X i)).x) (stepW T r[i] (i : Int) (X i)).T ∧ Grew (crewS B C r.length) w w' := by
  refine (stepWk_any (C i) B (U i) i r[i] (X i) T w (h.at'.ws.wk i hi) h.at'.tab (h.at'.ne hi) (h.at'.ws.dd i hi hi).at (h.ck _ (List.getElem_mem hi)) (h.ord.ok.well i hi)).mono ?_
  rintro e w' ⟨he, hx, hT, hg⟩
  exact ⟨he, ⟨h.at'.stepped hi hx hT hg, h.ord.step h.ck hi, h.ck, h.le⟩, hg.mono fun k e => by
    rcases e with e | e
    · exact .inl e
    · exact .inr ⟨i, hi, e⟩⟩
end

/-- What is told of worker i. -/
theorem RdIn.result {w : World} {c : Nat → Nat} {N E B : Nat} {vW : Value} {C : Nat → Nat} {U : Nat → Value} {s : Nat → Int} {r : List (List Op5)} {X : Nat → Wk} {T : Nat → List Slot4} (h : RdIn w c N E B vW C U s r X T) {i : Nat} (hi : i < r.length) :
    Calls Tryd.prog 98 #[.pointer (some ⟨C i, 0, none⟩)] w fun e w' => e = .returned (.tuple #[.agg #[.int .i64 (resC (X i)), .int .i64 (resG (X i) 0), .int .i64 (resG (X i) 1), .int .i64 (resG (X i) 2), .int .i64 (resG (X i) 3)], .bool (X i).over]) ∧ Below w.heap.size w w' :=
  result_any (C i) (U i) i (X i) w (h.at'.ws.wk i hi)
end Go.Proofs.YtihfjmdjjeciiacDoor
