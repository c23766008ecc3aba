/-
  The hands of a crew and their board, by colours of blocks.
-/
import Derived.Test.YthlhbmldfjkagaaDoorHdB
import Derived.Test.YthlhbmldfjkagaaDoorCrewD
namespace Go.Proofs.YthlhbmldfjkagaaDoor
open Go.RowKit Go.Shelf

structure HandC (w : World) (c : Nat → Nat) (N NB E D : Nat) (vH : Value) (H : Nat → Nat) (V : Nat → Value) (r : List (List Op5)) (Vb : Nat → Value) (X : Nat → Wk) (S : Nat → Value) (st : Nat → List Op5) (T : Nat → List Slot4) : Prop where
  fb : w.cell? ⟨E, 1, none⟩ = some (.pointer (some ⟨D, 0, none⟩))
  fh : w.cell? ⟨E, 3, none⟩ = some vH
  ce : c E = 1
  own : w.ownsRow N 91 1 vH r.length (ptrs H r.length)
  col : ∀ g, vH.ownBlock = some g → c g = 4
  hd : ∀ i, i < r.length → HandAt w (H i) (V i) i (X i) (S i)
  cH : ∀ i, i < r.length → c (H i) = 200 + i
  so : ∀ i, i < r.length → w.ownsRow N 34 5 (S i) (st i).length (deedCells (st i))
  cS : ∀ i, i < r.length → ∀ g, (S i).ownBlock = some g → c g = 300 + i
  dd : ∀ i, i < r.length → ∀ h : i < r.length, DeedIn (fun g => c g = 0) w (V i) r[i]
  bd : BoardC w c NB D T Vb
  put : ∀ i, i < r.length → PutOk (st i) (X i)
  sl : ∀ i, i < r.length → (st i).length ≤ (X i).nx

section
variable {w w' : World} {c c' : Nat → Nat} {N NB E D : Nat} {vH : Value} {H : Nat → Nat} {V : Nat → Value} {r : List (List Op5)} {Vb : Nat → Value} {X : Nat → Wk} {S : Nat → Value} {st : Nat → List Op5} {T T' : Nat → List Slot4}

theorem HandC.cV (h : HandC w c N NB E D vH H V r Vb X S st T) {g : Nat} (hg : boardS Vb g) : 20 ≤ c g ∧ c g < 30 := by
  obtain ⟨k, hk, e⟩ := hg
  have := h.bd.cV k hk g e
  omega
theorem HandC.hb (h : HandC w c N NB E D vH H V r Vb X S st T) (hf : FineT T) (h9 : ∀ k, k < 10 → (T k).length ≤ 9) {i : Nat} (hi : i < r.length) : HB w N NB (H i) D (V i) i r[i] Vb (X i) (S i) (st i) T := by
  have cH := h.cH i hi
  have cD := h.bd.cD
  refine ⟨h.hd i hi, h.so i hi, h.bd.at', (h.dd i hi hi).mono fun g _ hg => ⟨fun e => ?_, fun e => ?_, fun e => ?_, fun e => ?_⟩, fun e => ?_, fun e => ?_, fun e => ?_, fun e => ?_, fun g e e' => ?_, h9, hf, h.put i hi, h.sl i hi⟩
  · rw [e, cH] at hg; omega
  · rw [e, cD] at hg; omega
  · have := h.cV e; omega
  · have := h.cS i hi g e; omega
  · rw [e, cD] at cH; omega
  · have := h.cV e; omega
  · have := h.cS i hi _ e; omega
  · have := h.cS i hi _ e; omega
  · have := h.cS i hi g e; have := h.cV e'; omega
/-- Other blocks are changed. -/
theorem HandC.grew {Z : Nat → Prop} (h : HandC w c N NB E D vH H V r Vb X S st T) (hg : Grew Z w w') (hZ : ∀ b, b < w.heap.size → Z b → c b = 2 ∨ (100 ≤ c b ∧ c b < 200)) (hc : ∀ b, b < w.heap.size → c' b = c b) : HandC w' c' N NB E D vH H V r Vb X S st T := by
  have hE := World.block_lt_of_cell? w _ h.fb
  have nE : ¬ Z E := fun e => by have := hZ E hE e; have := h.ce; omega
  refine ⟨hg.cell h.fb nE, hg.cell h.fh nE, by rw [hc E hE]; exact h.ce, owns_kept h.own fun g hgg => ?_, fun g hgg => ?_, fun i hi => ?_, fun i hi => ?_, fun i hi => owns_kept (h.so i hi) fun g hgg => ?_, fun i hi g hgg => ?_, fun i hi hr => ?_, h.bd.grew hg (fun b hb e => by have := hZ b hb e; omega) hc, h.put, h.sl⟩
  · have hlt := (owns_lt h.own hgg).2
    exact hg.block g hlt (fun e => by have := hZ g hlt e; have := h.col g hgg; omega)
  · rw [hc g (owns_lt h.own hgg).2]; exact h.col g hgg
  · have h1 := h.hd i hi
    exact h1.kept (hg.block _ h1.lt (fun e => by have := hZ _ h1.lt e; have := h.cH i hi; omega))
  · rw [hc _ (h.hd i hi).lt]; exact h.cH i hi
  · have hlt := (owns_lt (h.so i hi) hgg).2
    exact hg.block g hlt (fun e => by have := hZ g hlt e; have := h.cS i hi g hgg; omega)
  · rw [hc g (owns_lt (h.so i hi) hgg).2]; exact h.cS i hi g hgg
  · have h2 : DeedIn (fun g => c g = 0 ∧ g < w.heap.size) w (V i) r[i] := (h.dd i hi hr).mono fun b hb hp => ⟨hp, hb⟩
    exact ((h2.mono fun b hb hp => (⟨hp, hb⟩ : (c b = 0 ∧ b < w.heap.size) ∧ b < w.heap.size)).grew hg (fun b hb e => by have := hZ b hb.2 e; omega)).mono fun b _ hb => by rw [hc b hb.2]; exact hb.1.1
theorem HandC.later (h : HandC w c N NB E D vH H V r Vb X S st T) (hb : Below w.heap.size w w') : HandC w' c N NB E D vH H V r Vb X S st T := h.grew (Grew.of_below (S := fun _ => False) hb) (fun _ _ e => e.elim) (fun _ _ => rfl)
def putL (st : Nat → List Op5) (i : Nat) (l : List Op5) : Nat → List Op5 := fun q => if q = i then l else st q
/-- What a step of hand i leaves. -/
theorem HandC.stepped (h : HandC w c N NB E D vH H V r Vb X S st T) (h8 : r.length ≤ 8) {i : Nat} (hi : i < r.length) {x' : Wk} {vs' : Value} {st' : List Op5} (hB : HB w' N NB (H i) D (V i) i r[i] Vb x' vs' st' T') (hg : Grew (handS (H i) Vb (S i)) w w') (hat : vs'.ownBlock = (S i).ownBlock ∨ ∃ g, vs'.ownBlock = some g ∧ w.heap.size ≤ g) :
    ∃ c', (∀ b, b < w.heap.size → c' b = c b) ∧ HandC w' c' N NB E D vH H V r Vb (putW X i x') (putV S i vs') (putL st i st') T' := by
  have hE := World.block_lt_of_cell? w _ h.fb
  have cH := h.cH i hi
  have hZ : ∀ b, handS (H i) Vb (S i) b → c b = 200 + i ∨ (20 ≤ c b ∧ c b < 30) ∨ c b = 300 + i := fun b e => by
    rcases e with e | e | e
    · rw [e]; exact .inl cH
    · exact .inr (.inl (h.cV e))
    · exact .inr (.inr (h.cS i hi b e))
  have nE : ¬ handS (H i) Vb (S i) E := fun e => by have := hZ E e; have := h.ce; omega
  obtain ⟨c', hc'⟩ : ∃ c' : Nat → Nat, c' = fun b => if b < w.heap.size then c b else 300 + i := ⟨_, rfl⟩
  have hc : ∀ b, b < w.heap.size → c' b = c b := fun b hb => by rw [hc']; simp [hb]
  have hhi : ∀ b, w.heap.size ≤ b → c' b = 300 + i := fun b hb => by rw [hc']; simp; omega
  clear hc'
  refine ⟨c', hc, hg.cell h.fb nE, hg.cell h.fh nE, by rw [hc E hE]; exact h.ce, owns_kept h.own fun g hgg => ?_, fun g hgg => ?_, fun q hq => ?_, fun q hq => ?_, fun q hq => ?_, fun q hq g hgg => ?_, fun q hq hr => ?_, ⟨hB.bd, by rw [hc D h.bd.at'.lt]; exact h.bd.cD, fun k hk g hgg => ?_⟩, fun q hq => ?_, fun q hq => ?_⟩
  · have hlt := (owns_lt h.own hgg).2
    exact hg.block g hlt (fun e => by have := hZ g e; have := h.col g hgg; omega)
  · rw [hc g (owns_lt h.own hgg).2]; exact h.col g hgg
  · unfold putW putV
    by_cases e : q = i
    · subst e; rw [if_pos rfl, if_pos rfl]; exact hB.hd
    · rw [if_neg e, if_neg e]
      have h1 := h.hd q hq
      exact h1.kept (hg.block _ h1.lt (fun e' => by have := hZ _ e'; have := h.cH q hq; omega))
  · rw [hc _ (h.hd q hq).lt]; exact h.cH q hq
  · unfold putV putL
    by_cases e : q = i
    · subst e; rw [if_pos rfl, if_pos rfl]; exact hB.so
    · rw [if_neg e, if_neg e]
      exact owns_kept (h.so q hq) fun g hgg => hg.block g (owns_lt (h.so q hq) hgg).2 (fun e' => by have := hZ g e'; have := h.cS q hq g hgg; omega)
  · unfold putV at hgg
    by_cases e : q = i
    · subst e
      rw [if_pos rfl] at hgg
      rcases hat with e' | ⟨g', e', hge⟩
      · rw [e'] at hgg
        rw [hc g (owns_lt (h.so q hq) hgg).2]; exact h.cS q hq g hgg
      · rw [e'] at hgg
        cases hgg
        exact hhi g hge
    · rw [if_neg e] at hgg
      rw [hc g (owns_lt (h.so q hq) hgg).2]; exact h.cS q hq g hgg
  · have h2 : DeedIn (fun g => c g = 0 ∧ g < w.heap.size) w (V q) r[q] := (h.dd q hq hr).mono fun b hb hp => ⟨hp, hb⟩
    exact (h2.grew hg (fun b hb e => by have := hZ b e; omega)).mono fun b _ hb => by rw [hc b hb.2]; exact hb.1
  · rw [hc g (owns_lt (h.bd.at'.own k hk) hgg).2]; exact h.bd.cV k hk g hgg
  · unfold putL putW
    by_cases e : q = i
    · subst e; rw [if_pos rfl, if_pos rfl]; exact hB.put
    · rw [if_neg e, if_neg e]; exact h.put q hq
  · unfold putL putW
    by_cases e : q = i
    · subst e; rw [if_pos rfl, if_pos rfl]; exact hB.sl
    · rw [if_neg e, if_neg e]; exact h.sl q hq
theorem HandC.row (h : HandC w c N NB E D vH H V r Vb X S st T) (hn : 0 < r.length) : ∃ g cap, vH = .slice (some ⟨g, 0, none⟩) r.length cap ∧ ∀ i, i < r.length → w.cell? ⟨g, i, none⟩ = some (.pointer (some ⟨H i, 0, none⟩)) := by
  obtain ⟨g, cap, e, hc⟩ := owns_cells h.own hn
  exact ⟨g, cap, e, fun i hi => hc i _ (ptrs_at H hi)⟩
end

/-- The workers of a crew, where a hand's blocks are changed. -/
theorem CrewAt.hands {w w' : World} {c c' : Nat → Nat} {N E B : Nat} {vW : Value} {C : Nat → Nat} {U : Nat → Value} {n : Nat} {r : List (List Op5)} {X : Nat → Wk} {T : Nat → List Slot4} {Z : Nat → Prop} (h : CrewAt w c N E B vW C U n r X T) (hn : n ≤ 100) (hN : N ≤ w.heap.size) (hg : Grew Z w w') (hZ : ∀ b, b < w.heap.size → Z b → (20 ≤ c b ∧ c b < 30) ∨ 200 ≤ c b) (hc : ∀ b, b < w.heap.size → c' b = c b) : CrewAt w' c' N E B vW C U n r X T := by
  have hE := World.block_lt_of_cell? w _ h.ft
  have nE : ¬ Z E := fun e => by have := hZ E hE e; have := h.ce; omega
  have hBl := h.tab.lt
  have hB : w'.heap[B]? = w.heap[B]? := hg.block B hBl (fun e => by have := hZ B hBl e; have := h.cB; omega)
  exact ⟨hg.cell h.ft nE, hg.cell h.fw nE, by rw [hc E hE]; exact h.ce, ⟨fun k hk => (h.tab.row k hk).kept hB, fun o => (World.frozen?_of_block hB).trans (h.tab.free o)⟩, by rw [hc B hBl]; exact h.cB, h.ws.grew hn hg (fun b hb e => by have := hZ b hb e; omega) hc, fun b hb => by rw [hc b (by omega)]; exact h.low b hb⟩
/-- The hands at the beginning. -/
theorem CrewN.hands {w : World} {c : Nat → Nat} {N E B D NB : Nat} {vW vH : Value} {C : Nat → Nat} {U : Nat → Value} {H : Nat → Nat} {V : Nat → Value} {Vb : Nat → Value} {r : List (List Op5)} {T : Nat → List Slot4} (h : CrewN w c N E B D NB vW vH C U r.length H V r.length Vb r T) : HandC w c N NB E D vH H V r Vb (fun _ => wk0) (fun _ => .slice none 0 0) (fun _ => []) T :=
  ⟨h.e.fb, h.e.fh, h.ce, h.hs.own, h.hs.col, h.hs.hd, h.hs.cH, fun _ _ => World.ownsRow_nil _ _ _ _, fun i hi g hg => (by cases hg), h.hs.dd, h.bd, fun _ _ => putOk_nil _ (fun _ => rfl), fun _ _ => Nat.zero_le _⟩
end Go.Proofs.YthlhbmldfjkagaaDoor
