import Derived.Test.YthlhbmldfjkagaaDoorCrewC
import Derived.Test.YthlhbmldfjkagaaDoorWorkD
import Derived.Test.YthlhbmldfjkagaaDoorWalkC
import Derived.Test.YthlhbmldfjkagaaDoorBegW
import Derived.Test.YthlhbmldfjkagaaDoorWalkT
import Derived.Test.YthlhbmldfjkagaaDoorHdF
import Derived.Test.YthlhbmldfjkagaaDoorHdB
import Derived.Test.YthlhbmldfjkagaaDoorMathW
import Derived.Deep.RegionHeld3
import Derived.Test.YthlhbmldfjkagaaDoorOpen
/-
  A crew whose workers go on: what a step of one of them leaves of it.
-/
namespace Go.Proofs.YthlhbmldfjkagaaDoor
open Go.RowKit Go.Shelf

structure CrewAt (w : World) (c : Nat → Nat) (N E B : Nat) (vW : Value) (C : Nat → Nat) (U : Nat → Value) (n : Nat) (r : List (List Op5)) (X : Nat → Wk) (T : Nat → List Slot4) : Prop where
  ft : w.cell? ⟨E, 0, none⟩ = some (.pointer (some ⟨B, 0, none⟩))
  fw : w.cell? ⟨E, 2, none⟩ = some vW
  ce : c E = 1
  tab : TabAt w B T
  cB : c B = 2
  ws : WorkersAt w c N vW C U n r X
  low : ∀ b, b < N → c b = 0
theorem CrewN.crew {w : World} {c : Nat → Nat} {N E B D NB : Nat} {vW vH : Value} {C : Nat → Nat} {U : Nat → Value} {n : Nat} {H : Nat → Nat} {V : Nat → Value} {n' : Nat} {Vb : Nat → Value} {r : List (List Op5)} {T : Nat → List Slot4} (h : CrewN w c N E B D NB vW vH C U n H V n' Vb r T) : CrewAt w c N E B vW C U n r (fun _ => wk0) T :=
  ⟨h.e.ft, h.e.fw, h.ce, h.tab, h.cB, h.ws, h.low⟩
theorem CrewAt.later {w w' : World} {c : Nat → Nat} {N E B : Nat} {vW : Value} {C : Nat → Nat} {U : Nat → Value} {n : Nat} {r : List (List Op5)} {X : Nat → Wk} {T : Nat → List Slot4} (h : CrewAt w c N E B vW C U n r X T) (hn : n ≤ 100) (hb : Below w.heap.size w w') : CrewAt w' c N E B vW C U n r X T :=
  ⟨cell_later hb h.ft, cell_later hb h.fw, h.ce, h.tab.later hb, h.cB, h.ws.grew hn (Grew.of_below (S := fun _ => False) hb) (fun _ _ e => e.elim) (fun _ _ => rfl), h.low⟩
theorem CrewAt.row {w : World} {c : Nat → Nat} {N E B : Nat} {vW : Value} {C : Nat → Nat} {U : Nat → Value} {n : Nat} {r : List (List Op5)} {X : Nat → Wk} {T : Nat → List Slot4} (h : CrewAt w c N E B vW C U n r X T) (hn : 0 < n) : ∃ g cap, vW = .slice (some ⟨g, 0, none⟩) n cap ∧ ∀ i, i < n → w.cell? ⟨g, i, none⟩ = some (.pointer (some ⟨C i, 0, none⟩)) := by
  obtain ⟨g, cap, e, hc⟩ := owns_cells h.ws.own hn
  exact ⟨g, cap, e, fun i hi => hc i _ (ptrs_at C hi)⟩
theorem CrewAt.ne {w : World} {c : Nat → Nat} {N E B : Nat} {vW : Value} {C : Nat → Nat} {U : Nat → Value} {n : Nat} {r : List (List Op5)} {X : Nat → Wk} {T : Nat → List Slot4} (h : CrewAt w c N E B vW C U n r X T) {i : Nat} (hi : i < n) : C i ≠ B := fun e => by
  have h1 := h.ws.ck i hi
  have h2 := h.cB
  rw [e] at h1; omega
/-- What a step of worker i leaves. -/
theorem CrewAt.stepped {w w' : World} {c : Nat → Nat} {N E B : Nat} {vW : Value} {C : Nat → Nat} {U : Nat → Value} {n : Nat} {r : List (List Op5)} {X : Nat → Wk} {T T' : Nat → List Slot4} {x' : Wk} (h : CrewAt w c N E B vW C U n r X T) (_hn : n ≤ 100) {i : Nat} (hi : i < n)
    (hx : WorkAt w' (C i) (U i) i x') (hT : TabAt w' B T') (hg : Grew (fun k => k = B ∨ k = C i) w w') : CrewAt w' c N E B vW C U n r (putW X i x') T' := by
  have hcol : ∀ b, (b = B ∨ b = C i) → c b = 2 ∨ c b = 100 + i := fun b e => by
    rcases e with rfl | rfl
    · exact .inl h.cB
    · exact .inr (h.ws.ck i hi)
  have hE : ¬ (E = B ∨ E = C i) := fun e => by have := hcol E e; have := h.ce; omega
  have hlt := World.block_lt_of_cell? w _ h.ft
  refine ⟨hg.cell h.ft hE, hg.cell h.fw hE, h.ce, hT, h.cB, ⟨owns_kept h.ws.own fun g hgg => ?_, h.ws.col, fun q hq => ?_, h.ws.ck, fun q hq hr => ?_⟩, h.low⟩
  · have := h.ws.col g hgg
    exact hg.block g (owns_lt h.ws.own hgg).2 (fun e => by have := hcol g e; omega)
  · unfold putW
    by_cases e : q = i
    · subst e; rw [if_pos rfl]; exact hx
    · rw [if_neg e]
      have := h.ws.ck q hq
      exact (h.ws.wk q hq).grew hg (fun e' => by have := hcol _ e'; omega)
  · exact (h.ws.dd q hq hr).grew hg (fun b hb e => by have := hcol b e; omega)
theorem CrewAt.below {w w' a : World} {c : Nat → Nat} {N E B m : Nat} {vW : Value} {C : Nat → Nat} {U : Nat → Value} {n : Nat} {r : List (List Op5)} {X : Nat → Wk} {T : Nat → List Slot4} (h : CrewAt w c N E B vW C U n r X T) {i : Nat} (hi : i < n) (hg : Grew (fun k => k = B ∨ k = C i) w w') (ha : Below m a w) (hm : m ≤ N) (hz : m ≤ w.heap.size) : Below m a w' :=
  hg.below ha hz (fun k e => by
    rcases Nat.lt_or_ge k N with hlt | hge
    · have h0 := h.low k hlt
      rcases e with rfl | rfl
      · have := h.cB; omega
      · have := h.ws.ck i hi; omega
    · omega)
/-- A step of worker i. -/
theorem CrewAt.step {w : World} {c : Nat → Nat} {N E B : Nat} {vW : Value} {C : Nat → Nat} {U : Nat → Value} {n : Nat} {r : List (List Op5)} {X : Nat → Wk} {T : Nat → List Slot4} (h : CrewAt w c N E B vW C U n r X T) {i : Nat} (hi : i < n) (hr : i < r.length) (hc : (checkF r[i]).1 = 0) (hw : WellW r[i] (X i)) :
    Calls Tryd.prog 50 #[.pointer (some ⟨C i, 0, none⟩), .pointer (some ⟨B, 0, none⟩)] w (Stepped (C i) B (U i) i w (stepW T r[i] (i : Int) (X i))) :=
  stepWk_any (C i) B (U i) i r[i] (X i) T w (h.ws.wk i hi) h.tab (h.ne hi) (h.ws.dd i hi hr).at hc hw
end Go.Proofs.YthlhbmldfjkagaaDoor

/-
  What the laws share: the picks, an index, what Result tells.
-/
namespace Go.Proofs.YthlhbmldfjkagaaDoor
open Go.RowKit Go.Shelf

theorem index_lt (i : Int) (n : Nat) (h : 0 < n) (h8 : n ≤ 8) : ∃ m : Nat, m < n ∧ wrap64 ((IntKind.u64.wrap i).tmod (n : Int)) = (m : Int) := by
  rw [IntKind.wrap_u64]
  have h0 : 0 ≤ i % 18446744073709551616 := Int.emod_nonneg _ (by decide)
  generalize i % 18446744073709551616 = x at h0
  rw [Int.tmod_eq_emod_of_nonneg h0]
  have h1 : 0 ≤ x % (n : Int) := Int.emod_nonneg _ (by omega)
  have h2 : x % (n : Int) < n := Int.emod_lt_of_pos _ (by omega)
  generalize x % (n : Int) = y at h1 h2
  refine ⟨y.toNat, by omega, ?_⟩
  rw [IntWalk.wrap64_in y ⟨by omega, by omega⟩]
  omega

/-- Numbers as they lie in memory. -/
def NumsAt (w : World) (v : Value) (l : List Int) : Prop :=
  ∃ a cap, v = .slice a l.length cap ∧ ∀ i (h : i < l.length), ∃ b off, a = some ⟨b, off, none⟩ ∧ w.cell? ⟨b, off + i, none⟩ = some (.int .i64 l[i])

/-- What Result tells of a worker. -/
def resC (x : Wk) : Int := if x.over then x.code else 0
def resG (x : Wk) (i : Nat) : Int := if x.over then x.regs i else 0
theorem result_any (C : Nat) (dv : Value) (b : Nat) (x : Wk) (w : World) (hx : WorkAt w C dv b x) :
    Calls Tryd.prog 52 #[.pointer (some ⟨C, 0, none⟩)] w fun e w' => e = .returned (.tuple #[.agg #[.int .i64 (resC x), .int .i64 (resG x 0), .int .i64 (resG x 1), .int .i64 (resG x 2), .int .i64 (resG x 3)], .bool x.over]) ∧ Below w.heap.size w w' := by
  cases ho : x.over with
  | false =>
    have := result_not C dv b x w hx ho
    simp only [resC, resG, ho]
    exact this
  | true =>
    have := result_over C dv b x w hx ho
    simp only [resC, resG, ho]
    exact this
end Go.Proofs.YthlhbmldfjkagaaDoor

/-
  Hand.Step.
-/
namespace Go.Proofs.YthlhbmldfjkagaaDoor
open Go.RowKit Go.Shelf

theorem hand_any {w : World} {N NB G D : Nat} {dv : Value} {b : Nat} {d : List Op5} {V : Nat → Value} {x : Wk} {vs : Value} {st : List Op5} {T : Nat → List Slot4} (h : HB w N NB G D dv b d V x vs st T) (hck : (checkF d).1 = 0) (hw : WellW d x) (hN : N ≤ w.heap.size) :
    Calls Tryd.prog 51 #[.pointer (some ⟨G, 0, none⟩), .pointer (some ⟨D, 0, none⟩)] w (HStep w N NB G D dv b d V vs (stepW T d (b : Int) x)) := by
  have hd14 := check_len hck
  cases ho : x.over with
  | true => exact hs_over h ho
  | false =>
    by_cases hn : x.nx < d.length
    · rcases alone_parts (checkF_alone hck _ (List.getElem_mem hn)) with ⟨k, -⟩ | ⟨k, -⟩ | ⟨k, -⟩ | ⟨k, -⟩ | ⟨k, -⟩ | ⟨k, -⟩
      · exact hs_num h ho hn k hck
      · cases hi : x.is d[x.nx].b.toNat with
        | true => exact hs_own h ho hn k hi hck
        | false =>
          by_cases hb : 0 ≤ (beforeT T d[x.nx].b (b : Int)).2
          · exact hs_wait h ho hn k hi hb hck
          · exact hs_load h ho hn k hi hb hck
      · rcases k with k | k | k | k
        · exact hs_ar3 h ho hn k hck
        · exact hs_ar4 h ho hn k hck
        · exact hs_ar5 h ho hn k hck
        · exact hs_ar6 h ho hn k hck
      · exact hs_store h ho hn k hN hck
      · by_cases hz : x.regs d[x.nx].a.toNat = 0
        · exact hs_stop0 h ho hn k hz hck
        · exact hs_stop1 h ho hn k hz (fun q => hw.stop hck hn k q) hck
      · by_cases hz : x.regs d[x.nx].a.toNat = 0
        · exact hs_skip0 h ho hn k hz hck
        · exact hs_skip1 h ho hn k hz hck
    · exact hs_end h ho hn hd14 (by have := hw.nx; omega)
end Go.Proofs.YthlhbmldfjkagaaDoor

/-
  The hands of a crew and their board, by colours of blocks.
-/
namespace Go.Proofs.YthlhbmldfjkagaaDoor
open Go.RowKit Go.Shelf

structure HandC (w : World) (c : Nat → Nat) (N NB E D : Nat) (vH : Value) (H : Nat → Nat) (V : Nat → Value) (r : List (List Op5)) (Vb : Nat → Value) (X : Nat → Wk) (S : Nat → Value) (st : Nat → List Op5) (T : Nat → List Slot4) : Prop where
  fb : w.cell? ⟨E, 1, none⟩ = some (.pointer (some ⟨D, 0, none⟩))
  fh : w.cell? ⟨E, 3, none⟩ = some vH
  ce : c E = 1
  own : w.ownsRow N 91 1 vH r.length (ptrs H r.length)
  col : ∀ g, vH.ownBlock = some g → c g = 4
  hd : ∀ i, i < r.length → HandAt w (H i) (V i) i (X i) (S i)
  cH : ∀ i, i < r.length → c (H i) = 200 + i
  so : ∀ i, i < r.length → w.ownsRow N 34 5 (S i) (st i).length (deedCells (st i))
  cS : ∀ i, i < r.length → ∀ g, (S i).ownBlock = some g → c g = 300 + i
  dd : ∀ i, i < r.length → ∀ h : i < r.length, DeedIn (fun g => c g = 0) w (V i) r[i]
  bd : BoardC w c NB D T Vb
  put : ∀ i, i < r.length → PutOk (st i) (X i)
  sl : ∀ i, i < r.length → (st i).length ≤ (X i).nx

section
variable {w w' : World} {c c' : Nat → Nat} {N NB E D : Nat} {vH : Value} {H : Nat → Nat} {V : Nat → Value} {r : List (List Op5)} {Vb : Nat → Value} {X : Nat → Wk} {S : Nat → Value} {st : Nat → List Op5} {T T' : Nat → List Slot4}

theorem HandC.cV (h : HandC w c N NB E D vH H V r Vb X S st T) {g : Nat} (hg : boardS Vb g) : 20 ≤ c g ∧ c g < 30 := by
  obtain ⟨k, hk, e⟩ := hg
  have := h.bd.cV k hk g e
  omega
theorem HandC.hb (h : HandC w c N NB E D vH H V r Vb X S st T) (hf : FineT T) (h9 : ∀ k, k < 10 → (T k).length ≤ 9) {i : Nat} (hi : i < r.length) : HB w N NB (H i) D (V i) i r[i] Vb (X i) (S i) (st i) T := by
  have cH := h.cH i hi
  have cD := h.bd.cD
  refine ⟨h.hd i hi, h.so i hi, h.bd.at', (h.dd i hi hi).mono fun g _ hg => ⟨fun e => ?_, fun e => ?_, fun e => ?_, fun e => ?_⟩, fun e => ?_, fun e => ?_, fun e => ?_, fun e => ?_, fun g e e' => ?_, h9, hf, h.put i hi, h.sl i hi⟩
  · rw [e, cH] at hg; omega
  · rw [e, cD] at hg; omega
  · have := h.cV e; omega
  · have := h.cS i hi g e; omega
  · rw [e, cD] at cH; omega
  · have := h.cV e; omega
  · have := h.cS i hi _ e; omega
  · have := h.cS i hi _ e; omega
  · have := h.cS i hi g e; have := h.cV e'; omega
/-- Other blocks are changed. -/
theorem HandC.grew {Z : Nat → Prop} (h : HandC w c N NB E D vH H V r Vb X S st T) (hg : Grew Z w w') (hZ : ∀ b, b < w.heap.size → Z b → c b = 2 ∨ (100 ≤ c b ∧ c b < 200)) (hc : ∀ b, b < w.heap.size → c' b = c b) : HandC w' c' N NB E D vH H V r Vb X S st T := by
  have hE := World.block_lt_of_cell? w _ h.fb
  have nE : ¬ Z E := fun e => by have := hZ E hE e; have := h.ce; omega
  refine ⟨hg.cell h.fb nE, hg.cell h.fh nE, by rw [hc E hE]; exact h.ce, owns_kept h.own fun g hgg => ?_, fun g hgg => ?_, fun i hi => ?_, fun i hi => ?_, fun i hi => owns_kept (h.so i hi) fun g hgg => ?_, fun i hi g hgg => ?_, fun i hi hr => ?_, h.bd.grew hg (fun b hb e => by have := hZ b hb e; omega) hc, h.put, h.sl⟩
  · have hlt := (owns_lt h.own hgg).2
    exact hg.block g hlt (fun e => by have := hZ g hlt e; have := h.col g hgg; omega)
  · rw [hc g (owns_lt h.own hgg).2]; exact h.col g hgg
  · have h1 := h.hd i hi
    exact h1.kept (hg.block _ h1.lt (fun e => by have := hZ _ h1.lt e; have := h.cH i hi; omega))
  · rw [hc _ (h.hd i hi).lt]; exact h.cH i hi
  · have hlt := (owns_lt (h.so i hi) hgg).2
    exact hg.block g hlt (fun e => by have := hZ g hlt e; have := h.cS i hi g hgg; omega)
  · rw [hc g (owns_lt (h.so i hi) hgg).2]; exact h.cS i hi g hgg
  · have h2 : DeedIn (fun g => c g = 0 ∧ g < w.heap.size) w (V i) r[i] := (h.dd i hi hr).mono fun b hb hp => ⟨hp, hb⟩
    exact ((h2.mono fun b hb hp => (⟨hp, hb⟩ : (c b = 0 ∧ b < w.heap.size) ∧ b < w.heap.size)).grew hg (fun b hb e => by have := hZ b hb.2 e; omega)).mono fun b _ hb => by rw [hc b hb.2]; exact hb.1.1
theorem HandC.later (h : HandC w c N NB E D vH H V r Vb X S st T) (hb : Below w.heap.size w w') : HandC w' c N NB E D vH H V r Vb X S st T := h.grew (Grew.of_below (S := fun _ => False) hb) (fun _ _ e => e.elim) (fun _ _ => rfl)
def putL (st : Nat → List Op5) (i : Nat) (l : List Op5) : Nat → List Op5 := fun q => if q = i then l else st q
/-- What a step of hand i leaves. -/
theorem HandC.stepped (h : HandC w c N NB E D vH H V r Vb X S st T) (h8 : r.length ≤ 8) {i : Nat} (hi : i < r.length) {x' : Wk} {vs' : Value} {st' : List Op5} (hB : HB w' N NB (H i) D (V i) i r[i] Vb x' vs' st' T') (hg : Grew (handS (H i) Vb (S i)) w w') (hat : vs'.ownBlock = (S i).ownBlock ∨ ∃ g, vs'.ownBlock = some g ∧ w.heap.size ≤ g) :
    ∃ c', (∀ b, b < w.heap.size → c' b = c b) ∧ HandC w' c' N NB E D vH H V r Vb (putW X i x') (putV S i vs') (putL st i st') T' := by
  have hE := World.block_lt_of_cell? w _ h.fb
  have cH := h.cH i hi
  have hZ : ∀ b, handS (H i) Vb (S i) b → c b = 200 + i ∨ (20 ≤ c b ∧ c b < 30) ∨ c b = 300 + i := fun b e => by
    rcases e with e | e | e
    · rw [e]; exact .inl cH
    · exact .inr (.inl (h.cV e))
    · exact .inr (.inr (h.cS i hi b e))
  have nE : ¬ handS (H i) Vb (S i) E := fun e => by have := hZ E e; have := h.ce; omega
  obtain ⟨c', hc'⟩ : ∃ c' : Nat → Nat, c' = fun b => if b < w.heap.size then c b else 300 + i := ⟨_, rfl⟩
  have hc : ∀ b, b < w.heap.size → c' b = c b := fun b hb => by rw [hc']; simp [hb]
  have hhi : ∀ b, w.heap.size ≤ b → c' b = 300 + i := fun b hb => by rw [hc']; simp; omega
  clear hc'
  refine ⟨c', hc, hg.cell h.fb nE, hg.cell h.fh nE, by rw [hc E hE]; exact h.ce, owns_kept h.own fun g hgg => ?_, fun g hgg => ?_, fun q hq => ?_, fun q hq => ?_, fun q hq => ?_, fun q hq g hgg => ?_, fun q hq hr => ?_, ⟨hB.bd, by rw [hc D h.bd.at'.lt]; exact h.bd.cD, fun k hk g hgg => ?_⟩, fun q hq => ?_, fun q hq => ?_⟩
  · have hlt := (owns_lt h.own hgg).2
    exact hg.block g hlt (fun e => by have := hZ g e; have := h.col g hgg; omega)
  · rw [hc g (owns_lt h.own hgg).2]; exact h.col g hgg
  · unfold putW putV
    by_cases e : q = i
    · subst e; rw [if_pos rfl, if_pos rfl]; exact hB.hd
    · rw [if_neg e, if_neg e]
      have h1 := h.hd q hq
      exact h1.kept (hg.block _ h1.lt (fun e' => by have := hZ _ e'; have := h.cH q hq; omega))
  · rw [hc _ (h.hd q hq).lt]; exact h.cH q hq
  · unfold putV putL
    by_cases e : q = i
    · subst e; rw [if_pos rfl, if_pos rfl]; exact hB.so
    · rw [if_neg e, if_neg e]
      exact owns_kept (h.so q hq) fun g hgg => hg.block g (owns_lt (h.so q hq) hgg).2 (fun e' => by have := hZ g e'; have := h.cS q hq g hgg; omega)
  · unfold putV at hgg
    by_cases e : q = i
    · subst e
      rw [if_pos rfl] at hgg
      rcases hat with e' | ⟨g', e', hge⟩
      · rw [e'] at hgg
        rw [hc g (owns_lt (h.so q hq) hgg).2]; exact h.cS q hq g hgg
      · rw [e'] at hgg
        cases hgg
        exact hhi g hge
    · rw [if_neg e] at hgg
      rw [hc g (owns_lt (h.so q hq) hgg).2]; exact h.cS q hq g hgg
  · have h2 : DeedIn (fun g => c g = 0 ∧ g < w.heap.size) w (V q) r[q] := (h.dd q hq hr).mono fun b hb hp => ⟨hp, hb⟩
    exact (h2.grew hg (fun b hb e => by have := hZ b e; omega)).mono fun b _ hb => by rw [hc b hb.2]; exact hb.1
  · rw [hc g (owns_lt (h.bd.at'.own k hk) hgg).2]; exact h.bd.cV k hk g hgg
  · unfold putL putW
    by_cases e : q = i
    · subst e; rw [if_pos rfl, if_pos rfl]; exact hB.put
    · rw [if_neg e, if_neg e]; exact h.put q hq
  · unfold putL putW
    by_cases e : q = i
    · subst e; rw [if_pos rfl, if_pos rfl]; exact hB.sl
    · rw [if_neg e, if_neg e]; exact h.sl q hq
theorem HandC.row (h : HandC w c N NB E D vH H V r Vb X S st T) (hn : 0 < r.length) : ∃ g cap, vH = .slice (some ⟨g, 0, none⟩) r.length cap ∧ ∀ i, i < r.length → w.cell? ⟨g, i, none⟩ = some (.pointer (some ⟨H i, 0, none⟩)) := by
  obtain ⟨g, cap, e, hc⟩ := owns_cells h.own hn
  exact ⟨g, cap, e, fun i hi => hc i _ (ptrs_at H hi)⟩
end

/-- The workers of a crew, where a hand's blocks are changed. -/
theorem CrewAt.hands {w w' : World} {c c' : Nat → Nat} {N E B : Nat} {vW : Value} {C : Nat → Nat} {U : Nat → Value} {n : Nat} {r : List (List Op5)} {X : Nat → Wk} {T : Nat → List Slot4} {Z : Nat → Prop} (h : CrewAt w c N E B vW C U n r X T) (hn : n ≤ 100) (hN : N ≤ w.heap.size) (hg : Grew Z w w') (hZ : ∀ b, b < w.heap.size → Z b → (20 ≤ c b ∧ c b < 30) ∨ 200 ≤ c b) (hc : ∀ b, b < w.heap.size → c' b = c b) : CrewAt w' c' N E B vW C U n r X T := by
  have hE := World.block_lt_of_cell? w _ h.ft
  have nE : ¬ Z E := fun e => by have := hZ E hE e; have := h.ce; omega
  have hBl := h.tab.lt
  have hB : w'.heap[B]? = w.heap[B]? := hg.block B hBl (fun e => by have := hZ B hBl e; have := h.cB; omega)
  exact ⟨hg.cell h.ft nE, hg.cell h.fw nE, by rw [hc E hE]; exact h.ce, ⟨fun k hk => (h.tab.row k hk).kept hB, fun o => (World.frozen?_of_block hB).trans (h.tab.free o)⟩, by rw [hc B hBl]; exact h.cB, h.ws.grew hn hg (fun b hb e => by have := hZ b hb e; omega) hc, fun b hb => by rw [hc b (by omega)]; exact h.low b hb⟩
/-- The hands at the beginning. -/
theorem CrewN.hands {w : World} {c : Nat → Nat} {N E B D NB : Nat} {vW vH : Value} {C : Nat → Nat} {U : Nat → Value} {H : Nat → Nat} {V : Nat → Value} {Vb : Nat → Value} {r : List (List Op5)} {T : Nat → List Slot4} (h : CrewN w c N E B D NB vW vH C U r.length H V r.length Vb r T) : HandC w c N NB E D vH H V r Vb (fun _ => wk0) (fun _ => .slice none 0 0) (fun _ => []) T :=
  ⟨h.e.fb, h.e.fh, h.ce, h.hs.own, h.hs.col, h.hs.hd, h.hs.cH, fun _ _ => World.ownsRow_nil _ _ _ _, fun i hi g hg => (by cases hg), h.hs.dd, h.bd, fun _ _ => putOk_nil _ (fun _ => rfl), fun _ _ => Nat.zero_le _⟩
end Go.Proofs.YthlhbmldfjkagaaDoor

/-
  The walk of the reference's DeedFault at a deed that may be done.
-/
namespace Go.Proofs.YthlhbmldfjkagaaDoor
open Go.RowKit

set_option maxHeartbeats 1000000 in
theorem deed_zero (v : Value) (d : List Op5) (w : World) (hd : DeedAt w v d) (hck : (checkF d).1 = 0) :
    Calls Tryd.prog 22 #[v] w fun e w' => e = .returned (.agg #[.int .i64 0, .int .i64 0]) ∧ Below w.heap.size w w' := by
  have hlen := check_len hck
  have HA : Hid (∀ o ∈ d, aloneF o = 0) := checkF_alone hck
  have HP : Hid (∀ j (hj : j < d.length), (d[j].k = 9 → 1 ≤ d[j].b ∧ (j : Int) + 1 + d[j].b ≤ d.length) ∧ (d[j].k = 8 → ∀ m (hm : m < j), d[m].k ≠ 7)) := check_places hck
  clear hck
  obtain ⟨a, cap, rfl, hd⟩ := hd
  go_enter Tryd.func22, Tryd.ntmps22
  go_wp2_with fail
  go_loopg [3] d.length (fun g i wr => ∃ j : Nat, j ≤ d.length ∧ g = d.length - j ∧ i = .int .i64 j ∧ Below (w.heap.size + 1) (w.alloc (.cells #[.int .i64 0, .int .i64 0] 29)) wr)
  case atStart => exact ⟨0, by omega, by omega, rfl, Below.refl _ _⟩
  case round =>
    obtain ⟨j, hj, hg, rfl, hB⟩ := hrel
    obtain ⟨hz, r0, r1, f0, hB'⟩ := res_cells hB
    by_cases hlt : j < d.length
    · obtain ⟨b, off, rfl, c0, c1, c2, c3, c4⟩ := hd j hlt
      replace c0 := cell_later hB' c0
      replace c1 := cell_later hB' c1
      replace c2 := cell_later hB' c2
      replace c3 := cell_later hB' c3
      replace c4 := cell_later hB' c4
      have ho := HA.out _ (List.getElem_mem hlt)
      go_wp2_with fail
      refine (fault_any d[j] _).mono ?_
      rintro e w1 ⟨rfl, hb1⟩
      rw [ho]
      replace c0 := cell_later hb1 c0
      replace c2 := cell_later hb1 c2
      have hB1 : Below (w.heap.size + 1) (w.alloc (.cells #[.int .i64 0, .int .i64 0] 29)) w1 := hB.trans (hb1.mono (by omega))
      clear r0 r1 f0 hB' hb1 c1 c3 c4 hB hz ho
      obtain ⟨hz1, s0, s1, g0, hB1'⟩ := res_cells hB1
      by_cases h8 : d[j].k = 8
      · have t8 : (d[j].k == 8) = true := by simp [h8]
        have t9 : (d[j].k == 9) = false := by rw [beq_eq_false_iff_ne]; omega
        have H8 : Hid (d[j].k = 8) := h8
        clear h8
        go_wp2_with fail
        go_loopg [5] j (fun g i wr => ∃ m : Nat, m ≤ j ∧ g = j - m ∧ i = .int .i64 m ∧ wr = w1)
        case atStart => exact ⟨0, by omega, by omega, rfl, rfl⟩
        case round =>
          obtain ⟨m, hm, hgm, rfl, hwr⟩ := hrel
          subst hwr
          by_cases hmj : m < j
          · obtain ⟨b', off', e', q0, -⟩ := hd m (by omega)
            cases e'
            replace q0 := cell_later hB1' q0
            have h7 := (HP.out j hlt).2 H8.out m hmj
            have t7 : (d[m].k == 7) = false := by simp [h7]
            clear h7
            go_wp2_with fail
            go_roundg (j - (m + 1))
            case measure => omega
            case rel => exact ⟨m + 1, by omega, rfl, by go_num, rfl⟩
          · obtain rfl : m = j := by omega
            go_wp2_with fail
            go_roundg (d.length - (m + 1))
            case measure => omega
            case rel => exact ⟨m + 1, by omega, rfl, by go_num, hB1⟩
      · have t8 : (d[j].k == 8) = false := by simp [h8]
        by_cases h9 : d[j].k = 9
        · have t9 : (d[j].k == 9) = true := by simp [h9]
          have hb := (HP.out j hlt).1 h9
          have h14 : d[j].b < 14 := by
            have := alone_parts (HA.out _ (List.getElem_mem hlt))
            omega
          have hb1 : ¬ d[j].b < 1 := by omega
          have hb2 : ¬ (d.length : Int) ≤ j + d[j].b := by omega
          clear h9 hd h8
          go_wp2_with fail
          go_roundg (d.length - (j + 1))
          case measure => omega
          case rel => exact ⟨j + 1, by omega, rfl, by go_num, hB1⟩
        · have t9 : (d[j].k == 9) = false := by simp [h9]
          clear h8 h9 hd
          go_wp2_with fail
          go_roundg (d.length - (j + 1))
          case measure => omega
          case rel => exact ⟨j + 1, by omega, rfl, by go_num, hB1⟩
    · obtain rfl : j = d.length := by omega
      clear hd
      go_wp2_with fail
      exact bodyPost_ret (v := .agg #[.int .i64 0, .int .i64 0]) (by simp [results, Tryd.results22, go_sem, r0, r1]) rfl ⟨rfl, below_two hB' _ _⟩
end Go.Proofs.YthlhbmldfjkagaaDoor

/-
  A region that draws its order: what is held of the world is asked till the late operations come up.
-/
namespace Go.Proofs.YthlhbmldfjkagaaDoor
open Go

section
variable {P : Program} {md : Region.Mode} {ops : Array Oper} {Q : Exit → Act → World → Prop} {S : World → Prop} {late : Nat → Bool}

/-- Whatever order is picked from here on; S holds behind each operation that is not a late one. -/
def AnyTill (P : Program) (md : Region.Mode) (ops : Array Oper) (Q : Exit → Act → World → Prop) (S : World → Prop) (late : Nat → Bool) : Nat → Array Bool → Act → World → Prop
  | 0, listed, a, w => Region.ready md ops listed = [] ∧ Q .normal a w
  | n + 1, listed, a, w => (Region.ready md ops listed = [] → Q .normal a w) ∧
      ∀ i ∈ Region.ready md ops listed, wpOp P ops Q i (fun a' w' => (late i = false → S w') ∧ AnyTill P md ops Q S late n (listed.setIfInBounds i true) a' w') a w

theorem AnyTill.any : ∀ (n : Nat) (listed : Array Bool) (a : Act) (w : World), AnyTill P md ops Q S late n listed a w → wpAny P md ops Q n listed a w
  | 0, _, _, _, h => h
  | n + 1, _, _, _, h => ⟨h.1, fun i hi => wpOp_mono (fun a' w' h' => AnyTill.any n _ a' w' h'.2) (h.2 i hi)⟩

/-- The operation o waits for i, or for one of L. -/
def waitsOn (md : Region.Mode) (L : List Nat) (i : Nat) (o : Oper) : Bool := o.after.any fun e => Region.binds md e && (e.on == i || L.contains e.on)
/-- Each late operation, and each of L, waits for i or for one of L. -/
def waitsBy (md : Region.Mode) (ops : Array Oper) (late : Nat → Bool) (L : List Nat) (i : Nat) : Bool :=
  (List.range ops.size).all fun j => !(late j || L.contains j) || (match ops[j]? with | some o => waitsOn md L i o | none => true)
theorem waitsBy_spec {L : List Nat} {i : Nat} (h : waitsBy md ops late L i = true) {j : Nat} {oj : Oper} (hj : ops[j]? = some oj) (hl : late j = true ∨ j ∈ L) : ∃ e ∈ oj.after, Region.binds md e = true ∧ (e.on = i ∨ e.on ∈ L) := by
  unfold waitsBy at h
  rw [List.all_eq_true] at h
  have h1 := h j (List.mem_range.2 (Array.getElem?_eq_some_iff.1 hj).1)
  have h2 : (late j || L.contains j) = true := by rcases hl with hl | hl <;> simp [hl]
  rw [h2, hj] at h1
  simp only [Bool.not_true, Bool.false_or, waitsOn] at h1
  obtain ⟨e, he, hb⟩ := Array.any_eq_true'.1 h1
  simp only [Bool.and_eq_true, Bool.or_eq_true, beq_iff_eq, List.contains_eq_mem, decide_eq_true_eq] at hb
  exact ⟨e, he, hb.1, hb.2⟩

theorem anyTill_first {i : Nat} {oi : Oper} {v : Value} {L : List Nat} (hi : ops[i]? = some oi) (hsel : ∀ (j : Nat) (o : Oper) cs b, ops[j]? = some o → o.op ≠ .select cs b)
    (hQ : ∀ c a w, Q (.panic c) (a.put oi.dst v) w → Q (.panic c) a w) (hl : waitsBy md ops late L i = true) :
    ∀ (n : Nat) (listed : Array Bool) (a : Act) (w : World),
      (∀ j oj, ops[j]? = some oj → j ≠ i → listed.getD j true = false → (∀ e ∈ oj.after, Region.binds md e = true → e.on ≠ i) → oi.apart ops oj = true) →
      i ∈ Region.ready md ops listed → (∀ l ∈ L, listed.getD l true = false) → YieldsIf P ops S oi v a → S w →
      AnyTill P md ops Q S late n (listed.setIfInBounds i true) (a.put oi.dst v) w → AnyTill P md ops Q S late (n + 1) listed a w := by
  intro n
  induction n with
  | zero =>
    intro listed a w _ hr _ hy hS H
    refine ⟨fun h => (by rw [h] at hr; cases hr), fun j hj => ?_⟩
    by_cases hji : j = i
    · subst hji; exact hy.wpOp hi hS ⟨fun _ => hS, H⟩
    · have := ready_mono hj hji
      rw [H.1] at this; cases this
  | succ n ih =>
    intro listed a w hfree hr hL hy hS H
    refine ⟨fun h => (by rw [h] at hr; cases hr), fun j hj => ?_⟩
    by_cases hji : j = i
    · subst hji; exact hy.wpOp hi hS ⟨fun _ => hS, H⟩
    · have h1 := H.2 j (ready_mono hj hji)
      obtain ⟨hjun, oj, hoj, hall⟩ := mem_ready.1 hj
      have hun : listed.getD i true = false := (mem_ready.1 hr).1
      have hno : ∀ k, listed.getD k true = false → listed.getD k false = true → False := fun k h0 h3 => by
        rcases Nat.lt_or_ge k listed.size with h' | h'
        · simp [h'] at h0 h3; rw [h0] at h3; cases h3
        · simp [Array.getElem?_eq_none h'] at h3
      have hnot : ∀ e ∈ oj.after, Region.binds md e = true → e.on ≠ i := fun e he hb heq => hno i hun (by rw [← heq]; exact hall e he hb)
      have hfree2 : ¬ (late j = true ∨ j ∈ L) := fun hc => by
        obtain ⟨e, he, hb, hon | hon⟩ := waitsBy_spec hl hoj hc
        · exact hnot e he hb hon
        · exact hno e.on (hL e.on hon) (hall e he hb)
      have hearly : late j = false := by cases hlj : late j with
        | false => rfl
        | true => exact absurd (.inl hlj) hfree2
      have h2 := wpOp_putIf hoj (hfree j oj hoj hji hjun hnot) (fun cs b => hsel i oi cs b hi) (fun cs b => hsel j oj cs b hoj) hQ hy h1
      refine wpOp_mono (fun a' w' h3 => ⟨fun _ => h3.2.1 hearly, ih (listed.setIfInBounds j true) a' w' (fun k ok hk hki hku hno => hfree k ok hk hki ?_ hno) (ready_mono hr (Ne.symm hji)) (fun l hl => ?_) h3.1 (h3.2.1 hearly) ?_⟩) h2
      · by_cases hjk : j = k
        · subst hjk; exact hjun
        · rw [getD_set_ne true hjk] at hku; exact hku
      · rw [getD_set_ne true (fun (e : j = l) => hfree2 (.inr (by rw [e]; exact hl)))]; exact hL l hl
      · rw [Array.setIfInBounds_comm _ _ hji]; exact h3.2.2

/-- The same behind a wall that no unifier looks through. -/
structure AnyT (P : Program) (md : Region.Mode) (ops : Array Oper) (Q : Exit → Act → World → Prop) (S : World → Prop) (late : Nat → Bool) (n : Nat) (listed : Array Bool) (a : Act) (w : World) : Prop where
  out : AnyTill P md ops Q S late n listed a w

theorem anyT_take (i : Nat) (L : List Nat) (v : Value) {oi : Oper} {n : Nat} {listed : Array Bool} {a : Act} {w : World} (hi : ops[i]? = some oi)
    (hs : Region.noSelect ops = true) (hf : Region.free md ops listed i = true) (hr : (Region.ready md ops listed).contains i = true) (hl : waitsBy md ops late L i = true) (hL : (L.all fun l => listed.getD l true == false) = true)
    (hQ : ∀ c a w, Q (.panic c) (a.put oi.dst v) w → Q (.panic c) a w) (hy : YieldsIf P ops S oi v a) (hS : S w)
    (h : AnyT P md ops Q S late n (listed.setIfInBounds i true) (a.put oi.dst v) w) : AnyT P md ops Q S late (n + 1) listed a w :=
  ⟨anyTill_first hi (Region.noSelect_spec hs) hQ hl n listed a w (Region.free_spec hi hf) (by simpa using hr) (fun l hl => by have := List.all_eq_true.1 hL l hl; simpa using this) hy hS h.out⟩

/-- Each of rs comes up next. -/
structure EachT (P : Program) (md : Region.Mode) (ops : Array Oper) (Q : Exit → Act → World → Prop) (S : World → Prop) (late : Nat → Bool) (n : Nat) (listed : Array Bool) (a : Act) (w : World) (rs : List Nat) : Prop where
  out : ∀ i ∈ rs, wpOp P ops Q i (fun a' w' => (late i = false → S w') ∧ AnyTill P md ops Q S late n (listed.setIfInBounds i true) a' w') a w
theorem EachT.nil {n : Nat} {listed : Array Bool} {a : Act} {w : World} : EachT P md ops Q S late n listed a w [] := ⟨fun _ h => by cases h⟩
theorem EachT.cons {n : Nat} {listed : Array Bool} {a : Act} {w : World} {i : Nat} {o : Oper} {rs : List Nat} (ho : ops[i]? = some o)
    (h : ∀ K' : Act → World → Prop, Shut (∀ a w, (late i = false → S w) → AnyT P md ops Q S late n (listed.setIfInBounds i true) a w → K' a w) → if Region.wanted o (yielded ops a.tmps) = true then Oper.wp P o a w K' Q else K' (a.put o.dst undef) w)
    (hs : EachT P md ops Q S late n listed a w rs) : EachT P md ops Q S late n listed a w (i :: rs) := ⟨fun j hj => by
  rcases List.mem_cons.1 hj with rfl | hj
  · exact wpOp_step ho (fun K' hK => h K' (fun a w hS hW => hK a w ⟨hS, hW.out⟩))
  · exact hs.out j hj⟩
theorem anyT_ready (rs : List Nat) {n : Nat} {listed : Array Bool} {a : Act} {w : World} (hr : Region.ready md ops listed = rs) (hne : rs ≠ [])
    (h : EachT P md ops Q S late n listed a w rs) : AnyT P md ops Q S late (n + 1) listed a w := ⟨⟨fun h0 => absurd (hr ▸ h0) hne, hr ▸ h.out⟩⟩
theorem anyT_done {listed : Array Bool} {a : Act} {w : World} (hr : Region.ready md ops listed = []) (h : Q .normal a w) : AnyT P md ops Q S late 0 listed a w := ⟨⟨hr, h⟩⟩
theorem wp_region_till {id : Nat} {a : Act} {w : World} (late : Nat → Bool) (hm : P.follows .mixedOrders = true) (hS : S w.drew)
    (h : S w.drew → AnyT P .any ops Q S late ops.size (Array.replicate ops.size false) a w.drew) : (Code.region id ops true).wp P Q a w :=
  wp_region_any hm (AnyTill.any _ _ _ _ (h hS).out)
end
end Go.Proofs.YthlhbmldfjkagaaDoor

/-
  What is known of a list of numbers when the call begins.
-/
namespace Go.Proofs.YthlhbmldfjkagaaDoor
open Go.ChangeShapes Go.WideShapes Go.ChangeAt Go.RowKit

set_option maxRecDepth 100000

section
variable {H : Type} {enc : TypeId × Value → H} {w : World} {base : Nat} {sp : Nat → Bool} {held : Bool}

theorem nums_open {v : Value} {d : DataW H} {ps : List MemPlace} (h : DataW.Trod enc Tryd.prog w base sp held 77 v d ps) {a0 : Option Addr} {len cap : Nat} (hv : v = .slice a0 len cap) :
    ∃ l : List Int, (∀ i (h : i < l.length), ∃ b off, a0 = some ⟨b, off, none⟩ ∧ w.cell? ⟨b, off + i, none⟩ = some (.int .i64 l[i])) ∧ l.length = len ∧ l.length ≤ 9223372036854775807 := by
  subst hv
  obtain ⟨fuel, hf⟩ := h
  rcases Go.Deep.open_slice1 Tryd.underlying77 cells3' hf with ⟨hc, -⟩ | ⟨a, len', cap', m, n, V, D, Pl, hc, hb, hl, hm, hmm, -, hx⟩
  · simp [Value.cells] at hc
    obtain ⟨rfl, rfl, rfl⟩ := hc
    exact ⟨[], fun i hi => by simp at hi, rfl, by simp⟩
  · simp [Value.cells] at hc
    obtain ⟨rfl, rfl, rfl⟩ := hc
    have hlm : len ≤ m := by rw [hmm]; split <;> omega
    obtain ⟨f, hf⟩ := Go.Deep.choose_lt (α := Int) (n := len) (p := fun i o => V i = .int .i64 o) (fun i hi => by
      obtain ⟨k, e, -⟩ := DataW.trod_int Tryd.underlying3 (hx i (by omega)).2
      simp only [List.cons.injEq, and_true] at e
      exact ⟨k, e⟩)
    refine ⟨(List.range len).map f, fun i hi => ?_, by simp, by simp; unfold maxLen at hm; omega⟩
    have hi' : i < len := by simpa using hi
    have ha : a = ⟨a.block, a.off, none⟩ := spot_none (hx 0 (by omega)).1 rfl
    refine ⟨a.block, a.off, by rw [← ha], ?_⟩
    have := (hx i (by omega)).1
    rw [ha, add_off, hf i hi'] at this
    simpa using this
end
end Go.Proofs.YthlhbmldfjkagaaDoor
