/-
  A crew as it lies in memory: each block has a colour, and blocks of different colours are different.
-/
import Derived.Test.YthlhbmldfjkagaaDoorCrewW
import Derived.Test.YthlhbmldfjkagaaDoorBoardB
namespace Go.Proofs.YthlhbmldfjkagaaDoor
open Go.RowKit Go.Shelf

/-- The four cells of a crew. -/
structure EAt (w : World) (E B D : Nat) (vW vH : Value) : Prop where
  ft : w.cell? ⟨E, 0, none⟩ = some (.pointer (some ⟨B, 0, none⟩))
  fb : w.cell? ⟨E, 1, none⟩ = some (.pointer (some ⟨D, 0, none⟩))
  fw : w.cell? ⟨E, 2, none⟩ = some vW
  fh : w.cell? ⟨E, 3, none⟩ = some vH
  free : ∀ o, w.frozen? ⟨E, o, none⟩ = false
theorem EAt.kept {w w' : World} {E B D : Nat} {vW vH : Value} (h : EAt w E B D vW vH) (hb : w'.heap[E]? = w.heap[E]?) : EAt w' E B D vW vH := by
  have hc : ∀ o, w'.cell? ⟨E, o, none⟩ = w.cell? ⟨E, o, none⟩ := fun o => World.cell?_of_block hb
  exact ⟨by rw [hc]; exact h.ft, by rw [hc]; exact h.fb, by rw [hc]; exact h.fw, by rw [hc]; exact h.fh, fun o => (World.frozen?_of_block hb).trans (h.free o)⟩
theorem EAt.lt {w : World} {E B D : Nat} {vW vH : Value} (h : EAt w E B D vW vH) : E < w.heap.size := World.block_lt_of_cell? w _ h.ft
theorem EAt.setW {w : World} {E B D : Nat} {vW vH : Value} (h : EAt w E B D vW vH) (v : Value) : EAt (w.setCell ⟨E, 2, none⟩ v) E B D v vH :=
  ⟨by rw [cell_apart _ (by omega)]; exact h.ft, by rw [cell_apart _ (by omega)]; exact h.fb, World.cell?_setCell_same _ _ _ h.fw, by rw [cell_apart _ (by omega)]; exact h.fh, fun o => by rw [World.frozen?_setCell]; exact h.free o⟩
theorem EAt.setH {w : World} {E B D : Nat} {vW vH : Value} (h : EAt w E B D vW vH) (v : Value) : EAt (w.setCell ⟨E, 3, none⟩ v) E B D vW v :=
  ⟨by rw [cell_apart _ (by omega)]; exact h.ft, by rw [cell_apart _ (by omega)]; exact h.fb, by rw [cell_apart _ (by omega)]; exact h.fw, World.cell?_setCell_same _ _ _ h.fh, fun o => by rw [World.frozen?_setCell]; exact h.free o⟩

/-- A hand (the reference's worker): its deed, its number, its place, its registers, what it stored, whether it is over, its result. -/
structure HandAt (w : World) (G : Nat) (dv : Value) (b : Nat) (x : Wk) (vs : Value) : Prop where
  deed : w.cell? ⟨G, 0, none⟩ = some dv
  num : w.cell? ⟨G, 1, none⟩ = some (.int .i64 (b : Int))
  place : w.cell? ⟨G, 2, none⟩ = some (.int .i64 (x.nx : Int))
  reg : ∀ i, i < 4 → w.cell? ⟨G, 3 + i, none⟩ = some (.int .i64 (x.regs i))
  sto : w.cell? ⟨G, 7, none⟩ = some vs
  over : w.cell? ⟨G, 8, none⟩ = some (.bool x.over)
  code : w.cell? ⟨G, 9, none⟩ = some (.int .i64 (if x.over then x.code else 0))
  res : ∀ i, i < 4 → w.cell? ⟨G, 10 + i, none⟩ = some (.int .i64 (if x.over then x.regs i else 0))
  free : ∀ o, w.frozen? ⟨G, o, none⟩ = false
theorem HandAt.lt {w : World} {G : Nat} {dv : Value} {b : Nat} {x : Wk} {vs : Value} (h : HandAt w G dv b x vs) : G < w.heap.size := World.block_lt_of_cell? w _ h.deed
theorem HandAt.kept {w w' : World} {G : Nat} {dv : Value} {b : Nat} {x : Wk} {vs : Value} (h : HandAt w G dv b x vs) (hb : w'.heap[G]? = w.heap[G]?) : HandAt w' G dv b x vs := by
  have hc : ∀ o, w'.cell? ⟨G, o, none⟩ = w.cell? ⟨G, o, none⟩ := fun o => World.cell?_of_block hb
  exact ⟨by rw [hc]; exact h.deed, by rw [hc]; exact h.num, by rw [hc]; exact h.place, fun k hk => by rw [hc]; exact h.reg k hk, by rw [hc]; exact h.sto, by rw [hc]; exact h.over, by rw [hc]; exact h.code, fun k hk => by rw [hc]; exact h.res k hk, fun o => (World.frozen?_of_block hb).trans (h.free o)⟩

/-- The hands, and the row of pointers to them; what each stored lies in a row of its own. -/
structure HandsAt (w : World) (c : Nat → Nat) (N : Nat) (vH : Value) (H : Nat → Nat) (V : Nat → Value) (n : Nat) (r : List (List Op5)) (X : Nat → Wk) (S : Nat → Value) (L : Nat → List Value) : Prop where
  own : w.ownsRow N 91 1 vH n (ptrs H n)
  col : ∀ g, vH.ownBlock = some g → c g = 4
  hd : ∀ i, i < n → HandAt w (H i) (V i) i (X i) (S i)
  cH : ∀ i, i < n → c (H i) = 200 + i
  so : ∀ i, i < n → ∃ m, w.ownsRow N 34 5 (S i) m (L i)
  cS : ∀ i, i < n → ∀ g, (S i).ownBlock = some g → c g = 300 + i
  dd : ∀ i, i < n → ∀ h : i < r.length, DeedIn (fun g => c g = 0) w (V i) r[i]
theorem HandsAt.grew {Z : Nat → Prop} {w w' : World} {c c' : Nat → Nat} {N : Nat} {vH : Value} {H : Nat → Nat} {V : Nat → Value} {n : Nat} {r : List (List Op5)} {X : Nat → Wk} {S : Nat → Value} {L : Nat → List Value} (h : HandsAt w c N vH H V n r X S L) (hg : Grew Z w w') (hS : ∀ b, b < w.heap.size → Z b → c b ≠ 4 ∧ c b ≠ 0 ∧ c b < 200) (hc : ∀ b, b < w.heap.size → c' b = c b) : HandsAt w' c' N vH H V n r X S L := by
  refine ⟨owns_kept h.own fun g hgg => ?_, fun g hgg => ?_, fun i hi => ?_, fun i hi => ?_, fun i hi => ?_, fun i hi g hgg => ?_, fun i hi hr => ?_⟩
  · have hlt := (owns_lt h.own hgg).2
    exact hg.block g hlt (fun e => (hS g hlt e).1 (h.col g hgg))
  · rw [hc g (owns_lt h.own hgg).2]; exact h.col g hgg
  · have h1 := h.hd i hi
    exact h1.kept (hg.block _ h1.lt (fun e => by have := (hS _ h1.lt e).2.2; have := h.cH i hi; omega))
  · rw [hc _ (h.hd i hi).lt]; exact h.cH i hi
  · obtain ⟨m, hm⟩ := h.so i hi
    exact ⟨m, owns_kept hm fun g hgg => hg.block g (owns_lt hm hgg).2 (fun e => by have := (hS _ (owns_lt hm hgg).2 e).2.2; have := h.cS i hi g hgg; omega)⟩
  · obtain ⟨m, hm⟩ := h.so i hi
    rw [hc g (owns_lt hm hgg).2]; exact h.cS i hi g hgg
  · have h1 := h.dd i hi hr
    have h2 : DeedIn (fun g => c g = 0 ∧ g < w.heap.size) w (V i) r[i] := h1.mono fun b hb hp => ⟨hp, hb⟩
    exact (h2.grew hg (fun b hb e => (hS b hb.2 e).2.1 hb.1)).mono fun b _ hb => by rw [hc b hb.2]; exact hb.1
theorem HandsAt.push {w w' : World} {c : Nat → Nat} {N : Nat} {vH v1 : Value} {H : Nat → Nat} {V : Nat → Value} {n Hn : Nat} {dv : Value} {r : List (List Op5)} (h : HandsAt w c N vH H V n r (fun _ => wk0) (fun _ => .slice none 0 0) (fun _ => [])) (hw : HandAt w Hn dv n wk0 (.slice none 0 0)) (hcn : c Hn = 200 + n) (hd : ∀ h : n < r.length, DeedIn (fun g => c g = 0) w dv r[n])
    (ho : w'.ownsRow N 91 1 v1 (n + 1) (ptrs H n ++ [.pointer (some ⟨Hn, 0, none⟩)])) (hg : w.grownBy w' vH.ownBlock) (hat : v1.ownBlock = vH.ownBlock ∨ v1.ownBlock = some w.heap.size) :
    HandsAt w' (recol c w.heap.size 4) N v1 (putN H n Hn) (putV V n dv) (n + 1) r (fun _ => wk0) (fun _ => .slice none 0 0) (fun _ => []) := by
  have hrc : ∀ b, b < w.heap.size → recol c w.heap.size 4 b = c b := fun b hb => by unfold recol; rw [if_neg (by omega)]
  have hgs : Grew (fun b => vH.ownBlock = some b) w w' := ⟨hg.os, hg.tape, hg.output, hg.size, fun k hk hn => hg.block k hk (fun e => hn e.symm)⟩
  have hblk : ∀ b, c b ≠ 4 → b < w.heap.size → w'.heap[b]? = w.heap[b]? := fun b hb hlt => hg.block b hlt (fun e => hb (h.col b e.symm))
  have hC : ∀ i, i < n → putN H n Hn i = H i := fun i hi => by unfold putN; rw [if_neg (by omega)]
  have hU : ∀ i, i < n → putV V n dv i = V i := fun i hi => by unfold putV; rw [if_neg (by omega)]
  have hCn : putN H n Hn n = Hn := by unfold putN; rw [if_pos rfl]
  have hUn : putV V n dv n = dv := by unfold putV; rw [if_pos rfl]
  refine ⟨?_, fun g hgg => ?_, fun i hi => ?_, fun i hi => ?_, fun i hi => ⟨0, World.ownsRow_nil _ _ _ _⟩, fun i hi g hgg => (by cases hgg), fun i hi hr => ?_⟩
  · rw [ptrs_succ, hCn, ptrs_congr (C' := H) hC]; exact ho
  · rcases hat with e | e
    · rw [e] at hgg
      rw [hrc g (owns_lt h.own hgg).2]; exact h.col g hgg
    · rw [e] at hgg; cases hgg; unfold recol; rw [if_pos rfl]
  · by_cases e : i = n
    · subst e; rw [hCn, hUn]; exact hw.kept (hblk _ (by omega) hw.lt)
    · rw [hC i (by omega), hU i (by omega)]
      have h1 := h.hd i (by omega)
      exact h1.kept (hblk _ (by have := h.cH i (by omega); omega) h1.lt)
  · by_cases e : i = n
    · subst e; rw [hCn, hrc _ hw.lt]; exact hcn
    · rw [hC i (by omega), hrc _ (h.hd i (by omega)).lt]; exact h.cH i (by omega)
  · have key : ∀ v, DeedIn (fun g => c g = 0) w v r[i] → DeedIn (fun g => recol c w.heap.size 4 g = 0) w' v r[i] := fun v h1 => by
      have h2 : DeedIn (fun g => c g = 0 ∧ g < w.heap.size) w v r[i] := h1.mono fun b hb hp => ⟨hp, hb⟩
      exact (h2.grew hgs (fun b hb e => by have := h.col b e; omega)).mono fun b _ hb => by rw [hrc b hb.2]; exact hb.1
    by_cases e : i = n
    · subst e; rw [hUn]; exact key _ (hd hr)
    · rw [hU i (by omega)]; exact key _ (h.dd i (by omega) hr)

/-- A board whose blocks have their colours. -/
structure BoardC (w : World) (c : Nat → Nat) (N D : Nat) (T : Nat → List Slot4) (V : Nat → Value) : Prop where
  at' : BoardAt w N D T V
  cD : c D = 6
  cV : ∀ k, k < 10 → ∀ g, (V k).ownBlock = some g → c g = 20 + k
theorem BoardC.grew {Z : Nat → Prop} {w w' : World} {c c' : Nat → Nat} {N D : Nat} {T : Nat → List Slot4} {V : Nat → Value} (h : BoardC w c N D T V) (hg : Grew Z w w') (hS : ∀ b, b < w.heap.size → Z b → c b ≠ 6 ∧ (c b < 20 ∨ 30 ≤ c b)) (hc : ∀ b, b < w.heap.size → c' b = c b) : BoardC w' c' N D T V := by
  have hlt : ∀ k, k < 10 → ∀ g, (V k).ownBlock = some g → g < w.heap.size := fun k hk g hgg => (owns_lt (h.at'.own k hk) hgg).2
  refine ⟨h.at'.kept (hg.block D h.at'.lt (fun e => (hS D h.at'.lt e).1 h.cD)) (fun k hk g hgg => hg.block g (hlt k hk g hgg) (fun e => by have := (hS g (hlt k hk g hgg) e).2; have := h.cV k hk g hgg; omega)), by rw [hc D h.at'.lt]; exact h.cD, fun k hk g hgg => by rw [hc g (hlt k hk g hgg)]; exact h.cV k hk g hgg⟩
end Go.Proofs.YthlhbmldfjkagaaDoor
