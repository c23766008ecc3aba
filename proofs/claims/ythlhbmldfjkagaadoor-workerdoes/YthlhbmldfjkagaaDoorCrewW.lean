/-
  The workers of a round as they lie in memory, and the row of pointers to them.
-/
import Derived.Test.YthlhbmldfjkagaaDoorWorkN
import Derived.Test.YthlhbmldfjkagaaDoorBoardA
namespace Go.Proofs.YthlhbmldfjkagaaDoor
open Go.RowKit Go.Shelf

def ptrs (C : Nat → Nat) (n : Nat) : List Value := (List.range n).map fun i => .pointer (some ⟨C i, 0, none⟩)
theorem ptrs_succ (C : Nat → Nat) (n : Nat) : ptrs C (n + 1) = ptrs C n ++ [.pointer (some ⟨C n, 0, none⟩)] := by
  unfold ptrs; rw [List.range_succ, List.map_append]; rfl
theorem ptrs_congr {C C' : Nat → Nat} {n : Nat} (h : ∀ i, i < n → C i = C' i) : ptrs C n = ptrs C' n := by
  unfold ptrs
  apply List.map_congr_left
  intro i hi
  rw [h i (by simpa using hi)]
theorem ptrs_at (C : Nat → Nat) {n i : Nat} (h : i < n) : (ptrs C n)[i]? = some (.pointer (some ⟨C i, 0, none⟩)) := by
  unfold ptrs; simp [h]
def putN (C : Nat → Nat) (n k : Nat) : Nat → Nat := fun i => if i = n then k else C i
def recol (c : Nat → Nat) (m k : Nat) : Nat → Nat := fun b => if b = m then k else c b

/-- The workers, and the row of pointers to them. -/
structure WorkersAt (w : World) (c : Nat → Nat) (N : Nat) (vW : Value) (C : Nat → Nat) (U : Nat → Value) (n : Nat) (r : List (List Op5)) (X : Nat → Wk) : Prop where
  own : w.ownsRow N 81 1 vW n (ptrs C n)
  col : ∀ g, vW.ownBlock = some g → c g = 3
  wk : ∀ i, i < n → WorkAt w (C i) (U i) i (X i)
  ck : ∀ i, i < n → c (C i) = 100 + i
  dd : ∀ i, i < n → ∀ h : i < r.length, DeedIn (fun g => c g = 5) w (U i) r[i]
theorem WorkersAt.grew {S : Nat → Prop} {w w' : World} {c c' : Nat → Nat} {N : Nat} {vW : Value} {C : Nat → Nat} {U : Nat → Value} {n : Nat} {r : List (List Op5)} {X : Nat → Wk} (h : WorkersAt w c N vW C U n r X) (hn : n ≤ 100) (hg : Grew S w w') (hS : ∀ b, b < w.heap.size → S b → c b ≠ 3 ∧ c b ≠ 5 ∧ (c b < 100 ∨ 200 ≤ c b)) (hc : ∀ b, b < w.heap.size → c' b = c b) : WorkersAt w' c' N vW C U n r X := by
  refine ⟨owns_kept h.own fun g hgg => ?_, fun g hgg => ?_, fun i hi => ?_, fun i hi => ?_, fun i hi hr => ?_⟩
  · have hlt := (owns_lt h.own hgg).2
    exact hg.block g hlt (fun e => (hS g hlt e).1 (h.col g hgg))
  · rw [hc g (owns_lt h.own hgg).2]; exact h.col g hgg
  · exact (h.wk i hi).grew hg (fun e => by have := (hS _ (h.wk i hi).lt e).2.2; have := h.ck i hi; omega)
  · rw [hc _ (h.wk i hi).lt]; exact h.ck i hi
  · have h1 := h.dd i hi hr
    have h2 : DeedIn (fun g => c g = 5 ∧ g < w.heap.size) w (U i) r[i] := h1.mono fun b hb hp => ⟨hp, hb⟩
    exact (h2.grew hg (fun b hb e => (hS b hb.2 e).2.1 hb.1)).mono fun b _ hb => by rw [hc b hb.2]; exact hb.1
theorem WorkersAt.push {w w' : World} {c : Nat → Nat} {N : Nat} {vW v1 : Value} {C : Nat → Nat} {U : Nat → Value} {n Cn : Nat} {u : Value} {r : List (List Op5)} (h : WorkersAt w c N vW C U n r (fun _ => wk0)) (hn : n < 100) (hw : WorkAt w Cn u n wk0) (hcn : c Cn = 100 + n) (hd : ∀ h : n < r.length, DeedIn (fun g => c g = 5) w u r[n])
    (ho : w'.ownsRow N 81 1 v1 (n + 1) (ptrs C n ++ [.pointer (some ⟨Cn, 0, none⟩)])) (hg : w.grownBy w' vW.ownBlock) (hat : v1.ownBlock = vW.ownBlock ∨ v1.ownBlock = some w.heap.size) :
    WorkersAt w' (recol c w.heap.size 3) N v1 (putN C n Cn) (putV U n u) (n + 1) r (fun _ => wk0) := by
  have hrc : ∀ b, b < w.heap.size → recol c w.heap.size 3 b = c b := fun b hb => by unfold recol; rw [if_neg (by omega)]
  have hgs : Grew (fun b => vW.ownBlock = some b) w w' := ⟨hg.os, hg.tape, hg.output, hg.size, fun k hk hn => hg.block k hk (fun e => hn e.symm)⟩
  have hblk : ∀ b, c b ≠ 3 → b < w.heap.size → w'.heap[b]? = w.heap[b]? := fun b hb hlt => hg.block b hlt (fun e => hb (h.col b e.symm))
  have hC : ∀ i, i < n → putN C n Cn i = C i := fun i hi => by unfold putN; rw [if_neg (by omega)]
  have hU : ∀ i, i < n → putV U n u i = U i := fun i hi => by unfold putV; rw [if_neg (by omega)]
  have hCn : putN C n Cn n = Cn := by unfold putN; rw [if_pos rfl]
  have hUn : putV U n u n = u := by unfold putV; rw [if_pos rfl]
  refine ⟨?_, fun g hgg => ?_, fun i hi => ?_, fun i hi => ?_, fun i hi hr => ?_⟩
  · rw [ptrs_succ, hCn, ptrs_congr (C' := C) hC]; exact ho
  · rcases hat with e | e
    · rw [e] at hgg
      rw [hrc g (owns_lt h.own hgg).2]; exact h.col g hgg
    · rw [e] at hgg; cases hgg; unfold recol; rw [if_pos rfl]
  · by_cases e : i = n
    · subst e; rw [hCn, hUn]; exact hw.kept (hblk _ (by omega) hw.lt)
    · rw [hC i (by omega), hU i (by omega)]
      have h1 := h.wk i (by omega)
      exact h1.kept (hblk _ (by have := h.ck i (by omega); omega) h1.lt)
  · by_cases e : i = n
    · subst e; rw [hCn, hrc _ hw.lt]; exact hcn
    · rw [hC i (by omega), hrc _ (h.wk i (by omega)).lt]; exact h.ck i (by omega)
  · have key : ∀ v, DeedIn (fun g => c g = 5) w v r[i] → DeedIn (fun g => recol c w.heap.size 3 g = 5) w' v r[i] := fun v h1 => by
      have h2 : DeedIn (fun g => c g = 5 ∧ g < w.heap.size) w v r[i] := h1.mono fun b hb hp => ⟨hp, hb⟩
      exact (h2.grew hgs (fun b hb e => by have := h.col b e; omega)).mono fun b _ hb => by rw [hrc b hb.2]; exact hb.1
    by_cases e : i = n
    · subst e; rw [hUn]; exact key _ (hd hr)
    · rw [hU i (by omega)]; exact key _ (h.dd i (by omega) hr)
end Go.Proofs.YthlhbmldfjkagaaDoor
