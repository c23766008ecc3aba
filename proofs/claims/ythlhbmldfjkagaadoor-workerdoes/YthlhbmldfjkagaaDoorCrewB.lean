/-
  A crew while it is made: one worker more, one hand more.
-/
import Derived.Test.YthlhbmldfjkagaaDoorCrewA
import Derived.Test.YthlhbmldfjkagaaDoorWorkD
namespace Go.Proofs.YthlhbmldfjkagaaDoor
open Go.RowKit Go.Shelf

structure CrewN (w : World) (c : Nat → Nat) (N E B D NB : Nat) (vW vH : Value) (C : Nat → Nat) (U : Nat → Value) (n : Nat) (H : Nat → Nat) (V : Nat → Value) (n' : Nat) (Vb : Nat → Value) (r : List (List Op5)) (T : Nat → List Slot4) : Prop where
  e : EAt w E B D vW vH
  ce : c E = 1
  tab : TabAt w B T
  cB : c B = 2
  ws : WorkersAt w c N vW C U n r (fun _ => wk0)
  hs : HandsAt w c N vH H V n' r (fun _ => wk0) (fun _ => .slice none 0 0) (fun _ => [])
  bd : BoardC w c NB D T Vb
  low : ∀ b, b < N → c b = 0

theorem CrewN.grew {Z : Nat → Prop} {w w' : World} {c c' : Nat → Nat} {N E B D NB : Nat} {vW vH : Value} {C : Nat → Nat} {U : Nat → Value} {n : Nat} {H : Nat → Nat} {V : Nat → Value} {n' : Nat} {Vb : Nat → Value} {r : List (List Op5)} {T : Nat → List Slot4} (h : CrewN w c N E B D NB vW vH C U n H V n' Vb r T) (hn : n ≤ 100) (hN : N ≤ w.heap.size) (hg : Grew Z w w') (hS : ∀ b, b < w.heap.size → ¬ Z b) (hc : ∀ b, b < w.heap.size → c' b = c b) : CrewN w' c' N E B D NB vW vH C U n H V n' Vb r T :=
  ⟨h.e.kept (hg.block E h.e.lt (hS _ h.e.lt)), by rw [hc E h.e.lt]; exact h.ce, h.tab.kept (hg.block B h.tab.lt (hS _ h.tab.lt)), by rw [hc B h.tab.lt]; exact h.cB, h.ws.grew hn hg (fun b hb e => absurd e (hS b hb)) hc, h.hs.grew hg (fun b hb e => absurd e (hS b hb)) hc, h.bd.grew hg (fun b hb e => absurd e (hS b hb)) hc, fun b hb => by rw [hc b (by omega)]; exact h.low b hb⟩

theorem grew_cell (w : World) (E o : Nat) (v : Value) : Grew (fun b => b = E) w (w.setCell ⟨E, o, none⟩ v) := Grew.of_grown (grown_setCell w ⟨E, o, none⟩ v) rfl
theorem grew_row {w w' : World} {v : Value} (hg : w.grownBy w' v.ownBlock) : Grew (fun b => v.ownBlock = some b) w w' := ⟨hg.os, hg.tape, hg.output, hg.size, fun _ hk hn => hg.block _ hk (fun e => hn e.symm)⟩

theorem CrewN.worker {w w1 w3 : World} {o : Obj} {c : Nat → Nat} {N E B D NB : Nat} {vW vH v1 u : Value} {C : Nat → Nat} {U : Nat → Value} {n Cn : Nat} {H : Nat → Nat} {V : Nat → Value} {n' : Nat} {Vb : Nat → Value} {r : List (List Op5)} {T : Nat → List Slot4} (h : CrewN w c N E B D NB vW vH C U n H V n' Vb r T) (hn : n < 100) (hN : N ≤ w.heap.size)
    (hb1 : Below w.heap.size w w1) (hC : w.heap.size ≤ Cn) (hW : WorkAt w1 Cn u n wk0) (hd : ∀ h : n < r.length, DeedIn (fun g => w.heap.size ≤ g ∧ g ≠ Cn) w1 u r[n])
    (ho : w3.ownsRow N 81 1 v1 (n + 1) (ptrs C n ++ [.pointer (some ⟨Cn, 0, none⟩)])) (hg : (w1.alloc o).grownBy w3 vW.ownBlock) (hat : v1.ownBlock = vW.ownBlock ∨ v1.ownBlock = some (w1.alloc o).heap.size) :
    ∃ c', CrewN (w3.setCell ⟨E, 2, none⟩ v1) c' N E B D NB v1 vH (putN C n Cn) (putV U n u) (n + 1) H V n' Vb r T := by
  obtain ⟨c1, hc1⟩ : ∃ c1 : Nat → Nat, c1 = fun b => if b < w.heap.size then c b else if b = Cn then 100 + n else 5 := ⟨_, rfl⟩
  have k1 : ∀ b, b < w.heap.size → c1 b = c b := fun b hb => by rw [hc1]; simp [hb]
  have k2 : c1 Cn = 100 + n := by rw [hc1]; simp [show ¬ Cn < w.heap.size by omega]
  have k3 : ∀ b, w.heap.size ≤ b → b ≠ Cn → c1 b = 5 := fun b hb hne => by rw [hc1]; simp [show ¬ b < w.heap.size by omega, hne]
  have hb2 : Below w.heap.size w (w1.alloc o) := hb1.alloc hb1.size _
  have h2 := h.grew (c' := c1) (by omega) hN (Grew.of_below (S := fun _ => False) hb2) (fun b _ e => e) k1
  have hA : Below w1.heap.size w1 (w1.alloc o) := (Below.refl _ _).alloc (Nat.le_refl _) _
  have hz2 : N ≤ (w1.alloc o).heap.size := Nat.le_trans hN hb2.size
  have hws := h2.ws.push hn (hW.later hA) k2 (fun hr => ((hd hr).mono fun b _ hb => k3 b hb.1 hb.2).later hA) ho hg hat
  have hgr := grew_row hg
  obtain ⟨c3, hc3⟩ : ∃ c3, c3 = recol c1 (w1.alloc o).heap.size 3 := ⟨_, rfl⟩
  rw [← hc3] at hws
  have k4 : ∀ b, b < (w1.alloc o).heap.size → c3 b = c1 b := fun b hb => by rw [hc3]; unfold recol; rw [if_neg (by omega)]
  have hcol : ∀ b, vW.ownBlock = some b → c1 b = 3 := h2.ws.col
  have hE3 := h2.e.kept (hgr.block E h2.e.lt (fun e => by have := hcol E e; have := h2.ce; omega))
  have hs3 := h2.hs.grew hgr (fun b _ e => by have := hcol b e; omega) k4
  have hb3 := h2.bd.grew hgr (fun b _ e => by have := hcol b e; omega) k4
  have ht3 := h2.tab.kept (hgr.block B h2.tab.lt (fun e => by have := hcol B e; have := h2.cB; omega))
  have hcE : c3 E = 1 := by rw [k4 E h2.e.lt]; exact h2.ce
  have hcB : c3 B = 2 := by rw [k4 B h2.tab.lt]; exact h2.cB
  have hg4 := grew_cell w3 E 2 v1
  exact ⟨c3, hE3.setW v1, hcE, ht3.kept (hg4.block B ht3.lt (fun e => by rw [e] at hcB; omega)), hcB, hws.grew (by omega) hg4 (fun b _ e => by subst e; omega) (fun _ _ => rfl), hs3.grew hg4 (fun b _ e => by subst e; omega) (fun _ _ => rfl), hb3.grew hg4 (fun b _ e => by subst e; omega) (fun _ _ => rfl), fun b hb => by rw [k4 b (by omega)]; exact h2.low b hb⟩

theorem CrewN.hand {w w3 : World} {o1 o2 : Obj} {c : Nat → Nat} {N E B D NB : Nat} {vW vH v1 dv : Value} {C : Nat → Nat} {U : Nat → Value} {n : Nat} {H : Nat → Nat} {V : Nat → Value} {n' : Nat} {Vb : Nat → Value} {r : List (List Op5)} {T : Nat → List Slot4} (h : CrewN w c N E B D NB vW vH C U n H V n' Vb r T) (hn : n ≤ 100) (hN : N ≤ w.heap.size)
    (hW : HandAt ((w.alloc o1).alloc o2).drew w.heap.size dv n' wk0 (.slice none 0 0)) (hd : ∀ h : n' < r.length, DeedIn (fun g => g < N) w dv r[n'])
    (ho : w3.ownsRow N 91 1 v1 (n' + 1) (ptrs H n' ++ [.pointer (some ⟨w.heap.size, 0, none⟩)])) (hg : ((w.alloc o1).alloc o2).drew.grownBy w3 vH.ownBlock) (hat : v1.ownBlock = vH.ownBlock ∨ v1.ownBlock = some ((w.alloc o1).alloc o2).drew.heap.size) :
    ∃ c', CrewN (w3.setCell ⟨E, 3, none⟩ v1) c' N E B D NB vW v1 C U n (putN H n' w.heap.size) (putV V n' dv) (n' + 1) Vb r T := by
  obtain ⟨c1, hc1⟩ : ∃ c1 : Nat → Nat, c1 = recol c w.heap.size (200 + n') := ⟨_, rfl⟩
  have k1 : ∀ b, b < w.heap.size → c1 b = c b := fun b hb => by rw [hc1]; unfold recol; rw [if_neg (by omega)]
  have k2 : c1 w.heap.size = 200 + n' := by rw [hc1]; unfold recol; rw [if_pos rfl]
  have hb2 : Below w.heap.size w ((w.alloc o1).alloc o2).drew := (((Below.refl _ w).alloc (Nat.le_refl _) _).alloc (by simp) _).drew
  have h2 := h.grew (c' := c1) hn hN (Grew.of_below (S := fun _ => False) hb2) (fun b _ e => e) k1
  obtain ⟨w2, hw2⟩ : ∃ w2, w2 = ((w.alloc o1).alloc o2).drew := ⟨_, rfl⟩
  rw [← hw2] at hb2 h2 hW hg hat
  have hz2 : N ≤ w2.heap.size := Nat.le_trans hN hb2.size
  have hhs := h2.hs.push hW k2 (fun hr => ((hd hr).mono fun b _ hb => by rw [k1 b (by omega)]; exact h.low b hb).later hb2) ho hg hat
  have hgr := grew_row hg
  obtain ⟨c3, hc3⟩ : ∃ c3, c3 = recol c1 w2.heap.size 4 := ⟨_, rfl⟩
  rw [← hc3] at hhs
  have k4 : ∀ b, b < w2.heap.size → c3 b = c1 b := fun b hb => by rw [hc3]; unfold recol; rw [if_neg (by omega)]
  have hcol : ∀ b, vH.ownBlock = some b → c1 b = 4 := h2.hs.col
  have hE3 := h2.e.kept (hgr.block E h2.e.lt (fun e => by have := hcol E e; have := h2.ce; omega))
  have hs3 := h2.ws.grew hn hgr (fun b _ e => by have := hcol b e; omega) k4
  have hb3 := h2.bd.grew hgr (fun b _ e => by have := hcol b e; omega) k4
  have ht3 := h2.tab.kept (hgr.block B h2.tab.lt (fun e => by have := hcol B e; have := h2.cB; omega))
  have hcE : c3 E = 1 := by rw [k4 E h2.e.lt]; exact h2.ce
  have hcB : c3 B = 2 := by rw [k4 B h2.tab.lt]; exact h2.cB
  have hg4 := grew_cell w3 E 3 v1
  exact ⟨c3, hE3.setH v1, hcE, ht3.kept (hg4.block B ht3.lt (fun e => by rw [e] at hcB; omega)), hcB, hs3.grew hn hg4 (fun b _ e => by subst e; omega) (fun _ _ => rfl), hhs.grew hg4 (fun b _ e => by subst e; omega) (fun _ _ => rfl), hb3.grew hg4 (fun b _ e => by subst e; omega) (fun _ _ => rfl), fun b hb => by rw [k4 b (by omega)]; exact h2.low b hb⟩

/-- What it takes for memory to be as it was. -/
theorem CrewN.below_row {w w' a : World} {c : Nat → Nat} {N E B D NB m : Nat} {vW vH v1 : Value} {C : Nat → Nat} {U : Nat → Value} {n : Nat} {H : Nat → Nat} {V : Nat → Value} {n' : Nat} {Vb : Nat → Value} {r : List (List Op5)} {T : Nat → List Slot4} (h : CrewN w c N E B D NB vW vH C U n H V n' Vb r T) (ha : Below m a w) (hm : m ≤ N) (hN : N ≤ w.heap.size) {w2 : World} (hb2 : Below w.heap.size w w2) {v : Value} (hv : v = vW ∨ v = vH) (hg : w2.grownBy w' v.ownBlock) (o : Nat) : Below m a (w'.setCell ⟨E, o, none⟩ v1) := by
  have hE : N ≤ E := by
    rcases Nat.lt_or_ge E N with hlt | hge
    · have := h.low E hlt; have := h.ce; omega
    · exact hge
  refine ((ha.trans (hb2.mono (by omega))).grown hg (by have := hb2.size; omega) (fun q hq => ?_)).setCell (p := ⟨E, o, none⟩) (by show m ≤ E; omega) v1
  rcases hv with rfl | rfl
  · exact Nat.le_trans hm (owns_lt h.ws.own hq).1
  · exact Nat.le_trans hm (owns_lt h.hs.own hq).1
end Go.Proofs.YthlhbmldfjkagaaDoor
