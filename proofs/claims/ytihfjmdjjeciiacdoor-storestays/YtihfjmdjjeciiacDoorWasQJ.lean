/-
  The first rounds of a store, of which a law keeps copies of its own, as they lie in memory.
-/
import Derived.Test.YtihfjmdjjeciiacDoorMatQJ
import Derived.Test.YtihfjmdjjeciiacDoorLogNJ
namespace Go.Proofs.YtihfjmdjjeciiacDoor
open Go.RowKit

/-- Copies of the first c rounds of x, in blocks of which something is known. -/
structure WasRaw (Q : Nat → Prop) (w : World) (v : Value) (c : Nat) (x : List (List (List Op5))) (xs : List Value) : Prop where
  len : xs.length = c
  row : w.ownsRow 0 23 1 v c xs
  qr : ∀ g, v.ownBlock = some g → Q g
  rd : ∀ i, i < c → ∃ rv, xs[i]? = some rv ∧ RoundIn (fun b => Q b ∧ v.ownBlock ≠ some b) w rv (x.getD i [])
def WasAt (Q : Nat → Prop) (w : World) (v : Value) (c : Nat) (x : List (List (List Op5))) : Prop := ∃ xs, WasRaw Q w v c x xs
section
variable {Q Q' S : Nat → Prop} {w w' : World} {v : Value} {c : Nat} {x x' : List (List (List Op5))}
theorem wasAt_nil (w : World) (x : List (List (List Op5))) : WasAt (fun _ => False) w (.slice none 0 0) 0 x := ⟨[], rfl, World.ownsRow_nil _ _ _ _, fun _ h => (by cases h), fun _ h => absurd h (by omega)⟩
theorem WasAt.grew (h : WasAt Q w v c x) (hg : Grew S w w') (hS : ∀ b, Q b → ¬ S b) : WasAt Q w' v c x := by
  obtain ⟨xs, h⟩ := h
  exact ⟨xs, h.len, owns_kept h.row fun g hb => hg.block g (owns_lt h.row hb).2 (hS g (h.qr g hb)), h.qr, fun i hi => by
    obtain ⟨rv, h1, h2⟩ := h.rd i hi
    exact ⟨rv, h1, h2.grew hg fun b hb => hS b hb.1⟩⟩
theorem WasAt.later (h : WasAt Q w v c x) (hb : Below w.heap.size w w') : WasAt Q w' v c x := h.grew (S := fun _ => False) (Grew.of_below hb) (fun _ _ h => h)
theorem WasAt.mono (h : WasAt Q w v c x) (hQ : ∀ b, b < w.heap.size → Q b → Q' b) : WasAt Q' w v c x := by
  obtain ⟨xs, h⟩ := h
  exact ⟨xs, h.len, h.row, fun g hb => hQ g (owns_lt h.row hb).2 (h.qr g hb), fun i hi => by
    obtain ⟨rv, h1, h2⟩ := h.rd i hi
    exact ⟨rv, h1, h2.mono fun b hb hp => ⟨hQ b hb hp.1, hp.2⟩⟩⟩
theorem WasAt.alike (h : WasAt Q w v c x) (ha : Alike x' x c) : WasAt Q w v c x' := by
  obtain ⟨xs, h⟩ := h
  exact ⟨xs, h.len, h.row, h.qr, fun i hi => by
    obtain ⟨rv, h1, h2⟩ := h.rd i hi
    exact ⟨rv, h1, by rw [ha i hi]; exact h2⟩⟩
theorem WasAt.slice (h : WasAt Q w v c x) : ∃ a cap, v = .slice a c cap := by
  obtain ⟨xs, h⟩ := h
  obtain ⟨a, cap, e, -⟩ := owns_slice h.row
  exact ⟨a, cap, e⟩
theorem WasAt.get (h : WasAt Q w v c x) {i : Nat} (hi : i < c) : ∃ g cap rv, v = .slice (some ⟨g, 0, none⟩) c cap ∧ w.cell? ⟨g, i, none⟩ = some rv ∧ RoundAt w rv (x.getD i []) := by
  obtain ⟨xs, h⟩ := h
  obtain ⟨g, cap, e, hc⟩ := owns_cells h.row (by omega)
  obtain ⟨rv, h1, h2⟩ := h.rd i hi
  exact ⟨g, cap, rv, e, hc i rv h1, h2.at⟩
/-- One round more, in memory beside. -/
theorem WasRaw.put {xs : List Value} {u v' : Value} (h : WasRaw Q w v c x xs) (hg : w.grownBy w' v.ownBlock) (ho : w'.ownsRow 0 23 1 v' (xs.length + 1) (xs ++ [u])) (hat : v'.ownBlock = v.ownBlock ∨ v'.ownBlock = some w.heap.size) {M : Nat} (hM : M ≤ w.heap.size) (hu : RoundIn (fun b => M ≤ b ∧ b < w.heap.size ∧ v.ownBlock ≠ some b) w u (x.getD c [])) : WasAt (fun b => Q b ∨ M ≤ b) w' v' (c + 1) x := by
  have hG : Grew (fun b => v.ownBlock = some b) w w' := ⟨hg.os, hg.tape, hg.output, hg.size, fun k hk hn => hg.block k hk (fun e => hn e.symm)⟩
  have hne : ∀ b, b < w.heap.size → v.ownBlock ≠ some b → v'.ownBlock ≠ some b := fun b hb hn => by
    rcases hat with e | e
    · rw [e]; exact hn
    · rw [e]; intro e'; have := Option.some.inj e'; omega
  refine ⟨xs ++ [u], by simp [h.len], by rw [h.len] at ho; exact ho, fun g hb => ?_, fun i hi => ?_⟩
  · rcases hat with e | e
    · rw [e] at hb; exact .inl (h.qr g hb)
    · rw [e] at hb; cases hb; exact .inr hM
  · by_cases hi' : i < c
    · obtain ⟨rv, h1, h2⟩ := h.rd i hi'
      refine ⟨rv, by rw [List.getElem?_append_left (by rw [h.len]; exact hi')]; exact h1, ?_⟩
      have h3 := h2.mono (Q := fun b => (Q b ∧ v.ownBlock ≠ some b) ∧ b < w.heap.size) fun b hb hp => ⟨hp, hb⟩
      exact (h3.grew hG fun b hb e => hb.1.2 e).mono fun b _ hb => ⟨.inl hb.1.1, hne b hb.2 hb.1.2⟩
    · obtain rfl : i = c := by omega
      refine ⟨u, by rw [← h.len]; simp, ?_⟩
      exact (hu.grew hG fun b hb e => hb.2.2 e).mono fun b _ hb => ⟨.inr hb.1, hne b hb.2.1 hb.2.2⟩
end
end Go.Proofs.YtihfjmdjjeciiacDoor
