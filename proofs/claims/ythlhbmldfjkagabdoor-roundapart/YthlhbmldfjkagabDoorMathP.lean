/-
  DEEDS THAT HAVE NOTHING TO DO WITH EACH OTHER DO NOT MATTER TO EACH OTHER, on plain functions.
-/
import Derived.Test.YthlhbmldfjkagabDoorMathR
namespace Go.Proofs.YthlhbmldfjkagabDoor

def StoresTo (d : List Op5) (k : Nat) : Prop := ∃ o ∈ d, o.k = 7 ∧ o.a.toNat = k
def LoadsOf (d : List Op5) (k : Nat) : Prop := ∃ o ∈ d, o.k = 2 ∧ o.b.toNat = k
structure Apart (d e : List Op5) : Prop where
  ss : ∀ k, StoresTo d k → ¬ StoresTo e k
  de : ∀ k, StoresTo d k → ¬ LoadsOf e k
  ed : ∀ k, StoresTo e k → ¬ LoadsOf d k

theorem doF_keeps {s : Nat → Int} {d : List Op5} {k : Nat} (h : ¬ StoresTo d k) : (doF s d).st k = s k := by
  rcases doF_stops s d with ⟨-, e⟩ | ⟨-, e⟩
  · rw [e]
  · by_cases he : (doF s d).st k = s k
    · exact he
    · exact absurd (e k he) h
theorem reads_apart {s : Nat → Int} {d e : List Op5} (h : ∀ k, StoresTo d k → ¬ LoadsOf e k) : (doF s e).code = (doF (doF s d).st e).code ∧ (doF s e).regs = (doF (doF s d).st e).regs ∧ ∀ k, (doF s e).st k = (doF (doF s d).st e).st k ∨ ((doF s e).st k = s k ∧ (doF (doF s d).st e).st k = (doF s d).st k) :=
  doF_reads fun o ho h2 => (doF_keeps fun hs => h _ hs ⟨o, ho, h2, rfl⟩).symm
theorem apart_state {s : Nat → Int} {d e : List Op5} (h : Apart d e) : (doF (doF s d).st e).st = (doF (doF s e).st d).st := by
  funext k
  by_cases hd : StoresTo d k
  · rw [doF_keeps (s := (doF s d).st) (h.ss k hd)]
    rcases (reads_apart (s := s) h.ed).2.2 k with e | ⟨e1, e2⟩
    · exact e
    · rw [e1, e2, doF_keeps (h.ss k hd)]
  · rw [doF_keeps (s := (doF s e).st) hd]
    rcases (reads_apart (s := s) h.de).2.2 k with e | ⟨e1, e2⟩
    · exact e.symm
    · rw [e1, e2, doF_keeps hd]

def swapI (n i : Nat) : Nat := if i = n then n + 1 else if i = n + 1 then n else i
theorem swap_state {s : Nat → Int} (a : List (List Op5)) {d e : List Op5} (b : List (List Op5)) (h : Apart d e) : allSt s (a ++ d :: e :: b) = allSt s (a ++ e :: d :: b) := by
  rw [allSt_append, allSt_append]
  show allSt (doF (doF (allSt s a) d).st e).st b = allSt (doF (doF (allSt s a) e).st d).st b
  rw [apart_state h]
theorem swap_out {s : Nat → Int} (a : List (List Op5)) {d e : List Op5} (b : List (List Op5)) (h : Apart d e) (i : Nat) :
    (outAt s (a ++ d :: e :: b) i).code = (outAt s (a ++ e :: d :: b) (swapI a.length i)).code ∧ (outAt s (a ++ d :: e :: b) i).regs = (outAt s (a ++ e :: d :: b) (swapI a.length i)).regs := by
  obtain ⟨c1, g1, -⟩ := reads_apart (s := allSt s a) h.de
  obtain ⟨c2, g2, -⟩ := reads_apart (s := allSt s a) h.ed
  have hz := apart_state (s := allSt s a) h
  have e1 : allOut s (a ++ d :: e :: b) = allOut s a ++ doF (allSt s a) d :: doF (doF (allSt s a) d).st e :: allOut (doF (doF (allSt s a) d).st e).st b := by rw [allOut_append]; rfl
  have e2 : allOut s (a ++ e :: d :: b) = allOut s a ++ doF (allSt s a) e :: doF (doF (allSt s a) e).st d :: allOut (doF (doF (allSt s a) e).st d).st b := by rw [allOut_append]; rfl
  unfold outAt
  rw [e1, e2, ← hz]
  have hl : (allOut s a).length = a.length := allOut_length s a
  unfold swapI
  by_cases h1 : i = a.length
  · rw [if_pos h1, h1, ← hl]
    simp [c2, g2]
  · rw [if_neg h1]
    by_cases h2 : i = a.length + 1
    · rw [if_pos h2, h2, ← hl]
      simp [c1, g1]
    · rw [if_neg h2]
      by_cases h3 : i < a.length
      · simp [List.getElem?_append_left (show i < (allOut s a).length by omega)]
      · obtain ⟨j, rfl⟩ : ∃ j, i = (allOut s a).length + (j + 2) := ⟨i - a.length - 2, by omega⟩
        have key : ∀ l m : List Out, (l ++ m)[l.length + (j + 2)]? = m[j + 2]? := fun l m => by
          rw [List.getElem?_append_right (by omega)]; congr 1; omega
        rw [key, key]
        exact ⟨rfl, rfl⟩
end Go.Proofs.YthlhbmldfjkagabDoor
