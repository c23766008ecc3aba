/-
  A store on lists: the state behind the first rounds of a log, what the last one of them came to, and what a step makes of it.
-/
import Derived.Test.YtehkjbpgibdgpadGreatDoorJqLo
import Derived.Test.YtehkjbpgibdgpadGreatDoorJqMb
namespace Go.Proofs.YtehkjbpgibdgpadGreatDoor
open Go.RowKit

/-- The state behind the first m rounds. -/
def stN (l : List (List (List Op5))) : Nat → (Nat → Int)
  | 0 => fun _ => 0
  | m + 1 => allSt (stN l m) (l.getD m [])
theorem getD_at {l : List (List (List Op5))} {m : Nat} (h : m < l.length) : l.getD m [] = l[m] := by
  rw [List.getD_eq_getElem?_getD, List.getElem?_eq_getElem h, Option.getD_some]
theorem getD_append {l x : List (List (List Op5))} {i : Nat} (h : i < l.length) : (l ++ x).getD i [] = l.getD i [] := by
  rw [List.getD_eq_getElem?_getD, List.getD_eq_getElem?_getD, List.getElem?_append_left h]
theorem getD_take {l : List (List (List Op5))} {n i : Nat} (h : i < n) : (l.take n).getD i [] = l.getD i [] := by
  rw [List.getD_eq_getElem?_getD, List.getD_eq_getElem?_getD, List.getElem?_take_of_lt h]
theorem stN_succ {l : List (List (List Op5))} {m : Nat} (h : m < l.length) : stN l (m + 1) = allSt (stN l m) l[m] := by
  rw [← getD_at h]; rfl
theorem stN_congr {l l' : List (List (List Op5))} : ∀ m, (∀ i, i < m → l.getD i [] = l'.getD i []) → stN l m = stN l' m
  | 0, _ => rfl
  | m + 1, h => by
    show allSt (stN l m) (l.getD m []) = allSt (stN l' m) (l'.getD m [])
    rw [stN_congr m (fun i hi => h i (by omega)), h m (by omega)]

/-- The last round that was done, and the state ahead of it. -/
def lastR (l : List (List (List Op5))) : Nat → List (List Op5)
  | 0 => []
  | m + 1 => l.getD m []
def lastS (l : List (List (List Op5))) : Nat → (Nat → Int)
  | 0 => fun _ => 0
  | m + 1 => stN l m
/-- What its deeds came to. -/
def lastC (l : List (List (List Op5))) (m i : Nat) : Int := (outAt (lastS l m) (lastR l m) i).code
def lastG (l : List (List (List Op5))) (m i : Nat) : Nat → Int := (outAt (lastS l m) (lastR l m) i).regs

/-- Two logs that begin alike. -/
def Alike (l l' : List (List (List Op5))) (m : Nat) : Prop := ∀ i, i < m → l.getD i [] = l'.getD i []
theorem Alike.st {l l' : List (List (List Op5))} {m : Nat} (h : Alike l l' m) : stN l m = stN l' m := stN_congr m h
theorem Alike.lastR {l l' : List (List (List Op5))} {m : Nat} (h : Alike l l' m) : lastR l m = lastR l' m := by
  cases m with
  | zero => rfl
  | succ m => exact h m (by omega)
theorem Alike.lastS {l l' : List (List (List Op5))} {m : Nat} (h : Alike l l' m) : lastS l m = lastS l' m := by
  cases m with
  | zero => rfl
  | succ m => exact stN_congr m fun i hi => h i (by omega)
theorem Alike.lastC {l l' : List (List (List Op5))} {m : Nat} (h : Alike l l' m) : lastC l m = lastC l' m := by
  funext i; unfold Go.Proofs.YtehkjbpgibdgpadGreatDoor.lastC; rw [h.lastR, h.lastS]
theorem Alike.lastG {l l' : List (List (List Op5))} {m : Nat} (h : Alike l l' m) : lastG l m = lastG l' m := by
  funext i; unfold Go.Proofs.YtehkjbpgibdgpadGreatDoor.lastG; rw [h.lastR, h.lastS]
theorem alike_append {l x : List (List (List Op5))} {m : Nat} (h : m ≤ l.length) : Alike (l ++ x) l m := fun _ hi => getD_append (by omega)
theorem alike_take {l : List (List (List Op5))} {n m : Nat} (h : m ≤ n) : Alike (l.take n) l m := fun _ hi => getD_take (by omega)
theorem lastR_len {l : List (List (List Op5))} (h : ∀ r ∈ l, Good r) (m : Nat) : (lastR l m).length ≤ 8 := by
  cases m with
  | zero => simp [lastR]
  | succ m =>
    show (l.getD m []).length ≤ 8
    by_cases hm : m < l.length
    · rw [getD_at hm]; exact (roundF_zero.1 (h _ (List.getElem_mem hm)).1).1
    · rw [List.getD_eq_getElem?_getD, List.getElem?_eq_none (by omega)]; simp

/-- A step of a store. -/
structure QStep where
  k : Int
  r : List (List Op5)
  p : List Int
  keep : Int
/-- What comes of it: the code, the log, how many are made sure of, how many are done. -/
structure QOut where
  c : Int
  l : List (List (List Op5))
  k : Nat
  m : Nat
def stepQ (l : List (List (List Op5))) (k m : Nat) (x : QStep) : QOut :=
  if x.k = 1 then (if okP l x.r = true then ⟨0, l ++ [x.r], k, m⟩ else ⟨codeP x.r, l, k, m⟩)
  else if x.k = 2 then ⟨0, l, l.length, m⟩
  else if x.k = 3 then (if k ≤ m then ⟨7, l, k, m⟩ else if 300 < x.p.length then ⟨4, l, k, m⟩ else ⟨0, l, k, m + 1⟩)
  else if x.k = 4 then ⟨0, l.take (wholeF l k (max x.keep 0)), wholeF l k (max x.keep 0), wholeF l k (max x.keep 0)⟩
  else ⟨2, l, k, m⟩
/-- WHAT IS REFUSED CHANGES NOTHING. -/
theorem stepQ_code {l : List (List (List Op5))} {k m : Nat} {x : QStep} (h : (stepQ l k m x).c ≠ 0) : (stepQ l k m x).l = l ∧ (stepQ l k m x).k = k ∧ (stepQ l k m x).m = m := by
  revert h
  unfold stepQ
  repeat' split
  all_goals first | exact fun _ => ⟨rfl, rfl, rfl⟩ | exact fun h => absurd rfl h
/-- HOW IT RUNS DOES NOT MATTER. -/
theorem stepQ_picks {l : List (List (List Op5))} {k m : Nat} {x y : QStep} (h1 : x.k = y.k) (h2 : x.r = y.r) (h3 : x.keep = y.keep) (hp : x.k = 3 → (300 < x.p.length ↔ 300 < y.p.length)) : stepQ l k m x = stepQ l k m y := by
  unfold stepQ
  rw [h1, h2, h3]
  by_cases e : y.k = 3
  · have := hp (h1.trans e)
    simp only [this]
  · simp only [if_neg e]
/-- What was done stays in the log. -/
theorem stepQ_alike {l : List (List (List Op5))} {k m : Nat} (ho : LogOk l k) (hm : m ≤ k) (x : QStep) : Alike (stepQ l k m x).l l m ∧ m ≤ (stepQ l k m x).m := by
  have hk := ho.sure
  have hw := whole_ge (l := l) (k := k) (m := max x.keep 0) hk (by omega)
  unfold stepQ
  repeat' split
  all_goals first | exact ⟨fun _ _ => rfl, Nat.le_refl _⟩ | exact ⟨alike_append (by omega), Nat.le_refl _⟩ | exact ⟨alike_take (by omega), (by omega : m ≤ wholeF l k (max x.keep 0))⟩ | exact ⟨fun _ _ => rfl, (by omega : m ≤ m + 1)⟩
theorem stepQ_le {l : List (List (List Op5))} {k m : Nat} (ho : LogOk l k) (hm : m ≤ k) (x : QStep) : (stepQ l k m x).m ≤ (stepQ l k m x).k := by
  have hk := ho.sure
  unfold stepQ
  repeat' split
  all_goals (dsimp only; omega)
end Go.Proofs.YtehkjbpgibdgpadGreatDoor
