/-
  What a worker reckons, as plain functions; and what the laws of a deed that is done step by step lean on.
-/
import Derived.Test.YtokjigebjcgdjacDoorMathF
namespace Go.Proofs.YtokjigebjcgdjacDoor

/-- A worker: the place of its next operation, what it stored to each key, its registers, its code, whether it is over. -/
structure Wk where
  nx : Nat
  is : Nat → Bool
  n : Nat → Int
  regs : Nat → Int
  code : Int
  over : Bool
def wk0 : Wk := ⟨0, fun _ => false, fun _ => 0, fun _ => 0, 0, false⟩

/-- What it makes of a key, in the end. -/
def endOf (x : Wk) (b : Int) (k : Nat) : Slot4 := if x.is k then ⟨b, false, false, x.n k⟩ else ⟨b, false, true, 0⟩
def endTo (T : Nat → List Slot4) (x : Wk) (b : Int) (ks : List Nat) : Nat → List Slot4 := ks.foldl (fun T (k : Nat) => settleT T (k : Int) (endOf x b k)) T

def runW (o : Op5) (x : Wk) : Wk :=
  if o.k = 1 then ⟨x.nx + 1, x.is, x.n, putAt x.regs o.a.toNat o.n, x.code, x.over⟩
  else if o.k = 7 then ⟨x.nx + 1, fun i => if i = o.a.toNat then true else x.is i, putAt x.n o.a.toNat (x.regs o.b.toNat), x.regs, x.code, x.over⟩
  else if o.k = 9 then ⟨if x.regs o.a.toNat = 0 then x.nx + 1 + o.b.toNat else x.nx + 1, x.is, x.n, x.regs, x.code, x.over⟩
  else if o.k = 3 ∨ o.k = 4 ∨ o.k = 5 ∨ o.k = 6 then ⟨x.nx + 1, x.is, x.n, putAt x.regs o.a.toNat (arithF o.k (x.regs o.b.toNat) (x.regs o.c.toNat)), x.code, x.over⟩
  else ⟨x.nx + 1, x.is, x.n, x.regs, x.code, x.over⟩
def loadW (o : Op5) (v : Int) (x : Wk) : Wk := ⟨x.nx + 1, x.is, x.n, putAt x.regs o.a.toNat v, x.code, x.over⟩
def overW (x : Wk) (c : Int) : Wk := ⟨x.nx, x.is, x.n, x.regs, c, true⟩

/-- What a step came to: what is told, the worker, the table. -/
structure StepOut where
  what : Int
  who : Int
  x : Wk
  T : Nat → List Slot4

def stepW (T : Nat → List Slot4) (d : List Op5) (b : Int) (x : Wk) : StepOut :=
  if x.over = true then ⟨3, -1, x, T⟩
  else if h : x.nx < d.length then
    if d[x.nx].k = 8 ∧ x.regs d[x.nx].a.toNat ≠ 0 then ⟨3, -1, overW x 9, endTo T x b (keysF d)⟩
    else if d[x.nx].k = 2 then
      if x.is d[x.nx].b.toNat = true then ⟨1, -1, loadW d[x.nx] (x.n d[x.nx].b.toNat) x, T⟩
      else if 0 ≤ (beforeT T d[x.nx].b b).2 then ⟨2, (beforeT T d[x.nx].b b).2, x, T⟩
      else ⟨1, -1, loadW d[x.nx] (beforeT T d[x.nx].b b).1 x, T⟩
    else ⟨1, -1, runW d[x.nx] x, T⟩
  else ⟨3, -1, overW x 0, endTo T x b (keysF d)⟩

theorem stepW_over {T : Nat → List Slot4} {d : List Op5} {b : Int} {x : Wk} (h : x.over = true) : stepW T d b x = ⟨3, -1, x, T⟩ := by
  unfold stepW; rw [if_pos h]
theorem stepW_end {T : Nat → List Slot4} {d : List Op5} {b : Int} {x : Wk} (h : x.over = false) (h1 : ¬ x.nx < d.length) : stepW T d b x = ⟨3, -1, overW x 0, endTo T x b (keysF d)⟩ := by
  unfold stepW; rw [if_neg (by simp [h]), dif_neg h1]
theorem stepW_stop {T : Nat → List Slot4} {d : List Op5} {b : Int} {x : Wk} (h : x.over = false) (h1 : x.nx < d.length) (h8 : d[x.nx].k = 8) (h0 : x.regs d[x.nx].a.toNat ≠ 0) : stepW T d b x = ⟨3, -1, overW x 9, endTo T x b (keysF d)⟩ := by
  unfold stepW; rw [if_neg (by simp [h]), dif_pos h1, if_pos ⟨h8, h0⟩]
theorem stepW_own {T : Nat → List Slot4} {d : List Op5} {b : Int} {x : Wk} (h : x.over = false) (h1 : x.nx < d.length) (h2 : d[x.nx].k = 2) (hi : x.is d[x.nx].b.toNat = true) : stepW T d b x = ⟨1, -1, loadW d[x.nx] (x.n d[x.nx].b.toNat) x, T⟩ := by
  unfold stepW; rw [if_neg (by simp [h]), dif_pos h1, if_neg (by omega), if_pos h2, if_pos hi]
theorem stepW_waits {T : Nat → List Slot4} {d : List Op5} {b : Int} {x : Wk} (h : x.over = false) (h1 : x.nx < d.length) (h2 : d[x.nx].k = 2) (hi : x.is d[x.nx].b.toNat = false) (hw : 0 ≤ (beforeT T d[x.nx].b b).2) : stepW T d b x = ⟨2, (beforeT T d[x.nx].b b).2, x, T⟩ := by
  unfold stepW; rw [if_neg (by simp [h]), dif_pos h1, if_neg (by omega), if_pos h2, if_neg (by simp [hi]), if_pos hw]
theorem stepW_load {T : Nat → List Slot4} {d : List Op5} {b : Int} {x : Wk} (h : x.over = false) (h1 : x.nx < d.length) (h2 : d[x.nx].k = 2) (hi : x.is d[x.nx].b.toNat = false) (hw : ¬ 0 ≤ (beforeT T d[x.nx].b b).2) : stepW T d b x = ⟨1, -1, loadW d[x.nx] (beforeT T d[x.nx].b b).1 x, T⟩ := by
  unfold stepW; rw [if_neg (by simp [h]), dif_pos h1, if_neg (by omega), if_pos h2, if_neg (by simp [hi]), if_neg hw]
theorem stepW_run {T : Nat → List Slot4} {d : List Op5} {b : Int} {x : Wk} (h : x.over = false) (h1 : x.nx < d.length) (h8 : ¬ (d[x.nx].k = 8 ∧ x.regs d[x.nx].a.toNat ≠ 0)) (h2 : ¬ d[x.nx].k = 2) : stepW T d b x = ⟨1, -1, runW d[x.nx] x, T⟩ := by
  unfold stepW; rw [if_neg (by simp [h]), dif_pos h1, if_neg h8, if_neg h2]

/-- The places of a deed that may be done. -/
theorem placesF_ok {n : Nat} {l : List Op5} {i : Nat} {s : Bool} (h : (placesF n i s l).1 = 0) : ∀ j (hj : j < l.length), (l[j].k = 9 → 1 ≤ l[j].b ∧ l[j].b ≤ (n : Int) - 1 - (i + j : Nat)) ∧ (l[j].k = 8 → s = false ∧ ∀ m (hm : m < j), l[m].k ≠ 7) := by
  induction l generalizing i s with
  | nil => intro j hj; simp at hj
  | cons o r ih =>
    simp only [placesF] at h
    by_cases h7 : o.k = 7
    · rw [if_pos h7] at h
      intro j hj
      cases j with
      | zero => exact ⟨fun h9 => by simp at h9; omega, fun h8 => by simp at h8; omega⟩
      | succ j =>
        have := ih h j (by simpa using hj)
        refine ⟨fun h9 => ?_, fun h8 => ?_⟩
        · have := this.1 h9
          rw [List.getElem_cons_succ]
          exact ⟨this.1, by rw [show i + (j + 1) = i + 1 + j by omega]; exact this.2⟩
        · exact absurd (this.2 h8).1 (by simp)
    · rw [if_neg h7] at h
      by_cases h8 : o.k = 8 ∧ s = true
      · rw [if_pos h8] at h; exact absurd h (by simp)
      · rw [if_neg h8] at h
        by_cases h9 : o.k = 9 ∧ (o.b < 1 ∨ (n : Int) - 1 - i < o.b)
        · rw [if_pos h9] at h; exact absurd h (by simp)
        · rw [if_neg h9] at h
          intro j hj
          cases j with
          | zero =>
            refine ⟨fun e => ?_, fun e => ⟨?_, fun m hm => by omega⟩⟩
            · simp only [List.getElem_cons_zero] at e ⊢
              omega
            · simp only [List.getElem_cons_zero] at e
              cases s
              · rfl
              · exact absurd ⟨e, rfl⟩ h8
          | succ j =>
            have := ih h j (by simpa using hj)
            refine ⟨fun e => ?_, fun e => ⟨(this.2 e).1, fun m hm => ?_⟩⟩
            · have := this.1 e
              rw [List.getElem_cons_succ]
              exact ⟨this.1, by rw [show i + (j + 1) = i + 1 + j by omega]; exact this.2⟩
            · cases m with
              | zero => exact h7
              | succ m => exact (this.2 e).2 m (by omega)
theorem firstF_then {z : Int × Int} {d : List Op5} {i : Nat} (h : (firstF z i d).1 = 0) : z.1 = 0 := by
  induction d generalizing i with
  | nil => exact h
  | cons o r ih =>
    simp only [firstF] at h
    split at h
    · contradiction
    · exact ih h
theorem check_places {d : List Op5} (h : (checkF d).1 = 0) : ∀ j (hj : j < d.length), (d[j].k = 9 → 1 ≤ d[j].b ∧ (j : Int) + 1 + d[j].b ≤ d.length) ∧ (d[j].k = 8 → ∀ m (hm : m < j), d[m].k ≠ 7) := by
  unfold checkF at h
  split at h
  · exact absurd h (by simp)
  · intro j hj
    have := placesF_ok (firstF_then h) j hj
    refine ⟨fun e => ?_, fun e => (this.2 e).2⟩
    have := this.1 e
    rw [Nat.zero_add] at this
    omega
theorem check_len {d : List Op5} (h : (checkF d).1 = 0) : d.length ≤ 14 := by
  unfold checkF at h
  split at h
  · exact absurd h (by simp)
  · omega

/-- What is known of a worker of a deed. -/
structure WellW (d : List Op5) (x : Wk) : Prop where
  nx : x.nx ≤ d.length
  is : ∀ k, x.is k = true → ∃ j, ∃ h : j < d.length, j < x.nx ∧ d[j].k = 7 ∧ d[j].a = (k : Int)
theorem wk0_well (d : List Op5) : WellW d wk0 := ⟨Nat.zero_le _, fun k h => by simp [wk0] at h⟩
theorem WellW.more {d : List Op5} {x : Wk} (h : WellW d x) {y : Wk} (hi : y.is = x.is) (h1 : x.nx ≤ y.nx) (h2 : y.nx ≤ d.length) : WellW d y :=
  ⟨h2, fun k hk => by rw [hi] at hk; obtain ⟨j, hj, h3, h4⟩ := h.is k hk; exact ⟨j, hj, by omega, h4⟩⟩
theorem WellW.run {d : List Op5} {x : Wk} (h : WellW d x) (hc : (checkF d).1 = 0) (hlt : x.nx < d.length) : WellW d (runW d[x.nx] x) := by
  have hp := alone_parts (checkF_alone hc _ (List.getElem_mem hlt))
  have hpl := (check_places hc x.nx hlt).1
  unfold runW
  split
  · exact h.more rfl (by simp) (by show x.nx + 1 ≤ _; omega)
  split
  · rename_i h7
    refine ⟨by show x.nx + 1 ≤ _; omega, fun k hk => ?_⟩
    by_cases e : k = d[x.nx].a.toNat
    · exact ⟨x.nx, hlt, by simp, h7, by omega⟩
    · have : x.is k = true := by simpa [e] using hk
      obtain ⟨j, hj, h3, h4⟩ := h.is k this
      exact ⟨j, hj, by show j < x.nx + 1; omega, h4⟩
  split
  · rename_i h9
    have := hpl h9
    split
    · exact h.more rfl (by simp; omega) (by show x.nx + 1 + d[x.nx].b.toNat ≤ _; omega)
    · exact h.more rfl (by simp) (by show x.nx + 1 ≤ _; omega)
  split
  · exact h.more rfl (by simp) (by show x.nx + 1 ≤ _; omega)
  · exact h.more rfl (by simp) (by show x.nx + 1 ≤ _; omega)
theorem WellW.step {d : List Op5} {x : Wk} (h : WellW d x) (hc : (checkF d).1 = 0) (T : Nat → List Slot4) (b : Int) : WellW d (stepW T d b x).x := by
  unfold stepW
  split
  · exact h
  split
  · rename_i hlt
    split
    · exact h.more rfl (Nat.le_refl _) h.nx
    split
    · split
      · exact h.more rfl (Nat.le_succ _) hlt
      split
      · exact h
      · exact h.more rfl (Nat.le_succ _) hlt
    · exact h.run hc hlt
  · exact h.more rfl (Nat.le_refl _) h.nx
/-- One that stops itself has stored nothing. -/
theorem WellW.stop {d : List Op5} {x : Wk} (h : WellW d x) (hc : (checkF d).1 = 0) (hlt : x.nx < d.length) (h8 : d[x.nx].k = 8) (k : Nat) : x.is k = false := by
  cases e : x.is k with
  | false => rfl
  | true =>
    obtain ⟨j, hj, h1, h7, -⟩ := h.is k e
    exact absurd h7 ((check_places hc x.nx hlt).2 h8 j h1)
theorem WellW.stores {d : List Op5} {x : Wk} (h : WellW d x) {k : Nat} (hk : x.is k = true) : storesF d k = true := by
  obtain ⟨j, hj, -, h7, ha⟩ := h.is k hk
  unfold storesF
  rw [List.any_eq_true]
  exact ⟨_, List.getElem_mem hj, by simp [h7, ha]⟩

theorem settleT_at {T : Nat → List Slot4} (hT : FineT T) (q : Nat) (x : Slot4) {k : Nat} (hk : k < 10) (hq : q < 10) : (settleT T (q : Int) x k).length = (T k).length ∧ ∀ j, j < (T k).length → slotAt (settleT T (q : Int) x k) j = if k = q ∧ openP x.b (slotAt (T k) j) = true then x else slotAt (T k) j := by
  unfold settleT
  rw [if_pos ⟨by omega, by omega⟩, Int.toNat_natCast]
  unfold putT
  by_cases e : k = q
  · subst e
    rw [if_pos rfl]
    refine ⟨settleF_length _ _, fun j hj => ?_⟩
    rw [settleF_at (hT k hk) j hj]
    simp
  · rw [if_neg e]
    exact ⟨rfl, fun j hj => by rw [if_neg (fun h => e h.1)]⟩
theorem endOf_b (x : Wk) (b : Int) (k : Nat) : (endOf x b k).b = b ∧ (endOf x b k).op = false := by
  unfold endOf; split <;> exact ⟨rfl, rfl⟩
theorem endTo_fine {x : Wk} {b : Int} (ks : List Nat) {T : Nat → List Slot4} (hT : FineT T) : FineT (endTo T x b ks) := by
  induction ks generalizing T with
  | nil => exact hT
  | cons q ks ih => exact ih (hT.settle _ (endOf_b x b q).2)
theorem endTo_at {x : Wk} {b : Int} (ks : List Nat) {T : Nat → List Slot4} (hT : FineT T) (hks : ∀ q ∈ ks, q < 10) {k : Nat} (hk : k < 10) : (endTo T x b ks k).length = (T k).length ∧ ∀ j, j < (T k).length → slotAt (endTo T x b ks k) j = if k ∈ ks ∧ openP b (slotAt (T k) j) = true then endOf x b k else slotAt (T k) j := by
  induction ks generalizing T with
  | nil => exact ⟨rfl, fun j hj => by simp [endTo]⟩
  | cons q ks ih =>
    have hT' : FineT (settleT T (q : Int) (endOf x b q)) := hT.settle _ (endOf_b x b q).2
    obtain ⟨l1, s1⟩ := settleT_at hT q (endOf x b q) hk (hks q (by simp))
    obtain ⟨l2, s2⟩ := ih hT' (fun p hp => hks p (by simp [hp]))
    refine ⟨l2.trans l1, fun j hj => ?_⟩
    show slotAt (endTo (settleT T (q : Int) (endOf x b q)) x b ks k) j = _
    rw [s2 j (by rw [l1]; exact hj), s1 j hj, (endOf_b x b q).1]
    have hno : openP b (endOf x b k) = false := by unfold openP; simp [(endOf_b x b k).2]
    by_cases e : k = q
    · subst e
      by_cases ho : openP b (slotAt (T k) j) = true
      · simp [ho, hno]
      · simp [ho]
    · by_cases ho : openP b (slotAt (T k) j) = true
      · simp [ho, e]
      · simp [ho, e]

theorem mem_keysF {d : List Op5} {k : Nat} : k ∈ keysF d ↔ k < 10 ∧ storesF d k = true := by
  unfold keysF; rw [List.mem_filter]; simp

/-- What is known of all workers of a round and their table: who has an open slot is not over. -/
structure CrewOk (r : List (List Op5)) (X : Nat → Wk) (T : Nat → List Slot4) : Prop where
  fine : FineT T
  well : ∀ i (h : i < r.length), WellW r[i] (X i)
  opens : ∀ k, k < 10 → ∀ j, j < (T k).length → (slotAt (T k) j).op = true → ∃ i, ∃ h : i < r.length, (slotAt (T k) j).b = (i : Int) ∧ storesF r[i] k = true ∧ (X i).over = false
def putW (X : Nat → Wk) (i : Nat) (x : Wk) : Nat → Wk := fun q => if q = i then x else X q

theorem newF_opens (s : Nat → Int) (r : List (List Op5)) : CrewOk r (fun _ => wk0) (newF s r) := by
  refine ⟨fun k _ => newF_fine s r k, fun i h => wk0_well _, fun k hk j hj ho => ?_⟩
  rw [newF_fill] at hj ho ⊢
  unfold fillF at hj ho ⊢
  cases j with
  | zero => simp [slotAt] at ho
  | succ j =>
    have hj' : j < (storers r k).length := by simpa using hj
    have e : slotAt (⟨-1, false, false, s k⟩ :: (storers r k).map (slotF s r (fun _ _ => false) k)) (j + 1) = ⟨((storers r k)[j] : Int), true, false, 0⟩ := by
      simp [slotAt, hj', slotF]
    rw [e]
    have hm := List.mem_filter.1 (List.getElem_mem hj' : (storers r k)[j] ∈ storers r k)
    have hlt : (storers r k)[j] < r.length := by simpa using hm.1
    refine ⟨_, hlt, rfl, ?_, rfl⟩
    have := hm.2
    rw [List.getElem?_eq_getElem hlt] at this
    simpa using this

theorem CrewOk.same {r : List (List Op5)} {X : Nat → Wk} {T : Nat → List Slot4} (h : CrewOk r X T) {i : Nat} (hi : i < r.length) {y : Wk} (hw : WellW r[i] y) (ho : y.over = (X i).over) : CrewOk r (putW X i y) T := by
  refine ⟨h.fine, fun q hq => ?_, fun k hk j hj hop => ?_⟩
  · unfold putW
    split
    · rename_i e; subst e; exact hw
    · exact h.well q hq
  · obtain ⟨q, hq, h1, h2, h3⟩ := h.opens k hk j hj hop
    refine ⟨q, hq, h1, h2, ?_⟩
    unfold putW
    split
    · rename_i e; subst e; rw [ho]; exact h3
    · exact h3
theorem CrewOk.done {r : List (List Op5)} {X : Nat → Wk} {T : Nat → List Slot4} (h : CrewOk r X T) {i : Nat} (hi : i < r.length) {x y : Wk} (hw : WellW r[i] y) : CrewOk r (putW X i y) (endTo T x (i : Int) (keysF r[i])) := by
  have hks : ∀ q ∈ keysF r[i], q < 10 := fun q hq => (mem_keysF.1 hq).1
  refine ⟨endTo_fine _ h.fine, fun q hq => ?_, fun k hk j hj hop => ?_⟩
  · unfold putW
    split
    · rename_i e; subst e; exact hw
    · exact h.well q hq
  · obtain ⟨hl, hs⟩ := endTo_at (x := x) (b := (i : Int)) (keysF r[i]) h.fine hks hk
    rw [hl] at hj
    have hsj := hs j hj
    split at hsj
    · rw [hsj, (endOf_b x (i : Int) k).2] at hop; cases hop
    · rename_i hn
      rw [hsj] at hop ⊢
      obtain ⟨q, hq, h1, h2, h3⟩ := h.opens k hk j hj hop
      have hqi : q ≠ i := fun e => by
        subst e
        exact hn ⟨mem_keysF.2 ⟨hk, h2⟩, by unfold openP; simp [hop, h1]⟩
      refine ⟨q, hq, h1, h2, ?_⟩
      unfold putW
      rw [if_neg hqi]; exact h3
theorem CrewOk.step {r : List (List Op5)} {X : Nat → Wk} {T : Nat → List Slot4} (h : CrewOk r X T) {i : Nat} (hi : i < r.length) (hc : (checkF r[i]).1 = 0) : CrewOk r (putW X i (stepW T r[i] (i : Int) (X i)).x) (stepW T r[i] (i : Int) (X i)).T := by
  have hw := (h.well i hi).step hc T (i : Int)
  generalize ho : stepW T r[i] (i : Int) (X i) = o at hw ⊢
  unfold stepW at ho
  split at ho
  · subst ho; exact h.same hi hw rfl
  split at ho
  · split at ho
    · subst ho; exact h.done hi hw
    split at ho
    · split at ho
      · subst ho; exact h.same hi hw rfl
      split at ho
      · subst ho; exact h.same hi hw rfl
      · subst ho; exact h.same hi hw rfl
    · subst ho
      refine h.same hi hw ?_
      unfold runW
      repeat' split
      all_goals rfl
  · subst ho; exact h.done hi hw

/-- Who is waited for has an open slot. -/
theorem before_open {l : List Slot4} {b : Int} (h : 0 ≤ (beforeF l b).2) : ∃ j, j < l.length ∧ (slotAt l j).op = true ∧ (slotAt l j).b = (beforeF l b).2 := by
  unfold beforeF at h ⊢
  cases e : lastF (aheadP b) l with
  | none => rw [e] at h; exact absurd h (by simp)
  | some i =>
    rw [e] at h
    obtain ⟨h1, -, -⟩ := lastF_some.1 e
    dsimp only at h ⊢
    split at h
    · rename_i ho; rw [if_pos ho]; exact ⟨i, h1, ho, rfl⟩
    · exact absurd h (by simp)
/-- IT WAITS FOR THOSE AHEAD ALONE. -/
theorem CrewOk.waits {r : List (List Op5)} {X : Nat → Wk} {T : Nat → List Slot4} (h : CrewOk r X T) {i : Nat} (hi : i < r.length) :
    ((stepW T r[i] (i : Int) (X i)).what ≠ 2 ∧ (stepW T r[i] (i : Int) (X i)).who = -1) ∨ ((stepW T r[i] (i : Int) (X i)).what = 2 ∧ ∃ q : Nat, q < i ∧ (stepW T r[i] (i : Int) (X i)).who = (q : Int) ∧ (X q).over = false ∧ (putW X i (stepW T r[i] (i : Int) (X i)).x q).over = false) := by
  unfold stepW
  split
  · exact .inl ⟨by simp, rfl⟩
  split
  · split
    · exact .inl ⟨by simp, rfl⟩
    split
    · split
      · exact .inl ⟨by simp, rfl⟩
      split
      · rename_i hw
        refine .inr ⟨rfl, ?_⟩
        have hwho := h.fine.who r[i][(X i).nx].b (i : Int)
        unfold beforeT at hw hwho ⊢
        split at hw
        · rename_i hk
          rw [if_pos hk] at hwho
          rw [if_pos hk]
          obtain ⟨j, hj, ho, hb⟩ := before_open hw
          obtain ⟨q, hq, h1, -, h3⟩ := h.opens _ (by omega) j hj ho
          have hqi : q < i := by
            rcases hwho with e | ⟨-, e⟩
            · omega
            · omega
          refine ⟨q, hqi, by rw [← hb]; exact h1, h3, ?_⟩
          unfold putW
          rw [if_neg (by omega)]; exact h3
        · exact absurd hw (by simp)
      · exact .inl ⟨by simp, rfl⟩
    · exact .inl ⟨by simp, rfl⟩
  · exact .inl ⟨by simp, rfl⟩
end Go.Proofs.YtokjigebjcgdjacDoor
