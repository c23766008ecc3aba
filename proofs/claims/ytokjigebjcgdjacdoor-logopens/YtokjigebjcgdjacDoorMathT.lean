/-
  What a table reckons, as plain functions on lists of slots; and what the laws lean on. Nothing of the program's text is imported here.
-/
import Derived.Test.YtokjigebjcgdjacDoorMathS
namespace Go.Proofs.YtokjigebjcgdjacDoor

/-- A slot of a key: By, Open, Void, N. -/
structure Slot4 where
  b : Int
  op : Bool
  vo : Bool
  n : Int

def slot0 : Slot4 := ⟨0, false, false, 0⟩
def slotAt (l : List Slot4) (i : Nat) : Slot4 := l[i]?.getD slot0
theorem slotAt_get {l : List Slot4} {i : Nat} (h : i < l.length) : slotAt l i = l[i] := by simp [slotAt, h]

/-- The number of the last slot that is as asked for. -/
def lastF (p : Slot4 → Bool) : List Slot4 → Option Nat
  | [] => none
  | s :: r => match lastF p r with
    | some i => some (i + 1)
    | none => if p s then some 0 else none

theorem lastF_none {p : Slot4 → Bool} {l : List Slot4} : lastF p l = none ↔ ∀ s ∈ l, p s = false := by
  induction l with
  | nil => simp [lastF]
  | cons s r ih =>
    simp only [lastF, List.mem_cons, forall_eq_or_imp]
    cases h : lastF p r with
    | none =>
      rw [h] at ih
      have hr := ih.1 rfl
      cases hp : p s <;> simp
      exact hr
    | some i =>
      rw [h] at ih
      simp only [reduceCtorEq, false_iff, not_and]
      intro _ hr
      exact absurd (ih.2 hr) (by simp)

theorem lastF_some {p : Slot4 → Bool} {l : List Slot4} {i : Nat} : lastF p l = some i ↔ i < l.length ∧ p (slotAt l i) = true ∧ ∀ j, i < j → j < l.length → p (slotAt l j) = false := by
  induction l generalizing i with
  | nil => simp [lastF]
  | cons s r ih =>
    simp only [lastF]
    have hs : ∀ j, slotAt (s :: r) (j + 1) = slotAt r j := fun j => by simp [slotAt]
    have h0 : slotAt (s :: r) 0 = s := by simp [slotAt]
    cases h : lastF p r with
    | none =>
      have hr := lastF_none.1 h
      constructor
      · intro hi
        by_cases hp : p s = true
        · rw [if_pos hp] at hi
          obtain rfl := Option.some.inj hi
          refine ⟨by simp, by rw [h0]; exact hp, fun j hj hl => ?_⟩
          obtain ⟨j, rfl⟩ : ∃ m, j = m + 1 := ⟨j - 1, by omega⟩
          rw [hs, slotAt_get (by simpa using hl)]
          exact hr _ (List.getElem_mem _)
        · rw [if_neg hp] at hi; cases hi
      · rintro ⟨h1, h2, h3⟩
        cases i with
        | zero => rw [h0] at h2; rw [if_pos h2]
        | succ i =>
          rw [hs, slotAt_get (by simpa using h1)] at h2
          rw [hr _ (List.getElem_mem _)] at h2; cases h2
    | some m =>
      obtain ⟨m1, m2, m3⟩ := ih.1 h
      constructor
      · intro hi
        obtain rfl := Option.some.inj hi
        refine ⟨by simpa using m1, by rw [hs]; exact m2, fun j hj hl => ?_⟩
        obtain ⟨j, rfl⟩ : ∃ m, j = m + 1 := ⟨j - 1, by omega⟩
        rw [hs]; exact m3 j (by omega) (by simpa using hl)
      · rintro ⟨h1, h2, h3⟩
        rw [Option.some.injEq]
        rcases Nat.lt_trichotomy (m + 1) i with hlt | heq | hgt
        · obtain ⟨i, rfl⟩ : ∃ m, i = m + 1 := ⟨i - 1, by omega⟩
          rw [hs, m3 i (by omega) (by simpa using h1)] at h2; cases h2
        · exact heq
        · have := h3 (m + 1) hgt (by simpa using m1)
          rw [hs, m2] at this; cases this

/-- What a key has ahead of a deed. -/
def aheadP (by' : Int) (s : Slot4) : Bool := decide (s.b < by') && !s.vo
def beforeF (l : List Slot4) (by' : Int) : Int × Int :=
  match lastF (aheadP by') l with
  | none => (0, -1)
  | some i => if (slotAt l i).op then (0, (slotAt l i).b) else ((slotAt l i).n, -1)

def openP (by' : Int) (s : Slot4) : Bool := s.op && (s.b == by')
def settleF (l : List Slot4) (x : Slot4) : List Slot4 :=
  match lastF (openP x.b) l with
  | none => l
  | some i => l.set i x
def toldF (l : List Slot4) (by' : Int) : Bool := (lastF (openP by') l).isSome

/-- What is known of the slots of a key: the deeds rise; who is open is a deed's, and not void. -/
structure Fine (l : List Slot4) : Prop where
  rise : ∀ i j, i < j → j < l.length → (slotAt l i).b < (slotAt l j).b
  low : ∀ i, i < l.length → -1 ≤ (slotAt l i).b
  deed : ∀ i, i < l.length → (slotAt l i).op = true → 0 ≤ (slotAt l i).b ∧ (slotAt l i).vo = false

theorem slotAt_set {l : List Slot4} {i j : Nat} {x : Slot4} (h : i < l.length) : slotAt (l.set i x) j = if j = i then x else slotAt l j := by
  unfold slotAt
  by_cases e : j = i
  · subst e; simp [h]
  · rw [List.getElem?_set_ne (by omega), if_neg e]

theorem settleF_length (l : List Slot4) (x : Slot4) : (settleF l x).length = l.length := by
  unfold settleF; split <;> simp

/-- What becomes of a slot. -/
theorem settleF_at {l : List Slot4} {x : Slot4} (hl : Fine l) (j : Nat) (hj : j < l.length) : slotAt (settleF l x) j = if openP x.b (slotAt l j) = true then x else slotAt l j := by
  unfold settleF
  cases h : lastF (openP x.b) l with
  | none =>
    have := lastF_none.1 h (slotAt l j) (by rw [slotAt_get hj]; exact List.getElem_mem _)
    simp [this]
  | some i =>
    obtain ⟨h1, h2, h3⟩ := lastF_some.1 h
    dsimp only
    rw [slotAt_set h1]
    by_cases e : j = i
    · subst e; rw [if_pos rfl, if_pos h2]
    · rw [if_neg e]
      have hne : (slotAt l j).b ≠ (slotAt l i).b := by
        rcases Nat.lt_or_gt_of_ne e with hlt | hgt
        · have := hl.rise j i hlt h1; omega
        · have := hl.rise i j hgt hj; omega
      have hb : (slotAt l i).b = x.b := by
        unfold openP at h2; simp at h2; exact h2.2
      have : openP x.b (slotAt l j) = false := by
        unfold openP; simp; intro _; rw [← hb]; exact hne
      simp [this]

theorem settleF_b {l : List Slot4} {x : Slot4} (hl : Fine l) (j : Nat) (hj : j < l.length) : (slotAt (settleF l x) j).b = (slotAt l j).b := by
  rw [settleF_at hl j hj]
  split
  · rename_i h; unfold openP at h; simp at h; exact h.2.symm
  · rfl

theorem Fine.settle {l : List Slot4} {x : Slot4} (hl : Fine l) (hx : x.op = false) : Fine (settleF l x) := by
  refine ⟨fun i j hij hj => ?_, fun i hi => ?_, fun i hi ho => ?_⟩
  · rw [settleF_length] at hj
    rw [settleF_b hl i (by omega), settleF_b hl j hj]; exact hl.rise i j hij hj
  · rw [settleF_length] at hi
    rw [settleF_b hl i hi]; exact hl.low i hi
  · rw [settleF_length] at hi
    rw [settleF_at hl i hi] at ho ⊢
    split at ho
    · rw [hx] at ho; cases ho
    · rename_i h; rw [if_neg h]; exact hl.deed i hi ho

theorem toldF_false {l : List Slot4} {b : Int} : toldF l b = false ↔ ∀ j, j < l.length → openP b (slotAt l j) = false := by
  unfold toldF
  rw [Option.isSome_eq_false_iff, Option.isNone_iff_eq_none, lastF_none]
  constructor
  · intro h j hj; rw [slotAt_get hj]; exact h _ (List.getElem_mem _)
  · intro h s hs
    obtain ⟨j, hj, rfl⟩ := List.mem_iff_getElem.1 hs
    rw [← slotAt_get hj]; exact h j hj

/-- NO SLOT IS TOLD TWICE. -/
theorem settle_told {l : List Slot4} {x : Slot4} (hl : Fine l) (hx : x.op = false) : toldF (settleF l x) x.b = false := by
  rw [toldF_false]
  intro j hj
  rw [settleF_length] at hj
  rw [settleF_at hl j hj]
  split
  · unfold openP; simp [hx]
  · rename_i h; simpa using h
theorem settle_none {l : List Slot4} {x : Slot4} (h : toldF l x.b = false) : settleF l x = l := by
  unfold toldF at h
  rw [Option.isSome_eq_false_iff, Option.isNone_iff_eq_none] at h
  unfold settleF; rw [h]

theorem before_who {l : List Slot4} (hl : Fine l) (b : Int) : (beforeF l b).2 = -1 ∨ (0 ≤ (beforeF l b).2 ∧ (beforeF l b).2 < b) := by
  unfold beforeF
  cases h : lastF (aheadP b) l with
  | none => exact .inl rfl
  | some i =>
    obtain ⟨h1, h2, h3⟩ := lastF_some.1 h
    dsimp only
    split
    · rename_i ho
      have := hl.deed i h1 ho
      unfold aheadP at h2; simp at h2
      exact .inr ⟨this.1, h2.1⟩
    · exact .inl rfl

/-- WHAT IS KNOWN STAYS KNOWN. -/
theorem before_stays {l : List Slot4} {x : Slot4} (hl : Fine l) (_hx : x.op = false) (b : Int) (hk : (beforeF l b).2 = -1) : beforeF (settleF l x) b = beforeF l b := by
  -- a slot ahead that is as it was, and not open, stays as it is
  have hout : ∀ j, j < l.length → aheadP b (slotAt l j) = false → aheadP b (slotAt (settleF l x) j) = false := fun j hj hp => by
    have hb := settleF_b (x := x) hl j hj
    rw [settleF_at hl j hj] at hb ⊢
    split
    · rename_i h
      rw [if_pos h] at hb
      have ho : (slotAt l j).op = true := by unfold openP at h; simp at h; exact h.1
      have hv := (hl.deed j hj ho).2
      unfold aheadP at hp ⊢
      rw [hv] at hp
      simp at hp
      simp only [Bool.and_eq_false_iff, decide_eq_false_iff_not]
      left; omega
    · exact hp
  unfold beforeF at hk ⊢
  cases h : lastF (aheadP b) l with
  | none =>
    have hn : lastF (aheadP b) (settleF l x) = none := by
      rw [lastF_none]
      intro s hs
      obtain ⟨j, hj, rfl⟩ := List.mem_iff_getElem.1 hs
      rw [settleF_length] at hj
      rw [← slotAt_get (by rw [settleF_length]; exact hj)]
      exact hout j hj (by rw [slotAt_get hj]; exact lastF_none.1 h _ (List.getElem_mem _))
    rw [hn]
  | some i =>
    obtain ⟨h1, h2, h3⟩ := lastF_some.1 h
    rw [h] at hk
    dsimp only at hk
    have ho : (slotAt l i).op = false := by
      cases hc : (slotAt l i).op with
      | false => rfl
      | true =>
        rw [hc] at hk
        have := (hl.deed i h1 hc).1
        simp at hk
        omega
    have hsame : slotAt (settleF l x) i = slotAt l i := by
      rw [settleF_at hl i h1, if_neg (by unfold openP; simp [ho])]
    have hs : lastF (aheadP b) (settleF l x) = some i := by
      rw [lastF_some]
      refine ⟨by rw [settleF_length]; exact h1, by rw [hsame]; exact h2, fun j hj hl' => ?_⟩
      rw [settleF_length] at hl'
      exact hout j hl' (h3 j hj hl')
    rw [hs]
    dsimp only
    rw [hsame]

/-- Of each key the slots of a table. -/
def putT (T : Nat → List Slot4) (k : Nat) (l : List Slot4) : Nat → List Slot4 := fun j => if j = k then l else T j

def storesF (d : List Op5) (k : Nat) : Bool := d.any fun o => (o.k == 7) && (o.a == (k : Int))
def keysF (d : List Op5) : List Nat := (List.range 10).filter (storesF d)

/-- The slots of a key, of the deeds from number i on. -/
def slotsF (k : Nat) : Nat → List (List Op5) → List Slot4
  | _, [] => []
  | i, d :: r => if storesF d k then ⟨i, true, false, 0⟩ :: slotsF k (i + 1) r else slotsF k (i + 1) r
def newF (s : Nat → Int) (r : List (List Op5)) : Nat → List Slot4 := fun k => ⟨-1, false, false, s k⟩ :: slotsF k 0 r

theorem slotsF_append (k i : Nat) (a b : List (List Op5)) : slotsF k i (a ++ b) = slotsF k i a ++ slotsF k (i + a.length) b := by
  induction a generalizing i with
  | nil => simp [slotsF]
  | cons d r ih =>
    simp only [List.cons_append, slotsF, List.length_cons]
    rw [ih, show i + 1 + r.length = i + (r.length + 1) by omega]
    split <;> simp
theorem slotsF_length (k i : Nat) (a : List (List Op5)) : (slotsF k i a).length ≤ a.length := by
  induction a generalizing i with
  | nil => simp [slotsF]
  | cons d r ih =>
    have := ih (i + 1)
    simp only [slotsF, List.length_cons]
    split
    · simp only [List.length_cons]; omega
    · omega
theorem slotsF_mem {k i : Nat} {a : List (List Op5)} {s : Slot4} (h : s ∈ slotsF k i a) : (i : Int) ≤ s.b ∧ s.op = true ∧ s.vo = false := by
  induction a generalizing i with
  | nil => simp [slotsF] at h
  | cons d r ih =>
    simp only [slotsF] at h
    split at h
    · rcases List.mem_cons.1 h with rfl | h
      · simp
      · have := ih h; exact ⟨by omega, this.2⟩
    · have := ih h; exact ⟨by omega, this.2⟩
theorem slotsF_rise {k i : Nat} {a : List (List Op5)} : (slotsF k i a).Pairwise (fun s t => s.b < t.b) := by
  induction a generalizing i with
  | nil => simp [slotsF]
  | cons d r ih =>
    simp only [slotsF]
    split
    · refine List.Pairwise.cons (fun t ht => ?_) ih
      have := (slotsF_mem ht).1
      show (i : Int) < t.b
      omega
    · exact ih

theorem newF_fine (s : Nat → Int) (r : List (List Op5)) (k : Nat) : Fine (newF s r k) := by
  have hp : (newF s r k).Pairwise (fun s t => s.b < t.b) := List.Pairwise.cons (fun t ht => by have := (slotsF_mem ht).1; show (-1 : Int) < t.b; omega) slotsF_rise
  have hm : ∀ t ∈ newF s r k, -1 ≤ t.b ∧ (t.op = true → 0 ≤ t.b ∧ t.vo = false) := fun t ht => by
    rcases List.mem_cons.1 ht with rfl | ht
    · exact ⟨by simp, by simp⟩
    · obtain ⟨h1, h2, h3⟩ := slotsF_mem ht
      exact ⟨by omega, fun _ => ⟨by omega, h3⟩⟩
  refine ⟨fun i j hij hj => ?_, fun i hi => ?_, fun i hi ho => ?_⟩
  · rw [slotAt_get hj, slotAt_get (Nat.lt_trans hij hj)]
    exact List.pairwise_iff_getElem.1 hp i j _ _ hij
  · rw [slotAt_get hi]; exact (hm _ (List.getElem_mem _)).1
  · rw [slotAt_get hi] at ho ⊢; exact (hm _ (List.getElem_mem _)).2 ho
/-- The same, whatever number of a key is asked for. -/
def settleT (T : Nat → List Slot4) (k : Int) (x : Slot4) : Nat → List Slot4 := if 0 ≤ k ∧ k < 10 then putT T k.toNat (settleF (T k.toNat) x) else T
def toldT (T : Nat → List Slot4) (k b : Int) : Bool := if 0 ≤ k ∧ k < 10 then toldF (T k.toNat) b else false
def beforeT (T : Nat → List Slot4) (k b : Int) : Int × Int := if 0 ≤ k ∧ k < 10 then beforeF (T k.toNat) b else (0, -1)

def FineT (T : Nat → List Slot4) : Prop := ∀ k, k < 10 → Fine (T k)
theorem FineT.settle {T : Nat → List Slot4} (h : FineT T) (k : Int) {x : Slot4} (hx : x.op = false) : FineT (settleT T k x) := by
  unfold settleT
  split
  · intro j hj
    unfold putT
    split
    · rename_i e; exact (h _ (by omega)).settle hx
    · exact h j hj
  · exact h
theorem FineT.stays {T : Nat → List Slot4} (h : FineT T) (k' : Int) {x : Slot4} (hx : x.op = false) {k b : Int} (hk : (beforeT T k b).2 = -1) : beforeT (settleT T k' x) k b = beforeT T k b := by
  unfold beforeT at hk ⊢
  by_cases hkk : 0 ≤ k ∧ k < 10
  · rw [if_pos hkk] at hk
    rw [if_pos hkk, if_pos hkk]
    unfold settleT
    split
    · unfold putT
      split
      · rename_i e
        rw [← e]
        exact before_stays (h _ (by omega)) hx b hk
      · rfl
    · rfl
  · rw [if_neg hkk, if_neg hkk]
theorem FineT.again {T : Nat → List Slot4} (h : FineT T) (k : Int) {x : Slot4} (hx : x.op = false) : toldT (settleT T k x) k x.b = false := by
  unfold toldT settleT
  by_cases hkk : 0 ≤ k ∧ k < 10
  · rw [if_pos hkk, if_pos hkk]
    unfold putT
    rw [if_pos rfl]
    exact settle_told (h _ (by omega)) hx
  · rw [if_neg hkk]
theorem settleT_none {T : Nat → List Slot4} {k : Int} {x : Slot4} (h : toldT T k x.b = false) : settleT T k x = T := by
  unfold toldT at h
  unfold settleT
  split
  · rename_i hk
    rw [if_pos hk] at h
    funext j
    unfold putT
    split
    · rename_i e; rw [settle_none h, e]
    · rfl
  · rfl
theorem FineT.who {T : Nat → List Slot4} (h : FineT T) (k b : Int) : (beforeT T k b).2 = -1 ∨ (0 ≤ (beforeT T k b).2 ∧ (beforeT T k b).2 < b) := by
  unfold beforeT
  split
  · exact before_who (h _ (by omega)) b
  · exact .inl rfl

end Go.Proofs.YtokjigebjcgdjacDoor
