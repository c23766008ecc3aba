/-
  What a deed comes to, on plain functions: its registers, the state, the place of its next operation; and what the laws lean on. What a table reckons, as plain functions on lists of slots; and what the laws lean on. Nothing of the program's text is imported here. FILLED, IT IS THE STATE, on plain functions; and what the reference's own look at a round has to do with the program's. What a worker reckons, as plain functions; and what the laws of a deed that is done step by step lean on. ALONE IT DOES WHAT IT SAYS, on plain functions. IN WHATEVER ORDER THEY RUN, THEY CAME ONE BEHIND THE OTHER, on plain functions.
-/
import Derived.Test.YtehkjbpgibdgpadGreatDoorJqMa
import Derived.WalkKit
namespace Go.Proofs.YtehkjbpgibdgpadGreatDoor
open Go.RowKit

/-- A row with one place changed. -/
def putAt (f : Nat → Int) (a : Nat) (n : Int) : Nat → Int := fun i => if i = a then n else f i

/-- A runner: registers, state, the place of the next operation. -/
structure Run where
  regs : Nat → Int
  st : Nat → Int
  next : Nat

/-- What a deed came to. -/
structure Out where
  st : Nat → Int
  code : Int
  regs : Nat → Int

def arithF (k a b : Int) : Int :=
  if k = 3 then wrap64 (a + b) else if k = 4 then wrap64 (a - b) else if k = 5 then wrap64 (a * b) else if k = 6 ∧ a < b then 1 else 0

def stepF (o : Op5) (r : Run) : Run :=
  if o.k = 1 then ⟨putAt r.regs o.a.toNat o.n, r.st, r.next + 1⟩
  else if o.k = 2 then ⟨putAt r.regs o.a.toNat (r.st o.b.toNat), r.st, r.next + 1⟩
  else if o.k = 7 then ⟨r.regs, putAt r.st o.a.toNat (r.regs o.b.toNat), r.next + 1⟩
  else if o.k = 9 then ⟨r.regs, r.st, if r.regs o.a.toNat = 0 then r.next + 1 + o.b.toNat else r.next + 1⟩
  else if o.k = 3 ∨ o.k = 4 ∨ o.k = 5 ∨ o.k = 6 then ⟨putAt r.regs o.a.toNat (arithF o.k (r.regs o.b.toNat) (r.regs o.c.toNat)), r.st, r.next + 1⟩
  else ⟨r.regs, r.st, r.next + 1⟩

theorem stepF_next (o : Op5) (r : Run) : r.next < (stepF o r).next := by
  unfold stepF
  repeat' split
  all_goals (dsimp only; try split)
  all_goals omega

def runF (s : Nat → Int) (d : List Op5) (r : Run) : Out :=
  if h : r.next < d.length then
    if d[r.next].k = 8 ∧ r.regs d[r.next].a.toNat ≠ 0 then ⟨s, 9, r.regs⟩ else runF s d (stepF d[r.next] r)
  else ⟨r.st, 0, r.regs⟩
  termination_by d.length - r.next
  decreasing_by
    have := stepF_next d[r.next] r
    omega

def doF (s : Nat → Int) (d : List Op5) : Out := runF s d ⟨fun _ => 0, s, 0⟩

theorem runF_end {s : Nat → Int} {d : List Op5} {r : Run} (h : ¬ r.next < d.length) : runF s d r = ⟨r.st, 0, r.regs⟩ := by
  rw [runF, dif_neg h]
theorem runF_stop {s : Nat → Int} {d : List Op5} {r : Run} (h : r.next < d.length) (h8 : d[r.next].k = 8) (h0 : r.regs d[r.next].a.toNat ≠ 0) : runF s d r = ⟨s, 9, r.regs⟩ := by
  rw [runF, dif_pos h, if_pos ⟨h8, h0⟩]
theorem runF_step {s : Nat → Int} {d : List Op5} {r : Run} (h : r.next < d.length) (h8 : ¬ (d[r.next].k = 8 ∧ r.regs d[r.next].a.toNat ≠ 0)) : runF s d (stepF d[r.next] r) = runF s d r := by
  rw [runF.eq_def s d r, dif_pos h, if_neg h8]

/-- What each step keeps holds at the end. -/
theorem runF_inv {s : Nat → Int} {d : List Op5} (P : Run → Prop) (hs : ∀ r, P r → ∀ h : r.next < d.length, P (stepF d[r.next] r)) :
    ∀ (n : Nat) (r : Run), d.length - r.next ≤ n → P r → ((runF s d r).code = 9 ∧ (runF s d r).st = s) ∨ ((runF s d r).code = 0 ∧ ∃ r', P r' ∧ (runF s d r).st = r'.st) := by
  intro n
  induction n with
  | zero =>
    intro r hn hp
    rw [runF_end (by omega)]
    exact .inr ⟨rfl, r, hp, rfl⟩
  | succ n ih =>
    intro r hn hp
    by_cases h : r.next < d.length
    · by_cases h8 : d[r.next].k = 8 ∧ r.regs d[r.next].a.toNat ≠ 0
      · rw [runF_stop h h8.1 h8.2]; exact .inl ⟨rfl, rfl⟩
      · rw [← runF_step h h8]
        refine ih _ ?_ (hs r hp h)
        have := stepF_next d[r.next] r
        omega
    · rw [runF_end h]
      exact .inr ⟨rfl, r, hp, rfl⟩

/-- WHAT STOPS ITSELF DOES NOTHING. -/
theorem doF_stops (s : Nat → Int) (d : List Op5) : ((doF s d).code = 9 ∧ (doF s d).st = s) ∨ ((doF s d).code = 0 ∧ ∀ k, (doF s d).st k ≠ s k → ∃ o ∈ d, o.k = 7 ∧ o.a.toNat = k) := by
  have h := runF_inv (s := s) (d := d) (fun r => ∀ k, r.st k ≠ s k → ∃ o ∈ d, o.k = 7 ∧ o.a.toNat = k) (fun r hr hlt k hk => by
    by_cases h7 : d[r.next].k = 7
    · by_cases hka : k = d[r.next].a.toNat
      · exact ⟨_, List.getElem_mem hlt, h7, hka.symm⟩
      · refine hr k ?_
        simpa [stepF, h7, putAt, hka] using hk
    · refine hr k ?_
      revert hk
      unfold stepF
      repeat' split
      all_goals first | contradiction | exact fun h => h) d.length ⟨fun _ => 0, s, 0⟩ (by simp) (fun k hk => absurd rfl hk)
  rcases h with h | ⟨h0, r', hr, he⟩
  · exact .inl h
  · exact .inr ⟨h0, fun k hk => hr k (by rw [← he]; exact hk)⟩

/-- Two runs side by side. -/
structure Beside (s t : Nat → Int) (r q : Run) : Prop where
  next : r.next = q.next
  regs : r.regs = q.regs
  st : ∀ k, r.st k = q.st k ∨ (r.st k = s k ∧ q.st k = t k)

theorem Beside.step {s t : Nat → Int} {r q : Run} (h : Beside s t r q) (o : Op5) (ho : o.k = 2 → s o.b.toNat = t o.b.toNat) : Beside s t (stepF o r) (stepF o q) := by
  obtain ⟨h1, h2, h3⟩ := h
  unfold stepF
  by_cases k1 : o.k = 1
  · simp only [k1, if_true]; exact ⟨by simp [h1], by simp [h2], h3⟩
  by_cases k2 : o.k = 2
  · have hb : r.st o.b.toNat = q.st o.b.toNat := by
      rcases h3 o.b.toNat with h | ⟨ha, hb⟩
      · exact h
      · rw [ha, hb, ho k2]
    rw [if_neg k1, if_neg k1, if_pos k2, if_pos k2]
    exact ⟨by simp [h1], by simp [h2, hb], h3⟩
  by_cases k7 : o.k = 7
  · rw [if_neg k1, if_neg k1, if_neg k2, if_neg k2, if_pos k7, if_pos k7]
    refine ⟨by simp [h1], h2, fun k => ?_⟩
    by_cases hk : k = o.a.toNat
    · left; simp [putAt, hk, h2]
    · simpa [putAt, hk] using h3 k
  by_cases k9 : o.k = 9
  · rw [if_neg k1, if_neg k1, if_neg k2, if_neg k2, if_neg k7, if_neg k7, if_pos k9, if_pos k9]
    exact ⟨by simp [h1, h2], h2, h3⟩
  rw [if_neg k1, if_neg k1, if_neg k2, if_neg k2, if_neg k7, if_neg k7, if_neg k9, if_neg k9]
  split
  · exact ⟨by simp [h1], by simp [h2], h3⟩
  · exact ⟨by simp [h1], h2, h3⟩

theorem runF_beside {s t : Nat → Int} {d : List Op5} (hl : ∀ o ∈ d, o.k = 2 → s o.b.toNat = t o.b.toNat) :
    ∀ (n : Nat) (r q : Run), d.length - r.next ≤ n → Beside s t r q → (runF s d r).code = (runF t d q).code ∧ (runF s d r).regs = (runF t d q).regs ∧ ∀ k, (runF s d r).st k = (runF t d q).st k ∨ ((runF s d r).st k = s k ∧ (runF t d q).st k = t k) := by
  intro n
  induction n with
  | zero =>
    intro r q hn hb
    rw [runF_end (r := r) (by omega), runF_end (r := q) (by have := hb.next; omega)]
    exact ⟨rfl, hb.regs, hb.st⟩
  | succ n ih =>
    intro r q hn hb
    obtain ⟨rr, rs, rn⟩ := r
    obtain ⟨qr, qs, qn⟩ := q
    obtain ⟨h1, h2, h3⟩ := hb
    dsimp only at h1 h2 h3 hn
    subst h1 h2
    by_cases h : rn < d.length
    · by_cases h8 : d[rn].k = 8 ∧ rr d[rn].a.toNat ≠ 0
      · rw [runF_stop (r := ⟨rr, rs, rn⟩) h h8.1 h8.2, runF_stop (r := ⟨rr, qs, rn⟩) h h8.1 h8.2]
        exact ⟨rfl, rfl, fun k => .inr ⟨rfl, rfl⟩⟩
      · rw [← runF_step (r := ⟨rr, rs, rn⟩) h h8, ← runF_step (r := ⟨rr, qs, rn⟩) h h8]
        refine ih _ _ ?_ (Beside.step (s := s) (t := t) (r := ⟨rr, rs, rn⟩) (q := ⟨rr, qs, rn⟩) ⟨rfl, rfl, h3⟩ d[rn] (hl _ (List.getElem_mem h)))
        have := stepF_next d[rn] ⟨rr, rs, rn⟩
        dsimp only at this ⊢
        omega
    · rw [runF_end (r := ⟨rr, rs, rn⟩) h, runF_end (r := ⟨rr, qs, rn⟩) h]
      exact ⟨rfl, rfl, h3⟩

/-- WHAT IT DOES NOT LOAD DOES NOT MATTER. -/
theorem doF_reads {s t : Nat → Int} {d : List Op5} (hl : ∀ o ∈ d, o.k = 2 → s o.b.toNat = t o.b.toNat) : (doF s d).code = (doF t d).code ∧ (doF s d).regs = (doF t d).regs ∧ ∀ k, (doF s d).st k = (doF t d).st k ∨ ((doF s d).st k = s k ∧ (doF t d).st k = t k) :=
  runF_beside hl d.length _ _ (by simp) ⟨rfl, rfl, fun k => .inr ⟨rfl, rfl⟩⟩

/-- DONE AGAIN IT IS THE SAME. -/
theorem doF_twice {s : Nat → Int} {d : List Op5} (hl : ∀ o ∈ d, o.k = 2 → ∀ p ∈ d, p.k = 7 → p.a.toNat ≠ o.b.toNat) : doF (doF s d).st d = doF s d := by
  have hx : ∀ o ∈ d, o.k = 2 → s o.b.toNat = (doF s d).st o.b.toNat := fun o ho h2 => by
    rcases doF_stops s d with ⟨-, h⟩ | ⟨-, h⟩
    · rw [h]
    · by_cases he : (doF s d).st o.b.toNat = s o.b.toNat
      · exact he.symm
      · obtain ⟨p, hp, h7, ha⟩ := h _ he
        exact absurd ha (hl o ho h2 p hp h7)
  obtain ⟨h1, h2, h3⟩ := doF_reads hx
  have h3' : (doF (doF s d).st d).st = (doF s d).st := by
    funext k
    rcases h3 k with h | ⟨-, h⟩
    · exact h.symm
    · exact h
  generalize hq : doF (doF s d).st d = q at *
  generalize doF s d = p at *
  cases p; cases q
  simp_all

/-- The deeds of a round, each on what the one ahead left. -/
def allSt (s : Nat → Int) : List (List Op5) → (Nat → Int)
  | [] => s
  | d :: r => allSt (doF s d).st r
def allOut (s : Nat → Int) : List (List Op5) → List Out
  | [] => []
  | d :: r => doF s d :: allOut (doF s d).st r
theorem allSt_append (s : Nat → Int) (a b : List (List Op5)) : allSt s (a ++ b) = allSt (allSt s a) b := by
  induction a generalizing s with
  | nil => rfl
  | cons d r ih => exact ih _
theorem allOut_append (s : Nat → Int) (a b : List (List Op5)) : allOut s (a ++ b) = allOut s a ++ allOut (allSt s a) b := by
  induction a generalizing s with
  | nil => rfl
  | cons d r ih => simp only [List.cons_append, allOut, allSt, ih]
theorem allOut_length (s : Nat → Int) (a : List (List Op5)) : (allOut s a).length = a.length := by
  induction a generalizing s with
  | nil => rfl
  | cons d r ih => simp only [allOut, List.length_cons, ih]

theorem roundF_take {r : List (List Op5)} (h : roundF r = 0) (k : Nat) : roundF (r.take k) = 0 := by
  rw [roundF_zero] at h ⊢
  exact ⟨by rw [List.length_take]; omega, fun d hd => h.2 d (List.mem_of_mem_take hd)⟩
theorem roundF_drop {r : List (List Op5)} (h : roundF r = 0) (k : Nat) : roundF (r.drop k) = 0 := by
  rw [roundF_zero] at h ⊢
  exact ⟨by rw [List.length_drop]; omega, fun d hd => h.2 d (List.mem_of_mem_drop hd)⟩

/-- What may stand in a part of an operation that is well made. -/
theorem alone_parts {o : Op5} (h : aloneF o = 0) : (o.k = 1 ∧ 0 ≤ o.a ∧ o.a < 4) ∨ (o.k = 2 ∧ 0 ≤ o.a ∧ o.a < 4 ∧ 0 ≤ o.b ∧ o.b < 10)
    ∨ ((o.k = 3 ∨ o.k = 4 ∨ o.k = 5 ∨ o.k = 6) ∧ 0 ≤ o.a ∧ o.a < 4 ∧ 0 ≤ o.b ∧ o.b < 4 ∧ 0 ≤ o.c ∧ o.c < 4)
    ∨ (o.k = 7 ∧ 0 ≤ o.a ∧ o.a < 10 ∧ 0 ≤ o.b ∧ o.b < 4) ∨ (o.k = 8 ∧ 0 ≤ o.a ∧ o.a < 4) ∨ (o.k = 9 ∧ 0 ≤ o.a ∧ o.a < 4 ∧ 0 ≤ o.b ∧ o.b < 14) := by
  have hk := alone_kind h
  obtain ⟨k, a, b, c, n⟩ := o
  dsimp only at hk ⊢
  have part : ∀ p l : Int, 0 < l → partF p l = 0 → 0 ≤ p ∧ p < l := fun p l hl hp => by
    unfold partF at hp
    rw [if_neg (by omega)] at hp
    split at hp
    · exact absurd hp (by decide)
    · omega
  have parts : partF a (limF k 0) = 0 ∧ partF b (limF k 1) = 0 ∧ partF c (limF k 2) = 0 := by
    unfold aloneF at h
    dsimp only at h
    rw [if_neg (by omega)] at h
    by_cases h0 : partF a (limF k 0) = 0
    · by_cases h1 : partF b (limF k 1) = 0
      · by_cases h2 : partF c (limF k 2) = 0
        · exact ⟨h0, h1, h2⟩
        · simp [h0, h1, h2] at h
      · simp [h0, h1] at h
    · simp [h0] at h
  obtain ⟨pa, pb, pc⟩ := parts
  have hc : k = 1 ∨ k = 2 ∨ k = 3 ∨ k = 4 ∨ k = 5 ∨ k = 6 ∨ k = 7 ∨ k = 8 ∨ k = 9 := by omega
  rcases hc with rfl | rfl | rfl | rfl | rfl | rfl | rfl | rfl | rfl
  · have := part _ _ (by decide) pa; simp only [limF] at this; omega
  · have qa := part _ _ (by decide) pa; have qb := part _ _ (by decide) pb; simp only [limF] at qa qb; omega
  · have qa := part _ _ (by decide) pa; have qb := part _ _ (by decide) pb; have qc := part _ _ (by decide) pc; simp only [limF] at qa qb qc; omega
  · have qa := part _ _ (by decide) pa; have qb := part _ _ (by decide) pb; have qc := part _ _ (by decide) pc; simp only [limF] at qa qb qc; omega
  · have qa := part _ _ (by decide) pa; have qb := part _ _ (by decide) pb; have qc := part _ _ (by decide) pc; simp only [limF] at qa qb qc; omega
  · have qa := part _ _ (by decide) pa; have qb := part _ _ (by decide) pb; have qc := part _ _ (by decide) pc; simp only [limF] at qa qb qc; omega
  · have qa := part _ _ (by decide) pa; have qb := part _ _ (by decide) pb; simp only [limF] at qa qb; omega
  · have := part _ _ (by decide) pa; simp only [limF] at this; omega
  · have qa := part _ _ (by decide) pa; have qb := part _ _ (by decide) pb; simp only [limF] at qa qb; omega
end Go.Proofs.YtehkjbpgibdgpadGreatDoor
namespace Go.Proofs.YtehkjbpgibdgpadGreatDoor

/-- A slot of a key: By, Open, Void, N. -/
structure Slot4 where
  b : Int
  op : Bool
  vo : Bool
  n : Int

def slot0 : Slot4 := ⟨0, false, false, 0⟩
def slotAt (l : List Slot4) (i : Nat) : Slot4 := l[i]?.getD slot0
theorem slotAt_get {l : List Slot4} {i : Nat} (h : i < l.length) : slotAt l i = l[i] := by simp [slotAt, h]

/-- The number of the last slot that is as asked for. -/
def lastF (p : Slot4 → Bool) : List Slot4 → Option Nat
  | [] => none
  | s :: r => match lastF p r with
    | some i => some (i + 1)
    | none => if p s then some 0 else none

theorem lastF_none {p : Slot4 → Bool} {l : List Slot4} : lastF p l = none ↔ ∀ s ∈ l, p s = false := by
  induction l with
  | nil => simp [lastF]
  | cons s r ih =>
    simp only [lastF, List.mem_cons, forall_eq_or_imp]
    cases h : lastF p r with
    | none =>
      rw [h] at ih
      have hr := ih.1 rfl
      cases hp : p s <;> simp
      exact hr
    | some i =>
      rw [h] at ih
      simp only [reduceCtorEq, false_iff, not_and]
      intro _ hr
      exact absurd (ih.2 hr) (by simp)

theorem lastF_some {p : Slot4 → Bool} {l : List Slot4} {i : Nat} : lastF p l = some i ↔ i < l.length ∧ p (slotAt l i) = true ∧ ∀ j, i < j → j < l.length → p (slotAt l j) = false := by
  induction l generalizing i with
  | nil => simp [lastF]
  | cons s r ih =>
    simp only [lastF]
    have hs : ∀ j, slotAt (s :: r) (j + 1) = slotAt r j := fun j => by simp [slotAt]
    have h0 : slotAt (s :: r) 0 = s := by simp [slotAt]
    cases h : lastF p r with
    | none =>
      have hr := lastF_none.1 h
      constructor
      · intro hi
        by_cases hp : p s = true
        · rw [if_pos hp] at hi
          obtain rfl := Option.some.inj hi
          refine ⟨by simp, by rw [h0]; exact hp, fun j hj hl => ?_⟩
          obtain ⟨j, rfl⟩ : ∃ m, j = m + 1 := ⟨j - 1, by omega⟩
          rw [hs, slotAt_get (by simpa using hl)]
          exact hr _ (List.getElem_mem _)
        · rw [if_neg hp] at hi; cases hi
      · rintro ⟨h1, h2, h3⟩
        cases i with
        | zero => rw [h0] at h2; rw [if_pos h2]
        | succ i =>
          rw [hs, slotAt_get (by simpa using h1)] at h2
          rw [hr _ (List.getElem_mem _)] at h2; cases h2
    | some m =>
      obtain ⟨m1, m2, m3⟩ := ih.1 h
      constructor
      · intro hi
        obtain rfl := Option.some.inj hi
        refine ⟨by simpa using m1, by rw [hs]; exact m2, fun j hj hl => ?_⟩
        obtain ⟨j, rfl⟩ : ∃ m, j = m + 1 := ⟨j - 1, by omega⟩
        rw [hs]; exact m3 j (by omega) (by simpa using hl)
      · rintro ⟨h1, h2, h3⟩
        rw [Option.some.injEq]
        rcases Nat.lt_trichotomy (m + 1) i with hlt | heq | hgt
        · obtain ⟨i, rfl⟩ : ∃ m, i = m + 1 := ⟨i - 1, by omega⟩
          rw [hs, m3 i (by omega) (by simpa using h1)] at h2; cases h2
        · exact heq
        · have := h3 (m + 1) hgt (by simpa using m1)
          rw [hs, m2] at this; cases this

/-- What a key has ahead of a deed. -/
def aheadP (by' : Int) (s : Slot4) : Bool := decide (s.b < by') && !s.vo
def beforeF (l : List Slot4) (by' : Int) : Int × Int :=
  match lastF (aheadP by') l with
  | none => (0, -1)
  | some i => if (slotAt l i).op then (0, (slotAt l i).b) else ((slotAt l i).n, -1)

def openP (by' : Int) (s : Slot4) : Bool := s.op && (s.b == by')
def settleF (l : List Slot4) (x : Slot4) : List Slot4 :=
  match lastF (openP x.b) l with
  | none => l
  | some i => l.set i x
def toldF (l : List Slot4) (by' : Int) : Bool := (lastF (openP by') l).isSome

/-- What is known of the slots of a key: the deeds rise; who is open is a deed's, and not void. -/
structure Fine (l : List Slot4) : Prop where
  rise : ∀ i j, i < j → j < l.length → (slotAt l i).b < (slotAt l j).b
  low : ∀ i, i < l.length → -1 ≤ (slotAt l i).b
  deed : ∀ i, i < l.length → (slotAt l i).op = true → 0 ≤ (slotAt l i).b ∧ (slotAt l i).vo = false

theorem slotAt_set {l : List Slot4} {i j : Nat} {x : Slot4} (h : i < l.length) : slotAt (l.set i x) j = if j = i then x else slotAt l j := by
  unfold slotAt
  by_cases e : j = i
  · subst e; simp [h]
  · rw [List.getElem?_set_ne (by omega), if_neg e]

theorem settleF_length (l : List Slot4) (x : Slot4) : (settleF l x).length = l.length := by
  unfold settleF; split <;> simp

/-- What becomes of a slot. -/
theorem settleF_at {l : List Slot4} {x : Slot4} (hl : Fine l) (j : Nat) (hj : j < l.length) : slotAt (settleF l x) j = if openP x.b (slotAt l j) = true then x else slotAt l j := by
  unfold settleF
  cases h : lastF (openP x.b) l with
  | none =>
    have := lastF_none.1 h (slotAt l j) (by rw [slotAt_get hj]; exact List.getElem_mem _)
    simp [this]
  | some i =>
    obtain ⟨h1, h2, h3⟩ := lastF_some.1 h
    dsimp only
    rw [slotAt_set h1]
    by_cases e : j = i
    · subst e; rw [if_pos rfl, if_pos h2]
    · rw [if_neg e]
      have hne : (slotAt l j).b ≠ (slotAt l i).b := by
        rcases Nat.lt_or_gt_of_ne e with hlt | hgt
        · have := hl.rise j i hlt h1; omega
        · have := hl.rise i j hgt hj; omega
      have hb : (slotAt l i).b = x.b := by
        unfold openP at h2; simp at h2; exact h2.2
      have : openP x.b (slotAt l j) = false := by
        unfold openP; simp; intro _; rw [← hb]; exact hne
      simp [this]

theorem settleF_b {l : List Slot4} {x : Slot4} (hl : Fine l) (j : Nat) (hj : j < l.length) : (slotAt (settleF l x) j).b = (slotAt l j).b := by
  rw [settleF_at hl j hj]
  split
  · rename_i h; unfold openP at h; simp at h; exact h.2.symm
  · rfl

theorem Fine.settle {l : List Slot4} {x : Slot4} (hl : Fine l) (hx : x.op = false) : Fine (settleF l x) := by
  refine ⟨fun i j hij hj => ?_, fun i hi => ?_, fun i hi ho => ?_⟩
  · rw [settleF_length] at hj
    rw [settleF_b hl i (by omega), settleF_b hl j hj]; exact hl.rise i j hij hj
  · rw [settleF_length] at hi
    rw [settleF_b hl i hi]; exact hl.low i hi
  · rw [settleF_length] at hi
    rw [settleF_at hl i hi] at ho ⊢
    split at ho
    · rw [hx] at ho; cases ho
    · rename_i h; rw [if_neg h]; exact hl.deed i hi ho

theorem toldF_false {l : List Slot4} {b : Int} : toldF l b = false ↔ ∀ j, j < l.length → openP b (slotAt l j) = false := by
  unfold toldF
  rw [Option.isSome_eq_false_iff, Option.isNone_iff_eq_none, lastF_none]
  constructor
  · intro h j hj; rw [slotAt_get hj]; exact h _ (List.getElem_mem _)
  · intro h s hs
    obtain ⟨j, hj, rfl⟩ := List.mem_iff_getElem.1 hs
    rw [← slotAt_get hj]; exact h j hj

/-- NO SLOT IS TOLD TWICE. -/
theorem settle_told {l : List Slot4} {x : Slot4} (hl : Fine l) (hx : x.op = false) : toldF (settleF l x) x.b = false := by
  rw [toldF_false]
  intro j hj
  rw [settleF_length] at hj
  rw [settleF_at hl j hj]
  split
  · unfold openP; simp [hx]
  · rename_i h; simpa using h
theorem settle_none {l : List Slot4} {x : Slot4} (h : toldF l x.b = false) : settleF l x = l := by
  unfold toldF at h
  rw [Option.isSome_eq_false_iff, Option.isNone_iff_eq_none] at h
  unfold settleF; rw [h]

theorem before_who {l : List Slot4} (hl : Fine l) (b : Int) : (beforeF l b).2 = -1 ∨ (0 ≤ (beforeF l b).2 ∧ (beforeF l b).2 < b) := by
  unfold beforeF
  cases h : lastF (aheadP b) l with
  | none => exact .inl rfl
  | some i =>
    obtain ⟨h1, h2, h3⟩ := lastF_some.1 h
    dsimp only
    split
    · rename_i ho
      have := hl.deed i h1 ho
      unfold aheadP at h2; simp at h2
      exact .inr ⟨this.1, h2.1⟩
    · exact .inl rfl

/-- WHAT IS KNOWN STAYS KNOWN. -/
theorem before_stays {l : List Slot4} {x : Slot4} (hl : Fine l) (_hx : x.op = false) (b : Int) (hk : (beforeF l b).2 = -1) : beforeF (settleF l x) b = beforeF l b := by
  -- a slot ahead that is as it was, and not open, stays as it is
  have hout : ∀ j, j < l.length → aheadP b (slotAt l j) = false → aheadP b (slotAt (settleF l x) j) = false := fun j hj hp => by
    have hb := settleF_b (x := x) hl j hj
    rw [settleF_at hl j hj] at hb ⊢
    split
    · rename_i h
      rw [if_pos h] at hb
      have ho : (slotAt l j).op = true := by unfold openP at h; simp at h; exact h.1
      have hv := (hl.deed j hj ho).2
      unfold aheadP at hp ⊢
      rw [hv] at hp
      simp at hp
      simp only [Bool.and_eq_false_iff, decide_eq_false_iff_not]
      left; omega
    · exact hp
  unfold beforeF at hk ⊢
  cases h : lastF (aheadP b) l with
  | none =>
    have hn : lastF (aheadP b) (settleF l x) = none := by
      rw [lastF_none]
      intro s hs
      obtain ⟨j, hj, rfl⟩ := List.mem_iff_getElem.1 hs
      rw [settleF_length] at hj
      rw [← slotAt_get (by rw [settleF_length]; exact hj)]
      exact hout j hj (by rw [slotAt_get hj]; exact lastF_none.1 h _ (List.getElem_mem _))
    rw [hn]
  | some i =>
    obtain ⟨h1, h2, h3⟩ := lastF_some.1 h
    rw [h] at hk
    dsimp only at hk
    have ho : (slotAt l i).op = false := by
      cases hc : (slotAt l i).op with
      | false => rfl
      | true =>
        rw [hc] at hk
        have := (hl.deed i h1 hc).1
        simp at hk
        omega
    have hsame : slotAt (settleF l x) i = slotAt l i := by
      rw [settleF_at hl i h1, if_neg (by unfold openP; simp [ho])]
    have hs : lastF (aheadP b) (settleF l x) = some i := by
      rw [lastF_some]
      refine ⟨by rw [settleF_length]; exact h1, by rw [hsame]; exact h2, fun j hj hl' => ?_⟩
      rw [settleF_length] at hl'
      exact hout j hl' (h3 j hj hl')
    rw [hs]
    dsimp only
    rw [hsame]

/-- Of each key the slots of a table. -/
def putT (T : Nat → List Slot4) (k : Nat) (l : List Slot4) : Nat → List Slot4 := fun j => if j = k then l else T j

def storesF (d : List Op5) (k : Nat) : Bool := d.any fun o => (o.k == 7) && (o.a == (k : Int))
def keysF (d : List Op5) : List Nat := (List.range 10).filter (storesF d)

/-- The slots of a key, of the deeds from number i on. -/
def slotsF (k : Nat) : Nat → List (List Op5) → List Slot4
  | _, [] => []
  | i, d :: r => if storesF d k then ⟨i, true, false, 0⟩ :: slotsF k (i + 1) r else slotsF k (i + 1) r
def newF (s : Nat → Int) (r : List (List Op5)) : Nat → List Slot4 := fun k => ⟨-1, false, false, s k⟩ :: slotsF k 0 r

theorem slotsF_append (k i : Nat) (a b : List (List Op5)) : slotsF k i (a ++ b) = slotsF k i a ++ slotsF k (i + a.length) b := by
  induction a generalizing i with
  | nil => simp [slotsF]
  | cons d r ih =>
    simp only [List.cons_append, slotsF, List.length_cons]
    rw [ih, show i + 1 + r.length = i + (r.length + 1) by omega]
    split <;> simp
theorem slotsF_length (k i : Nat) (a : List (List Op5)) : (slotsF k i a).length ≤ a.length := by
  induction a generalizing i with
  | nil => simp [slotsF]
  | cons d r ih =>
    have := ih (i + 1)
    simp only [slotsF, List.length_cons]
    split
    · simp only [List.length_cons]; omega
    · omega
theorem slotsF_mem {k i : Nat} {a : List (List Op5)} {s : Slot4} (h : s ∈ slotsF k i a) : (i : Int) ≤ s.b ∧ s.op = true ∧ s.vo = false := by
  induction a generalizing i with
  | nil => simp [slotsF] at h
  | cons d r ih =>
    simp only [slotsF] at h
    split at h
    · rcases List.mem_cons.1 h with rfl | h
      · simp
      · have := ih h; exact ⟨by omega, this.2⟩
    · have := ih h; exact ⟨by omega, this.2⟩
theorem slotsF_rise {k i : Nat} {a : List (List Op5)} : (slotsF k i a).Pairwise (fun s t => s.b < t.b) := by
  induction a generalizing i with
  | nil => simp [slotsF]
  | cons d r ih =>
    simp only [slotsF]
    split
    · refine List.Pairwise.cons (fun t ht => ?_) ih
      have := (slotsF_mem ht).1
      show (i : Int) < t.b
      omega
    · exact ih

theorem newF_fine (s : Nat → Int) (r : List (List Op5)) (k : Nat) : Fine (newF s r k) := by
  have hp : (newF s r k).Pairwise (fun s t => s.b < t.b) := List.Pairwise.cons (fun t ht => by have := (slotsF_mem ht).1; show (-1 : Int) < t.b; omega) slotsF_rise
  have hm : ∀ t ∈ newF s r k, -1 ≤ t.b ∧ (t.op = true → 0 ≤ t.b ∧ t.vo = false) := fun t ht => by
    rcases List.mem_cons.1 ht with rfl | ht
    · exact ⟨by simp, by simp⟩
    · obtain ⟨h1, h2, h3⟩ := slotsF_mem ht
      exact ⟨by omega, fun _ => ⟨by omega, h3⟩⟩
  refine ⟨fun i j hij hj => ?_, fun i hi => ?_, fun i hi ho => ?_⟩
  · rw [slotAt_get hj, slotAt_get (Nat.lt_trans hij hj)]
    exact List.pairwise_iff_getElem.1 hp i j _ _ hij
  · rw [slotAt_get hi]; exact (hm _ (List.getElem_mem _)).1
  · rw [slotAt_get hi] at ho ⊢; exact (hm _ (List.getElem_mem _)).2 ho
/-- The same, whatever number of a key is asked for. -/
def settleT (T : Nat → List Slot4) (k : Int) (x : Slot4) : Nat → List Slot4 := if 0 ≤ k ∧ k < 10 then putT T k.toNat (settleF (T k.toNat) x) else T
def toldT (T : Nat → List Slot4) (k b : Int) : Bool := if 0 ≤ k ∧ k < 10 then toldF (T k.toNat) b else false
def beforeT (T : Nat → List Slot4) (k b : Int) : Int × Int := if 0 ≤ k ∧ k < 10 then beforeF (T k.toNat) b else (0, -1)

def FineT (T : Nat → List Slot4) : Prop := ∀ k, k < 10 → Fine (T k)
theorem FineT.settle {T : Nat → List Slot4} (h : FineT T) (k : Int) {x : Slot4} (hx : x.op = false) : FineT (settleT T k x) := by
  unfold settleT
  split
  · intro j hj
    unfold putT
    split
    · rename_i e; exact (h _ (by omega)).settle hx
    · exact h j hj
  · exact h
theorem FineT.stays {T : Nat → List Slot4} (h : FineT T) (k' : Int) {x : Slot4} (hx : x.op = false) {k b : Int} (hk : (beforeT T k b).2 = -1) : beforeT (settleT T k' x) k b = beforeT T k b := by
  unfold beforeT at hk ⊢
  by_cases hkk : 0 ≤ k ∧ k < 10
  · rw [if_pos hkk] at hk
    rw [if_pos hkk, if_pos hkk]
    unfold settleT
    split
    · unfold putT
      split
      · rename_i e
        rw [← e]
        exact before_stays (h _ (by omega)) hx b hk
      · rfl
    · rfl
  · rw [if_neg hkk, if_neg hkk]
theorem FineT.again {T : Nat → List Slot4} (h : FineT T) (k : Int) {x : Slot4} (hx : x.op = false) : toldT (settleT T k x) k x.b = false := by
  unfold toldT settleT
  by_cases hkk : 0 ≤ k ∧ k < 10
  · rw [if_pos hkk, if_pos hkk]
    unfold putT
    rw [if_pos rfl]
    exact settle_told (h _ (by omega)) hx
  · rw [if_neg hkk]
theorem settleT_none {T : Nat → List Slot4} {k : Int} {x : Slot4} (h : toldT T k x.b = false) : settleT T k x = T := by
  unfold toldT at h
  unfold settleT
  split
  · rename_i hk
    rw [if_pos hk] at h
    funext j
    unfold putT
    split
    · rename_i e; rw [settle_none h, e]
    · rfl
  · rfl
theorem FineT.who {T : Nat → List Slot4} (h : FineT T) (k b : Int) : (beforeT T k b).2 = -1 ∨ (0 ≤ (beforeT T k b).2 ∧ (beforeT T k b).2 < b) := by
  unfold beforeT
  split
  · exact before_who (h _ (by omega)) b
  · exact .inl rfl

end Go.Proofs.YtehkjbpgibdgpadGreatDoor
namespace Go.Proofs.YtehkjbpgibdgpadGreatDoor

/-- What deed i came to, of the deeds one behind the other. -/
def outAt (s : Nat → Int) (r : List (List Op5)) (i : Nat) : Out := (allOut s r)[i]?.getD ⟨s, 0, fun _ => 0⟩

/-- What a deed makes of a key, in the end. -/
def endSlot (s : Nat → Int) (r : List (List Op5)) (i k : Nat) : Slot4 :=
  if (outAt s r i).code = 0 then ⟨(i : Int), false, false, (outAt s r i).st k⟩ else ⟨(i : Int), false, true, 0⟩

/-- The slot of deed i, filled or not. -/
def slotF (s : Nat → Int) (r : List (List Op5)) (F : Nat → Nat → Bool) (k i : Nat) : Slot4 := if F i k then endSlot s r i k else ⟨(i : Int), true, false, 0⟩

/-- Those that have a slot of a key. -/
def storers (r : List (List Op5)) (k : Nat) : List Nat := (List.range r.length).filter fun i => storesF (r[i]?.getD []) k
def fillF (s : Nat → Int) (r : List (List Op5)) (F : Nat → Nat → Bool) : Nat → List Slot4 := fun k => ⟨-1, false, false, s k⟩ :: (storers r k).map (slotF s r F k)

theorem slotsF_storers (k : Nat) (r : List (List Op5)) : slotsF k 0 r = (storers r k).map fun i => ⟨(i : Int), true, false, 0⟩ := by
  have key : ∀ m, m ≤ r.length → slotsF k 0 (r.take m) = ((List.range m).filter fun i => storesF (r[i]?.getD []) k).map fun i => ⟨(i : Int), true, false, 0⟩ := by
    intro m
    induction m with
    | zero => intro _; simp [slotsF]
    | succ m ih =>
      intro hm
      have hlt : m < r.length := by omega
      rw [List.take_succ_eq_append_getElem hlt, slotsF_append, ih (by omega), List.range_succ, List.filter_append, List.map_append]
      congr 1
      simp only [slotsF, Nat.zero_add, List.length_take, Nat.min_eq_left (show m ≤ r.length by omega), List.filter_cons, List.filter_nil, List.getElem?_eq_getElem hlt, Option.getD_some]
      split <;> simp
  have := key r.length (Nat.le_refl _)
  rw [List.take_length] at this
  exact this
theorem newF_fill (s : Nat → Int) (r : List (List Op5)) : newF s r = fillF s r (fun _ _ => false) := by
  funext k
  unfold newF fillF slotF
  rw [slotsF_storers]
  simp

theorem endSlot_b (s : Nat → Int) (r : List (List Op5)) (i k : Nat) : (endSlot s r i k).b = (i : Int) ∧ (endSlot s r i k).op = false := by
  unfold endSlot; split <;> exact ⟨rfl, rfl⟩
theorem slotF_b (s : Nat → Int) (r : List (List Op5)) (F : Nat → Nat → Bool) (k i : Nat) : (slotF s r F k i).b = (i : Int) := by
  unfold slotF; split
  · exact (endSlot_b s r i k).1
  · rfl
theorem storers_rise (r : List (List Op5)) (k : Nat) : (storers r k).Pairwise (· < ·) := List.Pairwise.filter _ List.pairwise_lt_range

theorem fillF_fine (s : Nat → Int) (r : List (List Op5)) (F : Nat → Nat → Bool) (k : Nat) : Fine (fillF s r F k) := by
  have hp : (fillF s r F k).Pairwise (fun s t => s.b < t.b) := by
    refine List.Pairwise.cons (fun t ht => ?_) ?_
    · obtain ⟨i, -, rfl⟩ := List.mem_map.1 ht
      rw [slotF_b]; show (-1 : Int) < i; omega
    · refine List.pairwise_map.2 ((storers_rise r k).imp fun h => ?_)
      rw [slotF_b, slotF_b]; omega
  have hm : ∀ t ∈ fillF s r F k, -1 ≤ t.b ∧ (t.op = true → 0 ≤ t.b ∧ t.vo = false) := fun t ht => by
    rcases List.mem_cons.1 ht with rfl | ht
    · exact ⟨by simp, by simp⟩
    · obtain ⟨i, -, rfl⟩ := List.mem_map.1 ht
      refine ⟨by rw [slotF_b]; omega, fun ho => ⟨by rw [slotF_b]; omega, ?_⟩⟩
      unfold slotF at ho ⊢
      split at ho
      · rw [(endSlot_b s r i k).2] at ho; cases ho
      · rename_i h; rw [if_neg h]
  refine ⟨fun i j hij hj => ?_, fun i hi => ?_, fun i hi ho => ?_⟩
  · rw [slotAt_get hj, slotAt_get (Nat.lt_trans hij hj)]
    exact List.pairwise_iff_getElem.1 hp i j _ _ hij
  · rw [slotAt_get hi]; exact (hm _ (List.getElem_mem _)).1
  · rw [slotAt_get hi] at ho ⊢; exact (hm _ (List.getElem_mem _)).2 ho

/-- Where each deed has one slot, to settle is to put one in its place. -/
theorem settleF_map {l : List Slot4} (hl : Fine l) (x : Slot4) : settleF l x = l.map fun t => if openP x.b t = true then x else t := by
  apply List.ext_getElem
  · rw [settleF_length, List.length_map]
  · intro j h1 h2
    rw [settleF_length] at h1
    have := settleF_at (x := x) hl j h1
    rw [slotAt_get (by rw [settleF_length]; exact h1), slotAt_get h1] at this
    rw [this, List.getElem_map]

def markF (F : Nat → Nat → Bool) (i k : Nat) : Nat → Nat → Bool := fun a b => if a = i ∧ b = k then true else F a b

/-- A slot is filled. -/
theorem settle_fill (s : Nat → Int) (r : List (List Op5)) (F : Nat → Nat → Bool) (i k : Nat) : settleF (fillF s r F k) (endSlot s r i k) = fillF s r (markF F i k) k := by
  rw [settleF_map (fillF_fine s r F k)]
  unfold fillF
  rw [List.map_cons, List.map_map]
  congr 1
  apply List.map_congr_left
  intro a _
  simp only [Function.comp]
  have hb := (endSlot_b s r i k).1
  by_cases ha : a = i
  · subst ha
    have hm : slotF s r (markF F a k) k a = endSlot s r a k := by unfold slotF markF; simp
    rw [hm]
    by_cases hf : F a k = true
    · have : slotF s r F k a = endSlot s r a k := by unfold slotF; rw [if_pos hf]
      rw [this]; split <;> rfl
    · have : slotF s r F k a = ⟨(a : Int), true, false, 0⟩ := by unfold slotF; rw [if_neg hf]
      rw [this, if_pos (by unfold openP; simp [hb])]
  · have hm : slotF s r (markF F i k) k a = slotF s r F k a := by unfold slotF markF; simp [ha]
    rw [hm, if_neg]
    unfold openP
    rw [slotF_b, hb]
    simp
    intro _; omega
theorem fill_other (s : Nat → Int) (r : List (List Op5)) (F : Nat → Nat → Bool) (i k j : Nat) (h : j ≠ k) : fillF s r (markF F i k) j = fillF s r F j := by
  unfold fillF
  congr 1
  apply List.map_congr_left
  intro a _
  unfold slotF markF
  simp [h]

/-- All is filled. -/
theorem fill_full {s : Nat → Int} {r : List (List Op5)} {F : Nat → Nat → Bool} {k : Nat} (hF : ∀ i, i < r.length → F i k = true) : fillF s r F k = ⟨-1, false, false, s k⟩ :: (storers r k).map (fun i => endSlot s r i k) := by
  unfold fillF
  congr 1
  apply List.map_congr_left
  intro a ha
  have : a < r.length := by have := (List.mem_filter.1 ha).1; simpa using this
  unfold slotF
  rw [if_pos (hF a this)]

/-- The last known slot's number, by going over all. -/
theorem last_fold (p : Slot4 → Bool) : ∀ (l : List Slot4) (z : Int), (match lastF p l with | none => z | some i => (slotAt l i).n) = l.foldl (fun acc t => if p t then t.n else acc) z
  | [], z => rfl
  | t :: l, z => by
    have ih := last_fold p l (if p t then t.n else z)
    rw [List.foldl_cons, ← ih]
    simp only [lastF]
    cases h : lastF p l with
    | none =>
      by_cases ht : p t = true
      · simp [ht, slotAt]
      · simp [ht]
    | some i => simp [slotAt]

theorem allOut_get {s : Nat → Int} {r : List (List Op5)} {i : Nat} (h : i < r.length) : outAt s r i = doF (allSt s (r.take i)) r[i] := by
  unfold outAt
  have e : r = r.take i ++ r[i] :: r.drop (i + 1) := by rw [List.getElem_cons_drop, List.take_append_drop]
  have hg : (allOut s r)[i]? = some (doF (allSt s (r.take i)) r[i]) := by
    conv => lhs; rw [e]
    rw [allOut_append, List.getElem?_append_right (by rw [allOut_length, List.length_take]; omega), allOut_length, List.length_take, Nat.min_eq_left (by omega), Nat.sub_self]
    rfl
  rw [hg]; rfl
theorem allSt_take {s : Nat → Int} {r : List (List Op5)} {i : Nat} (h : i < r.length) : allSt s (r.take (i + 1)) = (outAt s r i).st := by
  rw [allOut_get h, List.take_succ_eq_append_getElem h, allSt_append]; rfl

/-- FILLED, IT IS THE STATE. -/
theorem fill_state {s : Nat → Int} {r : List (List Op5)} {F : Nat → Nat → Bool} {k : Nat} (hk : ∀ d ∈ r, ∀ o ∈ d, o.k = 7 → 0 ≤ o.a) (hF : ∀ i, i < r.length → F i k = true) : (fillF s r F k).foldl (fun acc t => if (!t.op && !t.vo) = true then t.n else acc) 0 = allSt s r k := by
  rw [fill_full hF, List.foldl_cons]
  simp only [Bool.not_false, Bool.and_self, if_true]
  have key : ∀ m, m ≤ r.length → (((List.range m).filter fun i => storesF (r[i]?.getD []) k).map (fun i => endSlot s r i k)).foldl (fun acc t => if (!t.op && !t.vo) = true then t.n else acc) (s k) = allSt s (r.take m) k := by
    intro m
    induction m with
    | zero => intro _; simp [allSt]
    | succ m ih =>
      intro hm
      have hlt : m < r.length := by omega
      rw [List.range_succ, List.filter_append, List.map_append, List.foldl_append, ih (by omega), allSt_take hlt]
      simp only [List.filter_cons, List.filter_nil, List.getElem?_eq_getElem hlt, Option.getD_some]
      have hst := doF_stops (allSt s (r.take m)) r[m]
      rw [← allOut_get hlt] at hst
      by_cases hs : storesF r[m] k = true
      · rw [if_pos hs]
        simp only [List.map_cons, List.map_nil, List.foldl_cons, List.foldl_nil]
        unfold endSlot
        by_cases hc : (outAt s r m).code = 0
        · rw [if_pos hc]; simp
        · rw [if_neg hc]
          rcases hst with ⟨-, h⟩ | ⟨h, -⟩
          · simp [h]
          · exact absurd h hc
      · rw [if_neg hs]
        simp only [List.map_nil, List.foldl_nil]
        rcases hst with ⟨-, h⟩ | ⟨-, h⟩
        · rw [h]
        · by_cases he : (outAt s r m).st k = allSt s (r.take m) k
          · exact he.symm
          · obtain ⟨o, ho, h7, ha⟩ := h k he
            exfalso; apply hs
            unfold storesF
            rw [List.any_eq_true]
            refine ⟨o, ho, ?_⟩
            have := hk r[m] (List.getElem_mem hlt) o ho h7
            simp [h7]; omega
  have := key r.length (Nat.le_refl _)
  rw [List.take_length] at this
  exact this
end Go.Proofs.YtehkjbpgibdgpadGreatDoor
namespace Go.Proofs.YtehkjbpgibdgpadGreatDoor

/-- A worker: the place of its next operation, what it stored to each key, its registers, its code, whether it is over. -/
structure Wk where
  nx : Nat
  is : Nat → Bool
  n : Nat → Int
  regs : Nat → Int
  code : Int
  over : Bool
def wk0 : Wk := ⟨0, fun _ => false, fun _ => 0, fun _ => 0, 0, false⟩

/-- What it makes of a key, in the end. -/
def endOf (x : Wk) (b : Int) (k : Nat) : Slot4 := if x.is k then ⟨b, false, false, x.n k⟩ else ⟨b, false, true, 0⟩
def endTo (T : Nat → List Slot4) (x : Wk) (b : Int) (ks : List Nat) : Nat → List Slot4 := ks.foldl (fun T (k : Nat) => settleT T (k : Int) (endOf x b k)) T

def runW (o : Op5) (x : Wk) : Wk :=
  if o.k = 1 then ⟨x.nx + 1, x.is, x.n, putAt x.regs o.a.toNat o.n, x.code, x.over⟩
  else if o.k = 7 then ⟨x.nx + 1, fun i => if i = o.a.toNat then true else x.is i, putAt x.n o.a.toNat (x.regs o.b.toNat), x.regs, x.code, x.over⟩
  else if o.k = 9 then ⟨if x.regs o.a.toNat = 0 then x.nx + 1 + o.b.toNat else x.nx + 1, x.is, x.n, x.regs, x.code, x.over⟩
  else if o.k = 3 ∨ o.k = 4 ∨ o.k = 5 ∨ o.k = 6 then ⟨x.nx + 1, x.is, x.n, putAt x.regs o.a.toNat (arithF o.k (x.regs o.b.toNat) (x.regs o.c.toNat)), x.code, x.over⟩
  else ⟨x.nx + 1, x.is, x.n, x.regs, x.code, x.over⟩
def loadW (o : Op5) (v : Int) (x : Wk) : Wk := ⟨x.nx + 1, x.is, x.n, putAt x.regs o.a.toNat v, x.code, x.over⟩
def overW (x : Wk) (c : Int) : Wk := ⟨x.nx, x.is, x.n, x.regs, c, true⟩

/-- What a step came to: what is told, the worker, the table. -/
structure StepOut where
  what : Int
  who : Int
  x : Wk
  T : Nat → List Slot4

def stepW (T : Nat → List Slot4) (d : List Op5) (b : Int) (x : Wk) : StepOut :=
  if x.over = true then ⟨3, -1, x, T⟩
  else if h : x.nx < d.length then
    if d[x.nx].k = 8 ∧ x.regs d[x.nx].a.toNat ≠ 0 then ⟨3, -1, overW x 9, endTo T x b (keysF d)⟩
    else if d[x.nx].k = 2 then
      if x.is d[x.nx].b.toNat = true then ⟨1, -1, loadW d[x.nx] (x.n d[x.nx].b.toNat) x, T⟩
      else if 0 ≤ (beforeT T d[x.nx].b b).2 then ⟨2, (beforeT T d[x.nx].b b).2, x, T⟩
      else ⟨1, -1, loadW d[x.nx] (beforeT T d[x.nx].b b).1 x, T⟩
    else ⟨1, -1, runW d[x.nx] x, T⟩
  else ⟨3, -1, overW x 0, endTo T x b (keysF d)⟩

theorem stepW_over {T : Nat → List Slot4} {d : List Op5} {b : Int} {x : Wk} (h : x.over = true) : stepW T d b x = ⟨3, -1, x, T⟩ := by
  unfold stepW; rw [if_pos h]
theorem stepW_end {T : Nat → List Slot4} {d : List Op5} {b : Int} {x : Wk} (h : x.over = false) (h1 : ¬ x.nx < d.length) : stepW T d b x = ⟨3, -1, overW x 0, endTo T x b (keysF d)⟩ := by
  unfold stepW; rw [if_neg (by simp [h]), dif_neg h1]
theorem stepW_stop {T : Nat → List Slot4} {d : List Op5} {b : Int} {x : Wk} (h : x.over = false) (h1 : x.nx < d.length) (h8 : d[x.nx].k = 8) (h0 : x.regs d[x.nx].a.toNat ≠ 0) : stepW T d b x = ⟨3, -1, overW x 9, endTo T x b (keysF d)⟩ := by
  unfold stepW; rw [if_neg (by simp [h]), dif_pos h1, if_pos ⟨h8, h0⟩]
theorem stepW_own {T : Nat → List Slot4} {d : List Op5} {b : Int} {x : Wk} (h : x.over = false) (h1 : x.nx < d.length) (h2 : d[x.nx].k = 2) (hi : x.is d[x.nx].b.toNat = true) : stepW T d b x = ⟨1, -1, loadW d[x.nx] (x.n d[x.nx].b.toNat) x, T⟩ := by
  unfold stepW; rw [if_neg (by simp [h]), dif_pos h1, if_neg (by omega), if_pos h2, if_pos hi]
theorem stepW_waits {T : Nat → List Slot4} {d : List Op5} {b : Int} {x : Wk} (h : x.over = false) (h1 : x.nx < d.length) (h2 : d[x.nx].k = 2) (hi : x.is d[x.nx].b.toNat = false) (hw : 0 ≤ (beforeT T d[x.nx].b b).2) : stepW T d b x = ⟨2, (beforeT T d[x.nx].b b).2, x, T⟩ := by
  unfold stepW; rw [if_neg (by simp [h]), dif_pos h1, if_neg (by omega), if_pos h2, if_neg (by simp [hi]), if_pos hw]
theorem stepW_load {T : Nat → List Slot4} {d : List Op5} {b : Int} {x : Wk} (h : x.over = false) (h1 : x.nx < d.length) (h2 : d[x.nx].k = 2) (hi : x.is d[x.nx].b.toNat = false) (hw : ¬ 0 ≤ (beforeT T d[x.nx].b b).2) : stepW T d b x = ⟨1, -1, loadW d[x.nx] (beforeT T d[x.nx].b b).1 x, T⟩ := by
  unfold stepW; rw [if_neg (by simp [h]), dif_pos h1, if_neg (by omega), if_pos h2, if_neg (by simp [hi]), if_neg hw]
theorem stepW_run {T : Nat → List Slot4} {d : List Op5} {b : Int} {x : Wk} (h : x.over = false) (h1 : x.nx < d.length) (h8 : ¬ (d[x.nx].k = 8 ∧ x.regs d[x.nx].a.toNat ≠ 0)) (h2 : ¬ d[x.nx].k = 2) : stepW T d b x = ⟨1, -1, runW d[x.nx] x, T⟩ := by
  unfold stepW; rw [if_neg (by simp [h]), dif_pos h1, if_neg h8, if_neg h2]

/-- The places of a deed that may be done. -/
theorem placesF_ok {n : Nat} {l : List Op5} {i : Nat} {s : Bool} (h : (placesF n i s l).1 = 0) : ∀ j (hj : j < l.length), (l[j].k = 9 → 1 ≤ l[j].b ∧ l[j].b ≤ (n : Int) - 1 - (i + j : Nat)) ∧ (l[j].k = 8 → s = false ∧ ∀ m (hm : m < j), l[m].k ≠ 7) := by
  induction l generalizing i s with
  | nil => intro j hj; simp at hj
  | cons o r ih =>
    simp only [placesF] at h
    by_cases h7 : o.k = 7
    · rw [if_pos h7] at h
      intro j hj
      cases j with
      | zero => exact ⟨fun h9 => by simp at h9; omega, fun h8 => by simp at h8; omega⟩
      | succ j =>
        have := ih h j (by simpa using hj)
        refine ⟨fun h9 => ?_, fun h8 => ?_⟩
        · have := this.1 h9
          rw [List.getElem_cons_succ]
          exact ⟨this.1, by rw [show i + (j + 1) = i + 1 + j by omega]; exact this.2⟩
        · exact absurd (this.2 h8).1 (by simp)
    · rw [if_neg h7] at h
      by_cases h8 : o.k = 8 ∧ s = true
      · rw [if_pos h8] at h; exact absurd h (by simp)
      · rw [if_neg h8] at h
        by_cases h9 : o.k = 9 ∧ (o.b < 1 ∨ (n : Int) - 1 - i < o.b)
        · rw [if_pos h9] at h; exact absurd h (by simp)
        · rw [if_neg h9] at h
          intro j hj
          cases j with
          | zero =>
            refine ⟨fun e => ?_, fun e => ⟨?_, fun m hm => by omega⟩⟩
            · simp only [List.getElem_cons_zero] at e ⊢
              omega
            · simp only [List.getElem_cons_zero] at e
              cases s
              · rfl
              · exact absurd ⟨e, rfl⟩ h8
          | succ j =>
            have := ih h j (by simpa using hj)
            refine ⟨fun e => ?_, fun e => ⟨(this.2 e).1, fun m hm => ?_⟩⟩
            · have := this.1 e
              rw [List.getElem_cons_succ]
              exact ⟨this.1, by rw [show i + (j + 1) = i + 1 + j by omega]; exact this.2⟩
            · cases m with
              | zero => exact h7
              | succ m => exact (this.2 e).2 m (by omega)
theorem firstF_then {z : Int × Int} {d : List Op5} {i : Nat} (h : (firstF z i d).1 = 0) : z.1 = 0 := by
  induction d generalizing i with
  | nil => exact h
  | cons o r ih =>
    simp only [firstF] at h
    split at h
    · contradiction
    · exact ih h
theorem check_places {d : List Op5} (h : (checkF d).1 = 0) : ∀ j (hj : j < d.length), (d[j].k = 9 → 1 ≤ d[j].b ∧ (j : Int) + 1 + d[j].b ≤ d.length) ∧ (d[j].k = 8 → ∀ m (hm : m < j), d[m].k ≠ 7) := by
  unfold checkF at h
  split at h
  · exact absurd h (by simp)
  · intro j hj
    have := placesF_ok (firstF_then h) j hj
    refine ⟨fun e => ?_, fun e => (this.2 e).2⟩
    have := this.1 e
    rw [Nat.zero_add] at this
    omega
theorem check_len {d : List Op5} (h : (checkF d).1 = 0) : d.length ≤ 14 := by
  unfold checkF at h
  split at h
  · exact absurd h (by simp)
  · omega

/-- What is known of a worker of a deed. -/
structure WellW (d : List Op5) (x : Wk) : Prop where
  nx : x.nx ≤ d.length
  is : ∀ k, x.is k = true → ∃ j, ∃ h : j < d.length, j < x.nx ∧ d[j].k = 7 ∧ d[j].a = (k : Int)
theorem wk0_well (d : List Op5) : WellW d wk0 := ⟨Nat.zero_le _, fun k h => by simp [wk0] at h⟩
theorem WellW.more {d : List Op5} {x : Wk} (h : WellW d x) {y : Wk} (hi : y.is = x.is) (h1 : x.nx ≤ y.nx) (h2 : y.nx ≤ d.length) : WellW d y :=
  ⟨h2, fun k hk => by rw [hi] at hk; obtain ⟨j, hj, h3, h4⟩ := h.is k hk; exact ⟨j, hj, by omega, h4⟩⟩
theorem WellW.run {d : List Op5} {x : Wk} (h : WellW d x) (hc : (checkF d).1 = 0) (hlt : x.nx < d.length) : WellW d (runW d[x.nx] x) := by
  have hp := alone_parts (checkF_alone hc _ (List.getElem_mem hlt))
  have hpl := (check_places hc x.nx hlt).1
  unfold runW
  split
  · exact h.more rfl (by simp) (by show x.nx + 1 ≤ _; omega)
  split
  · rename_i h7
    refine ⟨by show x.nx + 1 ≤ _; omega, fun k hk => ?_⟩
    by_cases e : k = d[x.nx].a.toNat
    · exact ⟨x.nx, hlt, by simp, h7, by omega⟩
    · have : x.is k = true := by simpa [e] using hk
      obtain ⟨j, hj, h3, h4⟩ := h.is k this
      exact ⟨j, hj, by show j < x.nx + 1; omega, h4⟩
  split
  · rename_i h9
    have := hpl h9
    split
    · exact h.more rfl (by simp; omega) (by show x.nx + 1 + d[x.nx].b.toNat ≤ _; omega)
    · exact h.more rfl (by simp) (by show x.nx + 1 ≤ _; omega)
  split
  · exact h.more rfl (by simp) (by show x.nx + 1 ≤ _; omega)
  · exact h.more rfl (by simp) (by show x.nx + 1 ≤ _; omega)
theorem WellW.step {d : List Op5} {x : Wk} (h : WellW d x) (hc : (checkF d).1 = 0) (T : Nat → List Slot4) (b : Int) : WellW d (stepW T d b x).x := by
  unfold stepW
  split
  · exact h
  split
  · rename_i hlt
    split
    · exact h.more rfl (Nat.le_refl _) h.nx
    split
    · split
      · exact h.more rfl (Nat.le_succ _) hlt
      split
      · exact h
      · exact h.more rfl (Nat.le_succ _) hlt
    · exact h.run hc hlt
  · exact h.more rfl (Nat.le_refl _) h.nx
/-- One that stops itself has stored nothing. -/
theorem WellW.stop {d : List Op5} {x : Wk} (h : WellW d x) (hc : (checkF d).1 = 0) (hlt : x.nx < d.length) (h8 : d[x.nx].k = 8) (k : Nat) : x.is k = false := by
  cases e : x.is k with
  | false => rfl
  | true =>
    obtain ⟨j, hj, h1, h7, -⟩ := h.is k e
    exact absurd h7 ((check_places hc x.nx hlt).2 h8 j h1)
theorem WellW.stores {d : List Op5} {x : Wk} (h : WellW d x) {k : Nat} (hk : x.is k = true) : storesF d k = true := by
  obtain ⟨j, hj, -, h7, ha⟩ := h.is k hk
  unfold storesF
  rw [List.any_eq_true]
  exact ⟨_, List.getElem_mem hj, by simp [h7, ha]⟩

theorem settleT_at {T : Nat → List Slot4} (hT : FineT T) (q : Nat) (x : Slot4) {k : Nat} (hk : k < 10) (hq : q < 10) : (settleT T (q : Int) x k).length = (T k).length ∧ ∀ j, j < (T k).length → slotAt (settleT T (q : Int) x k) j = if k = q ∧ openP x.b (slotAt (T k) j) = true then x else slotAt (T k) j := by
  unfold settleT
  rw [if_pos ⟨by omega, by omega⟩, Int.toNat_natCast]
  unfold putT
  by_cases e : k = q
  · subst e
    rw [if_pos rfl]
    refine ⟨settleF_length _ _, fun j hj => ?_⟩
    rw [settleF_at (hT k hk) j hj]
    simp
  · rw [if_neg e]
    exact ⟨rfl, fun j hj => by rw [if_neg (fun h => e h.1)]⟩
theorem endOf_b (x : Wk) (b : Int) (k : Nat) : (endOf x b k).b = b ∧ (endOf x b k).op = false := by
  unfold endOf; split <;> exact ⟨rfl, rfl⟩
theorem endTo_fine {x : Wk} {b : Int} (ks : List Nat) {T : Nat → List Slot4} (hT : FineT T) : FineT (endTo T x b ks) := by
  induction ks generalizing T with
  | nil => exact hT
  | cons q ks ih => exact ih (hT.settle _ (endOf_b x b q).2)
theorem endTo_at {x : Wk} {b : Int} (ks : List Nat) {T : Nat → List Slot4} (hT : FineT T) (hks : ∀ q ∈ ks, q < 10) {k : Nat} (hk : k < 10) : (endTo T x b ks k).length = (T k).length ∧ ∀ j, j < (T k).length → slotAt (endTo T x b ks k) j = if k ∈ ks ∧ openP b (slotAt (T k) j) = true then endOf x b k else slotAt (T k) j := by
  induction ks generalizing T with
  | nil => exact ⟨rfl, fun j hj => by simp [endTo]⟩
  | cons q ks ih =>
    have hT' : FineT (settleT T (q : Int) (endOf x b q)) := hT.settle _ (endOf_b x b q).2
    obtain ⟨l1, s1⟩ := settleT_at hT q (endOf x b q) hk (hks q (by simp))
    obtain ⟨l2, s2⟩ := ih hT' (fun p hp => hks p (by simp [hp]))
    refine ⟨l2.trans l1, fun j hj => ?_⟩
    show slotAt (endTo (settleT T (q : Int) (endOf x b q)) x b ks k) j = _
    rw [s2 j (by rw [l1]; exact hj), s1 j hj, (endOf_b x b q).1]
    have hno : openP b (endOf x b k) = false := by unfold openP; simp [(endOf_b x b k).2]
    by_cases e : k = q
    · subst e
      by_cases ho : openP b (slotAt (T k) j) = true
      · simp [ho, hno]
      · simp [ho]
    · by_cases ho : openP b (slotAt (T k) j) = true
      · simp [ho, e]
      · simp [ho, e]

theorem mem_keysF {d : List Op5} {k : Nat} : k ∈ keysF d ↔ k < 10 ∧ storesF d k = true := by
  unfold keysF; rw [List.mem_filter]; simp

/-- What is known of all workers of a round and their table: who has an open slot is not over. -/
structure CrewOk (r : List (List Op5)) (X : Nat → Wk) (T : Nat → List Slot4) : Prop where
  fine : FineT T
  well : ∀ i (h : i < r.length), WellW r[i] (X i)
  opens : ∀ k, k < 10 → ∀ j, j < (T k).length → (slotAt (T k) j).op = true → ∃ i, ∃ h : i < r.length, (slotAt (T k) j).b = (i : Int) ∧ storesF r[i] k = true ∧ (X i).over = false
def putW (X : Nat → Wk) (i : Nat) (x : Wk) : Nat → Wk := fun q => if q = i then x else X q

theorem newF_opens (s : Nat → Int) (r : List (List Op5)) : CrewOk r (fun _ => wk0) (newF s r) := by
  refine ⟨fun k _ => newF_fine s r k, fun i h => wk0_well _, fun k hk j hj ho => ?_⟩
  rw [newF_fill] at hj ho ⊢
  unfold fillF at hj ho ⊢
  cases j with
  | zero => simp [slotAt] at ho
  | succ j =>
    have hj' : j < (storers r k).length := by simpa using hj
    have e : slotAt (⟨-1, false, false, s k⟩ :: (storers r k).map (slotF s r (fun _ _ => false) k)) (j + 1) = ⟨((storers r k)[j] : Int), true, false, 0⟩ := by
      simp [slotAt, hj', slotF]
    rw [e]
    have hm := List.mem_filter.1 (List.getElem_mem hj' : (storers r k)[j] ∈ storers r k)
    have hlt : (storers r k)[j] < r.length := by simpa using hm.1
    refine ⟨_, hlt, rfl, ?_, rfl⟩
    have := hm.2
    rw [List.getElem?_eq_getElem hlt] at this
    simpa using this

theorem CrewOk.same {r : List (List Op5)} {X : Nat → Wk} {T : Nat → List Slot4} (h : CrewOk r X T) {i : Nat} (hi : i < r.length) {y : Wk} (hw : WellW r[i] y) (ho : y.over = (X i).over) : CrewOk r (putW X i y) T := by
  refine ⟨h.fine, fun q hq => ?_, fun k hk j hj hop => ?_⟩
  · unfold putW
    split
    · rename_i e; subst e; exact hw
    · exact h.well q hq
  · obtain ⟨q, hq, h1, h2, h3⟩ := h.opens k hk j hj hop
    refine ⟨q, hq, h1, h2, ?_⟩
    unfold putW
    split
    · rename_i e; subst e; rw [ho]; exact h3
    · exact h3
theorem CrewOk.done {r : List (List Op5)} {X : Nat → Wk} {T : Nat → List Slot4} (h : CrewOk r X T) {i : Nat} (hi : i < r.length) {x y : Wk} (hw : WellW r[i] y) : CrewOk r (putW X i y) (endTo T x (i : Int) (keysF r[i])) := by
  have hks : ∀ q ∈ keysF r[i], q < 10 := fun q hq => (mem_keysF.1 hq).1
  refine ⟨endTo_fine _ h.fine, fun q hq => ?_, fun k hk j hj hop => ?_⟩
  · unfold putW
    split
    · rename_i e; subst e; exact hw
    · exact h.well q hq
  · obtain ⟨hl, hs⟩ := endTo_at (x := x) (b := (i : Int)) (keysF r[i]) h.fine hks hk
    rw [hl] at hj
    have hsj := hs j hj
    split at hsj
    · rw [hsj, (endOf_b x (i : Int) k).2] at hop; cases hop
    · rename_i hn
      rw [hsj] at hop ⊢
      obtain ⟨q, hq, h1, h2, h3⟩ := h.opens k hk j hj hop
      have hqi : q ≠ i := fun e => by
        subst e
        exact hn ⟨mem_keysF.2 ⟨hk, h2⟩, by unfold openP; simp [hop, h1]⟩
      refine ⟨q, hq, h1, h2, ?_⟩
      unfold putW
      rw [if_neg hqi]; exact h3
theorem CrewOk.step {r : List (List Op5)} {X : Nat → Wk} {T : Nat → List Slot4} (h : CrewOk r X T) {i : Nat} (hi : i < r.length) (hc : (checkF r[i]).1 = 0) : CrewOk r (putW X i (stepW T r[i] (i : Int) (X i)).x) (stepW T r[i] (i : Int) (X i)).T := by
  have hw := (h.well i hi).step hc T (i : Int)
  generalize ho : stepW T r[i] (i : Int) (X i) = o at hw ⊢
  unfold stepW at ho
  split at ho
  · subst ho; exact h.same hi hw rfl
  split at ho
  · split at ho
    · subst ho; exact h.done hi hw
    split at ho
    · split at ho
      · subst ho; exact h.same hi hw rfl
      split at ho
      · subst ho; exact h.same hi hw rfl
      · subst ho; exact h.same hi hw rfl
    · subst ho
      refine h.same hi hw ?_
      unfold runW
      repeat' split
      all_goals rfl
  · subst ho; exact h.done hi hw

/-- Who is waited for has an open slot. -/
theorem before_open {l : List Slot4} {b : Int} (h : 0 ≤ (beforeF l b).2) : ∃ j, j < l.length ∧ (slotAt l j).op = true ∧ (slotAt l j).b = (beforeF l b).2 := by
  unfold beforeF at h ⊢
  cases e : lastF (aheadP b) l with
  | none => rw [e] at h; exact absurd h (by simp)
  | some i =>
    rw [e] at h
    obtain ⟨h1, -, -⟩ := lastF_some.1 e
    dsimp only at h ⊢
    split at h
    · rename_i ho; rw [if_pos ho]; exact ⟨i, h1, ho, rfl⟩
    · exact absurd h (by simp)
/-- IT WAITS FOR THOSE AHEAD ALONE. -/
theorem CrewOk.waits {r : List (List Op5)} {X : Nat → Wk} {T : Nat → List Slot4} (h : CrewOk r X T) {i : Nat} (hi : i < r.length) :
    ((stepW T r[i] (i : Int) (X i)).what ≠ 2 ∧ (stepW T r[i] (i : Int) (X i)).who = -1) ∨ ((stepW T r[i] (i : Int) (X i)).what = 2 ∧ ∃ q : Nat, q < i ∧ (stepW T r[i] (i : Int) (X i)).who = (q : Int) ∧ (X q).over = false ∧ (putW X i (stepW T r[i] (i : Int) (X i)).x q).over = false) := by
  unfold stepW
  split
  · exact .inl ⟨by simp, rfl⟩
  split
  · split
    · exact .inl ⟨by simp, rfl⟩
    split
    · split
      · exact .inl ⟨by simp, rfl⟩
      split
      · rename_i hw
        refine .inr ⟨rfl, ?_⟩
        have hwho := h.fine.who r[i][(X i).nx].b (i : Int)
        unfold beforeT at hw hwho ⊢
        split at hw
        · rename_i hk
          rw [if_pos hk] at hwho
          rw [if_pos hk]
          obtain ⟨j, hj, ho, hb⟩ := before_open hw
          obtain ⟨q, hq, h1, -, h3⟩ := h.opens _ (by omega) j hj ho
          have hqi : q < i := by
            rcases hwho with e | ⟨-, e⟩
            · omega
            · omega
          refine ⟨q, hqi, by rw [← hb]; exact h1, h3, ?_⟩
          unfold putW
          rw [if_neg (by omega)]; exact h3
        · exact absurd hw (by simp)
      · exact .inl ⟨by simp, rfl⟩
    · exact .inl ⟨by simp, rfl⟩
  · exact .inl ⟨by simp, rfl⟩
end Go.Proofs.YtehkjbpgibdgpadGreatDoor
namespace Go.Proofs.YtehkjbpgibdgpadGreatDoor

/-- The state as a worker sees it: what it stored itself, on the state ahead. -/
def ovl (s : Nat → Int) (x : Wk) : Nat → Int := fun k => if x.is k then x.n k else s k
def asRun (s : Nat → Int) (x : Wk) : Run := ⟨x.regs, ovl s x, x.nx⟩
theorem asRun_wk0 (s : Nat → Int) : asRun s wk0 = ⟨fun _ => 0, s, 0⟩ := rfl

theorem newF_one (s : Nat → Int) (d : List Op5) (k : Nat) : newF s [d] k = ⟨-1, false, false, s k⟩ :: (if storesF d k then [⟨0, true, false, 0⟩] else []) := by
  simp only [newF, slotsF]
  split <;> rfl
theorem before_alone (s : Nat → Int) (d : List Op5) {k : Int} (hk : 0 ≤ k ∧ k < 10) : beforeT (newF s [d]) k 0 = (s k.toNat, -1) := by
  unfold beforeT
  rw [if_pos hk, newF_one]
  by_cases h : storesF d k.toNat = true
  · rw [if_pos h]; rfl
  · rw [if_neg h]; rfl

theorem stepF_one {o : Op5} {r : Run} (h : o.k = 1) : stepF o r = ⟨putAt r.regs o.a.toNat o.n, r.st, r.next + 1⟩ := by unfold stepF; rw [if_pos h]
theorem alone_step {s : Nat → Int} {d : List Op5} {x : Wk} (ho : x.over = false) (hc : (checkF d).1 = 0) (hlt : x.nx < d.length) (h8 : ¬ (d[x.nx].k = 8 ∧ x.regs d[x.nx].a.toNat ≠ 0)) :
    ∃ y, stepW (newF s [d]) d 0 x = ⟨1, -1, y, newF s [d]⟩ ∧ y.over = false ∧ asRun s y = stepF d[x.nx] (asRun s x) ∧ x.nx < y.nx := by
  have hp := alone_parts (checkF_alone hc _ (List.getElem_mem hlt))
  by_cases h2 : d[x.nx].k = 2
  · have hst : stepF d[x.nx] (asRun s x) = ⟨putAt x.regs d[x.nx].a.toNat (ovl s x d[x.nx].b.toNat), ovl s x, x.nx + 1⟩ := by
      unfold stepF asRun; rw [if_neg (by omega), if_pos h2]
    cases hi : x.is d[x.nx].b.toNat with
    | true =>
      refine ⟨_, stepW_own ho hlt h2 hi, ho, ?_, Nat.lt_succ_self _⟩
      rw [hst]
      have : ovl s x d[x.nx].b.toNat = x.n d[x.nx].b.toNat := by unfold ovl; rw [if_pos hi]
      rw [this]; rfl
    | false =>
      have hb := before_alone s d (k := d[x.nx].b) (by omega)
      refine ⟨_, stepW_load ho hlt h2 hi (by rw [hb]; simp), ho, ?_, Nat.lt_succ_self _⟩
      rw [hst, hb]
      have : ovl s x d[x.nx].b.toNat = s d[x.nx].b.toNat := by unfold ovl; rw [if_neg (by simp [hi])]
      rw [this]; rfl
  · refine ⟨_, stepW_run ho hlt h8 h2, ?_, ?_, ?_⟩
    · unfold runW
      repeat' split
      all_goals exact ho
    · unfold runW stepF asRun
      by_cases k1 : d[x.nx].k = 1
      · rw [if_pos k1, if_pos k1]; rfl
      rw [if_neg k1, if_neg k1, if_neg h2]
      by_cases k7 : d[x.nx].k = 7
      · rw [if_pos k7, if_pos k7]
        have : (fun k => if (fun i => if i = d[x.nx].a.toNat then true else x.is i) k = true then putAt x.n d[x.nx].a.toNat (x.regs d[x.nx].b.toNat) k else s k) = putAt (ovl s x) d[x.nx].a.toNat (x.regs d[x.nx].b.toNat) := by
          funext k
          unfold putAt ovl
          by_cases e : k = d[x.nx].a.toNat
          · simp [e]
          · simp [e]
        unfold ovl
        unfold ovl at this
        dsimp only at this ⊢
        rw [this]
      rw [if_neg k7, if_neg k7]
      by_cases k9 : d[x.nx].k = 9
      · rw [if_pos k9, if_pos k9]; rfl
      rw [if_neg k9, if_neg k9]
      by_cases k3 : d[x.nx].k = 3 ∨ d[x.nx].k = 4 ∨ d[x.nx].k = 5 ∨ d[x.nx].k = 6
      · rw [if_pos k3, if_pos k3]; rfl
      · rw [if_neg k3, if_neg k3]; rfl
    · unfold runW
      repeat' split
      all_goals (dsimp only; try split)
      all_goals omega

/-- The table of a round of one deed that is over. -/
theorem alone_table {s : Nat → Int} {d : List Op5} (x : Wk) {k : Nat} (hk : k < 10) : endTo (newF s [d]) x 0 (keysF d) k = ⟨-1, false, false, s k⟩ :: (if storesF d k then [endOf x 0 k] else []) := by
  have hks : ∀ q ∈ keysF d, q < 10 := fun q hq => (mem_keysF.1 hq).1
  obtain ⟨hl, hs⟩ := endTo_at (x := x) (b := 0) (keysF d) (T := newF s [d]) (fun q _ => newF_fine s [d] q) hks hk
  have h1 := newF_one s d k
  rw [h1] at hl hs
  generalize endTo (newF s [d]) x 0 (keysF d) k = L at hl hs
  by_cases h : storesF d k = true
  · rw [if_pos h] at hl hs ⊢
    simp only [List.length_cons, List.length_nil] at hl
    have s0 := hs 0 (by simp)
    have s1 := hs 1 (by simp)
    rw [slotAt_get (by omega)] at s0 s1
    rw [if_neg (by simp [slotAt, openP])] at s0
    rw [if_pos ⟨mem_keysF.2 ⟨hk, h⟩, by simp [slotAt, openP]⟩] at s1
    match L, hl with
    | [a, b], _ =>
      simp only [List.getElem_cons_zero, List.getElem_cons_succ] at s0 s1
      rw [s0, s1]; rfl
  · rw [if_neg h] at hl hs ⊢
    simp only [List.length_cons, List.length_nil] at hl
    have s0 := hs 0 (by simp)
    rw [slotAt_get (by omega)] at s0
    rw [if_neg (by simp [slotAt, openP])] at s0
    match L, hl with
    | [a], _ =>
      simp only [List.getElem_cons_zero] at s0
      rw [s0]; rfl

theorem alone_cases {s : Nat → Int} {d : List Op5} {x : Wk} (ho : x.over = false) (hc : (checkF d).1 = 0) (hw : WellW d x) (hr : runF s d (asRun s x) = doF s d) :
    (∃ c, stepW (newF s [d]) d 0 x = ⟨3, -1, overW x c, endTo (newF s [d]) x 0 (keysF d)⟩ ∧ doF s d = ⟨ovl s x, c, x.regs⟩) ∨
    (∃ y, stepW (newF s [d]) d 0 x = ⟨1, -1, y, newF s [d]⟩ ∧ y.over = false ∧ runF s d (asRun s y) = doF s d ∧ x.nx < y.nx ∧ WellW d y) := by
  by_cases hlt : x.nx < d.length
  · by_cases h8 : d[x.nx].k = 8 ∧ x.regs d[x.nx].a.toNat ≠ 0
    · refine .inl ⟨9, stepW_stop ho hlt h8.1 h8.2, ?_⟩
      rw [← hr, runF_stop (r := asRun s x) hlt h8.1 h8.2]
      have : ovl s x = s := by
        funext k
        unfold ovl
        rw [if_neg (by simp [hw.stop hc hlt h8.1 k])]
      rw [this]; rfl
    · obtain ⟨y, h1, h2, h3, h4⟩ := alone_step (s := s) ho hc hlt h8
      refine .inr ⟨y, h1, h2, ?_, h4, ?_⟩
      · rw [h3]; exact (runF_step (r := asRun s x) hlt h8).trans hr
      · have := hw.step hc (newF s [d]) 0
        rw [h1] at this; exact this
  · refine .inl ⟨0, stepW_end ho hlt, ?_⟩
    rw [← hr, runF_end (r := asRun s x) hlt]; rfl
end Go.Proofs.YtehkjbpgibdgpadGreatDoor
namespace Go.Proofs.YtehkjbpgibdgpadGreatDoor

/-- The slot of deed i, by what its worker is. -/
def slW (X : Nat → Wk) (k i : Nat) : Slot4 := if (X i).over then endOf (X i) (i : Int) k else ⟨(i : Int), true, false, 0⟩
/-- The slots of a key, of the first m deeds. -/
def slotsW (s : Nat → Int) (r : List (List Op5)) (X : Nat → Wk) (k m : Nat) : List Slot4 := ⟨-1, false, false, s k⟩ :: ((List.range m).filter fun i => storesF (r[i]?.getD []) k).map (slW X k)
def tabF (s : Nat → Int) (r : List (List Op5)) (X : Nat → Wk) : Nat → List Slot4 := fun k => slotsW s r X k r.length

theorem newF_tabF (s : Nat → Int) (r : List (List Op5)) : newF s r = tabF s r (fun _ => wk0) := by
  funext k
  unfold newF tabF slotsW
  rw [slotsF_storers]
  rfl
theorem slW_b (X : Nat → Wk) (k i : Nat) : (slW X k i).b = (i : Int) := by
  unfold slW
  split
  · exact (endOf_b _ _ _).1
  · rfl

theorem tabF_done {s : Nat → Int} {r : List (List Op5)} {X : Nat → Wk} {T : Nat → List Slot4} {i k : Nat} {c : Int} (hT : FineT T) (hk : k < 10) (hTk : T k = tabF s r X k) (hi : i < r.length) (hX : (X i).over = false) :
    endTo T (X i) (i : Int) (keysF r[i]) k = tabF s r (putW X i (overW (X i) c)) k := by
  have hks : ∀ q ∈ keysF r[i], q < 10 := fun q hq => (mem_keysF.1 hq).1
  obtain ⟨hl, hs⟩ := endTo_at (x := X i) (b := (i : Int)) (keysF r[i]) hT hks hk
  rw [hTk] at hl hs
  have hlen : (tabF s r (putW X i (overW (X i) c)) k).length = (tabF s r X k).length := by simp [tabF, slotsW]
  apply List.ext_getElem
  · rw [hl, hlen]
  · intro j h1 h2
    have hj : j < (tabF s r X k).length := by rw [← hl]; exact h1
    have := hs j hj
    rw [slotAt_get h1, slotAt_get hj] at this
    rw [this]
    cases j with
    | zero => simp [tabF, slotsW, openP]
    | succ j =>
      have hj' : j < (storers r k).length := by simpa [tabF, slotsW, storers] using hj
      have e1 : (tabF s r X k)[j + 1] = slW X k (storers r k)[j] := by simp [tabF, slotsW, storers]
      have e2 : (tabF s r (putW X i (overW (X i) c)) k)[j + 1] = slW (putW X i (overW (X i) c)) k (storers r k)[j] := by simp [tabF, slotsW, storers]
      rw [e1, e2]
      have hm := List.mem_filter.1 (List.getElem_mem hj' : (storers r k)[j] ∈ storers r k)
      generalize (storers r k)[j] = a at hm
      by_cases ha : a = i
      · subst ha
        have hst : storesF r[a] k = true := by
          have := hm.2
          rw [List.getElem?_eq_getElem hi] at this
          simpa using this
        have hsl : slW X k a = ⟨(a : Int), true, false, 0⟩ := by unfold slW; rw [if_neg (by simp [hX])]
        rw [if_pos ⟨mem_keysF.2 ⟨hk, hst⟩, by rw [hsl]; simp [openP]⟩]
        unfold slW putW
        rw [if_pos rfl]
        rfl
      · rw [if_neg (fun h => ha (by have := h.2; unfold openP at this; rw [slW_b] at this; simp at this; omega))]
        unfold slW putW
        rw [if_neg ha]
theorem tabF_same {s : Nat → Int} {r : List (List Op5)} {X : Nat → Wk} {i : Nat} {y : Wk} (hX : (X i).over = false) (hy : y.over = false) (k : Nat) : tabF s r (putW X i y) k = tabF s r X k := by
  unfold tabF slotsW
  congr 1
  apply List.map_congr_left
  intro a _
  unfold slW putW
  by_cases e : a = i
  · subst e; rw [if_pos rfl]; simp [hX, hy]
  · rw [if_neg e]
theorem putW_own (X : Nat → Wk) (i : Nat) : putW X i (X i) = X := by
  funext q; unfold putW; split
  · rename_i e; rw [e]
  · rfl

theorem lastF_snoc (p : Slot4 → Bool) (l : List Slot4) (t : Slot4) : lastF p (l ++ [t]) = if p t then some l.length else lastF p l := by
  induction l with
  | nil => simp [lastF]
  | cons a l ih =>
    simp only [List.cons_append, lastF, ih, List.length_cons]
    by_cases hp : p t = true
    · simp [hp]
    · simp [hp]
theorem lastF_front (p : Slot4 → Bool) (l m : List Slot4) (hm : ∀ t ∈ m, p t = false) : lastF p (l ++ m) = lastF p l := by
  induction l with
  | nil => rw [List.nil_append, lastF_none.2 hm]; rfl
  | cons a l ih => simp only [List.cons_append, lastF, ih]
theorem lastF_congr {p q : Slot4 → Bool} {l : List Slot4} (h : ∀ t ∈ l, p t = q t) : lastF p l = lastF q l := by
  induction l with
  | nil => rfl
  | cons a l ih =>
    simp only [lastF]
    rw [ih (fun t ht => h t (by simp [ht])), h a (by simp)]
theorem slotAt_front {l m : List Slot4} {i : Nat} (h : i < l.length) : slotAt (l ++ m) i = slotAt l i := by
  unfold slotAt; rw [List.getElem?_append_left h]

/-- What the last slot that is not void has. -/
def seenF (l : List Slot4) (o : Option Nat) : Int × Int :=
  match o with
  | none => (0, -1)
  | some i => if (slotAt l i).op then (0, (slotAt l i).b) else ((slotAt l i).n, -1)
def backF (l : List Slot4) : Int × Int := seenF l (lastF (fun t => !t.vo) l)
theorem backF_snoc (l : List Slot4) (t : Slot4) : backF (l ++ [t]) = if t.vo then backF l else if t.op then (0, t.b) else (t.n, -1) := by
  unfold backF
  rw [lastF_snoc]
  cases hv : t.vo with
  | true =>
    simp only [Bool.not_true, Bool.false_eq_true, if_false, if_true]
    cases h : lastF (fun t => !t.vo) l with
    | none => rfl
    | some i => unfold seenF; dsimp only; rw [slotAt_front (lastF_some.1 h).1]
  | false =>
    simp only [Bool.not_false, if_true, Bool.false_eq_true, if_false]
    unfold seenF
    have : slotAt (l ++ [t]) l.length = t := by simp [slotAt]
    dsimp only
    rw [this]

theorem slotsW_low (s : Nat → Int) (r : List (List Op5)) (X : Nat → Wk) (k m : Nat) : ∀ t ∈ slotsW s r X k m, t.b < (m : Int) := by
  intro t ht
  rcases List.mem_cons.1 ht with rfl | ht
  · show (-1 : Int) < m; omega
  · obtain ⟨a, ha, rfl⟩ := List.mem_map.1 ht
    have := (List.mem_filter.1 ha).1
    rw [slW_b]
    have : a < m := by simpa using this
    omega
theorem slotsW_split (s : Nat → Int) (r : List (List Op5)) (X : Nat → Wk) (k m c : Nat) : ∃ rest, slotsW s r X k (m + c) = slotsW s r X k m ++ rest ∧ ∀ t ∈ rest, (m : Int) ≤ t.b := by
  refine ⟨(((List.range c).map (m + ·)).filter fun i => storesF (r[i]?.getD []) k).map (slW X k), ?_, fun t ht => ?_⟩
  · unfold slotsW
    rw [List.range_add, List.filter_append, List.map_append, List.cons_append]
  · obtain ⟨a, ha, rfl⟩ := List.mem_map.1 ht
    obtain ⟨q, -, rfl⟩ := List.mem_map.1 (List.mem_filter.1 ha).1
    rw [slW_b]; omega
theorem before_back (s : Nat → Int) (r : List (List Op5)) (X : Nat → Wk) (k : Nat) {m : Nat} (hm : m ≤ r.length) : beforeF (tabF s r X k) (m : Int) = backF (slotsW s r X k m) := by
  obtain ⟨c, hc⟩ : ∃ c, r.length = m + c := ⟨r.length - m, by omega⟩
  obtain ⟨rest, he, hr⟩ := slotsW_split s r X k m c
  unfold tabF
  rw [hc, he]
  unfold beforeF backF
  rw [lastF_front _ _ _ (fun t ht => by have := hr t ht; unfold aheadP; simp; intro h; omega)]
  rw [lastF_congr (q := fun t => !t.vo) (fun t ht => by have := slotsW_low s r X k m t ht; unfold aheadP; simp [this])]
  unfold seenF
  cases h : lastF (fun t => !t.vo) (slotsW s r X k m) with
  | none => rfl
  | some i =>
    dsimp only
    rw [slotAt_front (lastF_some.1 h).1]

/-- What is known of a round under way: each deed that is not over goes on to what it comes to, and each that is over came to it. -/
structure InOrder (s : Nat → Int) (r : List (List Op5)) (X : Nat → Wk) (T : Nat → List Slot4) : Prop where
  ok : CrewOk r X T
  tab : ∀ k, k < 10 → T k = tabF s r X k
  runs : ∀ i (h : i < r.length), (X i).over = false → runF (allSt s (r.take i)) r[i] (asRun (allSt s (r.take i)) (X i)) = outAt s r i
  ends : ∀ i, i < r.length → (X i).over = true → outAt s r i = ⟨ovl (allSt s (r.take i)) (X i), (X i).code, (X i).regs⟩

theorem inOrder_new (s : Nat → Int) (r : List (List Op5)) : InOrder s r (fun _ => wk0) (newF s r) :=
  ⟨newF_opens s r, fun k _ => by rw [newF_tabF], fun i h _ => by rw [asRun_wk0, allOut_get h]; rfl, fun i _ h => by simp [wk0] at h⟩

theorem allSt_next {s : Nat → Int} {r : List (List Op5)} (hck : ∀ d ∈ r, (checkF d).1 = 0) {m : Nat} (hm : m < r.length) {k : Nat} (hs : storesF r[m] k = false) : allSt s (r.take (m + 1)) k = allSt s (r.take m) k := by
  rw [allSt_take hm]
  have hst := doF_stops (allSt s (r.take m)) r[m]
  rw [← allOut_get hm] at hst
  rcases hst with ⟨-, h⟩ | ⟨-, h⟩
  · rw [h]
  · by_cases he : (outAt s r m).st k = allSt s (r.take m) k
    · exact he
    · obtain ⟨o, ho, h7, ha⟩ := h k he
      exfalso
      have hp := alone_parts (checkF_alone (hck r[m] (List.getElem_mem hm)) o ho)
      have : storesF r[m] k = true := by
        unfold storesF
        rw [List.any_eq_true]
        exact ⟨o, ho, by simp [h7]; omega⟩
      rw [hs] at this; cases this

/-- What is known is what the deeds ahead made. -/
theorem back_value {s : Nat → Int} {r : List (List Op5)} {X : Nat → Wk} (hck : ∀ d ∈ r, (checkF d).1 = 0) (he : ∀ i, i < r.length → (X i).over = true → outAt s r i = ⟨ovl (allSt s (r.take i)) (X i), (X i).code, (X i).regs⟩) (k : Nat) :
    ∀ m, m ≤ r.length → ¬ 0 ≤ (backF (slotsW s r X k m)).2 → (backF (slotsW s r X k m)).1 = allSt s (r.take m) k := by
  intro m
  induction m with
  | zero => intro _ _; simp [slotsW, backF, lastF, seenF, slotAt, allSt]
  | succ m ih =>
    intro hm
    have hlt : m < r.length := by omega
    have hsp : slotsW s r X k (m + 1) = slotsW s r X k m ++ (if storesF r[m] k then [slW X k m] else []) := by
      unfold slotsW
      rw [List.range_succ, List.filter_append, List.map_append, List.cons_append]
      congr 2
      simp only [List.filter_cons, List.filter_nil, List.getElem?_eq_getElem hlt, Option.getD_some]
      split <;> simp
    rw [hsp]
    by_cases hs : storesF r[m] k = true
    · rw [if_pos hs, backF_snoc]
      cases ho : (X m).over with
      | false =>
        have : slW X k m = ⟨(m : Int), true, false, 0⟩ := by unfold slW; rw [if_neg (by simp [ho])]
        rw [this]
        simp
      | true =>
        have : slW X k m = endOf (X m) (m : Int) k := by unfold slW; rw [if_pos ho]
        rw [this, allSt_take hlt, he m hlt ho]
        unfold endOf
        cases hi : (X m).is k with
        | true => simp [ovl, hi]
        | false =>
          simp only [Bool.false_eq_true, if_false, if_true]
          intro h
          rw [ih (by omega) h]
          simp [ovl, hi]
    · rw [if_neg hs, List.append_nil]
      intro h
      rw [ih (by omega) h, allSt_next hck hlt (by simpa using hs)]

/-- A step that neither ends nor stops. -/
theorem step_goes {T : Nat → List Slot4} {d : List Op5} {b : Int} {t : Nat → Int} {x : Wk} (ho : x.over = false) (hc : (checkF d).1 = 0) (hlt : x.nx < d.length) (h8 : ¬ (d[x.nx].k = 8 ∧ x.regs d[x.nx].a.toNat ≠ 0))
    (hb : d[x.nx].k = 2 → ¬ 0 ≤ (beforeT T d[x.nx].b b).2 → (beforeT T d[x.nx].b b).1 = t d[x.nx].b.toNat) :
    stepW T d b x = ⟨2, (beforeT T d[x.nx].b b).2, x, T⟩ ∨ ∃ y, stepW T d b x = ⟨1, -1, y, T⟩ ∧ y.over = false ∧ asRun t y = stepF d[x.nx] (asRun t x) ∧ x.nx < y.nx := by
  have hp := alone_parts (checkF_alone hc _ (List.getElem_mem hlt))
  by_cases h2 : d[x.nx].k = 2
  · have hst : stepF d[x.nx] (asRun t x) = ⟨putAt x.regs d[x.nx].a.toNat (ovl t x d[x.nx].b.toNat), ovl t x, x.nx + 1⟩ := by
      unfold stepF asRun; rw [if_neg (by omega), if_pos h2]
    cases hi : x.is d[x.nx].b.toNat with
    | true =>
      refine .inr ⟨_, stepW_own ho hlt h2 hi, ho, ?_, Nat.lt_succ_self _⟩
      rw [hst]
      have : ovl t x d[x.nx].b.toNat = x.n d[x.nx].b.toNat := by unfold ovl; rw [if_pos hi]
      rw [this]; rfl
    | false =>
      by_cases hw : 0 ≤ (beforeT T d[x.nx].b b).2
      · exact .inl (stepW_waits ho hlt h2 hi hw)
      · refine .inr ⟨_, stepW_load ho hlt h2 hi hw, ho, ?_, Nat.lt_succ_self _⟩
        rw [hst, hb h2 hw]
        have : ovl t x d[x.nx].b.toNat = t d[x.nx].b.toNat := by unfold ovl; rw [if_neg (by simp [hi])]
        rw [this]; rfl
  · refine .inr ⟨_, stepW_run ho hlt h8 h2, ?_, ?_, ?_⟩
    · unfold runW
      repeat' split
      all_goals exact ho
    · unfold runW stepF asRun
      by_cases k1 : d[x.nx].k = 1
      · rw [if_pos k1, if_pos k1]; rfl
      rw [if_neg k1, if_neg k1, if_neg h2]
      by_cases k7 : d[x.nx].k = 7
      · rw [if_pos k7, if_pos k7]
        have : (fun k => if (fun i => if i = d[x.nx].a.toNat then true else x.is i) k = true then putAt x.n d[x.nx].a.toNat (x.regs d[x.nx].b.toNat) k else t k) = putAt (ovl t x) d[x.nx].a.toNat (x.regs d[x.nx].b.toNat) := by
          funext k
          unfold putAt ovl
          by_cases e : k = d[x.nx].a.toNat
          · simp [e]
          · simp [e]
        unfold ovl
        unfold ovl at this
        dsimp only at this ⊢
        rw [this]
      rw [if_neg k7, if_neg k7]
      by_cases k9 : d[x.nx].k = 9
      · rw [if_pos k9, if_pos k9]; rfl
      rw [if_neg k9, if_neg k9]
      by_cases k3 : d[x.nx].k = 3 ∨ d[x.nx].k = 4 ∨ d[x.nx].k = 5 ∨ d[x.nx].k = 6
      · rw [if_pos k3, if_pos k3]; rfl
      · rw [if_neg k3, if_neg k3]; rfl
    · unfold runW
      repeat' split
      all_goals (dsimp only; try split)
      all_goals omega

/-- What a step of deed i can come to. -/
theorem InOrder.cases {s : Nat → Int} {r : List (List Op5)} {X : Nat → Wk} {T : Nat → List Slot4} (h : InOrder s r X T) (hck : ∀ d ∈ r, (checkF d).1 = 0) {i : Nat} (hi : i < r.length) :
    ((X i).over = true ∧ stepW T r[i] (i : Int) (X i) = ⟨3, -1, X i, T⟩) ∨
    ((X i).over = false ∧ ∃ c, stepW T r[i] (i : Int) (X i) = ⟨3, -1, overW (X i) c, endTo T (X i) (i : Int) (keysF r[i])⟩ ∧ outAt s r i = ⟨ovl (allSt s (r.take i)) (X i), c, (X i).regs⟩) ∨
    ((X i).over = false ∧ ∃ y, stepW T r[i] (i : Int) (X i) = ⟨1, -1, y, T⟩ ∧ y.over = false ∧ runF (allSt s (r.take i)) r[i] (asRun (allSt s (r.take i)) y) = outAt s r i ∧ (X i).nx < y.nx) ∨
    ((X i).over = false ∧ ∃ q : Nat, q < i ∧ stepW T r[i] (i : Int) (X i) = ⟨2, (q : Int), X i, T⟩ ∧ (X q).over = false) := by
  have hc := hck r[i] (List.getElem_mem hi)
  cases ho : (X i).over with
  | true => exact .inl ⟨rfl, stepW_over ho⟩
  | false =>
    right
    have hr := h.runs i hi ho
    by_cases hlt : (X i).nx < r[i].length
    · by_cases h8 : r[i][(X i).nx].k = 8 ∧ (X i).regs r[i][(X i).nx].a.toNat ≠ 0
      · refine .inl ⟨rfl, 9, stepW_stop ho hlt h8.1 h8.2, ?_⟩
        rw [← hr, runF_stop (r := asRun (allSt s (r.take i)) (X i)) hlt h8.1 h8.2]
        have : ovl (allSt s (r.take i)) (X i) = allSt s (r.take i) := by
          funext k
          unfold ovl
          rw [if_neg (by simp [(h.ok.well i hi).stop hc hlt h8.1 k])]
        rw [this]; rfl
      · right
        have hp := alone_parts (checkF_alone hc _ (List.getElem_mem hlt))
        have hb : r[i][(X i).nx].k = 2 → ¬ 0 ≤ (beforeT T r[i][(X i).nx].b (i : Int)).2 → (beforeT T r[i][(X i).nx].b (i : Int)).1 = allSt s (r.take i) r[i][(X i).nx].b.toNat := fun h2 => by
          unfold beforeT
          rw [if_pos (by omega), h.tab _ (by omega), before_back s r X _ (by omega)]
          exact back_value hck h.ends _ i (by omega)
        rcases step_goes (t := allSt s (r.take i)) ho hc hlt h8 hb with hw | ⟨y, h1, h2, h3, h4⟩
        · right
          have := h.ok.waits hi
          rw [hw] at this
          rcases this with ⟨e, -⟩ | ⟨-, q, hq, e, h3, -⟩
          · exact absurd rfl e
          · refine ⟨rfl, q, hq, ?_, h3⟩
            rw [hw]
            dsimp only at e
            rw [e]
        · refine .inl ⟨rfl, y, h1, h2, ?_, h4⟩
          rw [h3]
          exact (runF_step (r := asRun (allSt s (r.take i)) (X i)) hlt h8).trans hr
    · refine .inl ⟨rfl, 0, stepW_end ho hlt, ?_⟩
      rw [← hr, runF_end (r := asRun (allSt s (r.take i)) (X i)) hlt]; rfl

theorem InOrder.step {s : Nat → Int} {r : List (List Op5)} {X : Nat → Wk} {T : Nat → List Slot4} (h : InOrder s r X T) (hck : ∀ d ∈ r, (checkF d).1 = 0) {i : Nat} (hi : i < r.length) : InOrder s r (putW X i (stepW T r[i] (i : Int) (X i)).x) (stepW T r[i] (i : Int) (X i)).T := by
  have hok := h.ok.step hi (hck r[i] (List.getElem_mem hi))
  rcases h.cases hck hi with ⟨-, e⟩ | ⟨ho, c, e, hout⟩ | ⟨ho, y, e, hy, hr, -⟩ | ⟨-, q, -, e, -⟩
  · rw [e]; dsimp only; rw [putW_own]; exact h
  · rw [e] at hok ⊢
    dsimp only at hok ⊢
    refine ⟨hok, fun k hk => tabF_done h.ok.fine hk (h.tab k hk) hi ho, fun q hq hqo => ?_, fun q hq hqo => ?_⟩
    · by_cases e : q = i
      · subst e; simp [putW, overW] at hqo
      · have e' : putW X i (overW (X i) c) q = X q := by unfold putW; rw [if_neg e]
        rw [e'] at hqo ⊢; exact h.runs q hq hqo
    · by_cases e : q = i
      · subst e
        have e' : putW X q (overW (X q) c) q = overW (X q) c := by unfold putW; rw [if_pos rfl]
        rw [e', hout]; rfl
      · have e' : putW X i (overW (X i) c) q = X q := by unfold putW; rw [if_neg e]
        rw [e'] at hqo ⊢; exact h.ends q hq hqo
  · rw [e] at hok ⊢
    dsimp only at hok ⊢
    refine ⟨hok, fun k hk => by rw [tabF_same ho hy]; exact h.tab k hk, fun q hq hqo => ?_, fun q hq hqo => ?_⟩
    · by_cases e : q = i
      · subst e
        have e' : putW X q y q = y := by unfold putW; rw [if_pos rfl]
        rw [e']; exact hr
      · have e' : putW X i y q = X q := by unfold putW; rw [if_neg e]
        rw [e'] at hqo ⊢; exact h.runs q hq hqo
    · by_cases e : q = i
      · subst e
        have e' : putW X q y q = y := by unfold putW; rw [if_pos rfl]
        rw [e', hy] at hqo; cases hqo
      · have e' : putW X i y q = X q := by unfold putW; rw [if_neg e]
        rw [e'] at hqo ⊢; exact h.ends q hq hqo
  · rw [e]; dsimp only; rw [putW_own]; exact h

/-- How many steps are left, at most, of the first n deeds. -/
def todoW (d : List Op5) (x : Wk) : Nat := if x.over then 0 else d.length - x.nx + 1
def todoF (r : List (List Op5)) (X : Nat → Wk) : Nat → Nat
  | 0 => 0
  | n + 1 => todoF r X n + todoW (r[n]?.getD []) (X n)
def mostF (r : List (List Op5)) : Nat → Nat
  | 0 => 0
  | n + 1 => mostF r n + ((r[n]?.getD []).length + 1)
theorem todo_most (r : List (List Op5)) (X : Nat → Wk) (n : Nat) : todoF r X n ≤ mostF r n := by
  induction n with
  | zero => exact Nat.le_refl _
  | succ n ih =>
    simp only [todoF, mostF]
    have : todoW (r[n]?.getD []) (X n) ≤ (r[n]?.getD []).length + 1 := by unfold todoW; split <;> omega
    omega
theorem todo_put (r : List (List Op5)) (X : Nat → Wk) (i : Nat) (y : Wk) (n : Nat) : (n ≤ i → todoF r (putW X i y) n = todoF r X n) ∧ (i < n → todoF r (putW X i y) n + todoW (r[i]?.getD []) (X i) = todoF r X n + todoW (r[i]?.getD []) y) := by
  induction n with
  | zero => exact ⟨fun _ => rfl, fun h => by omega⟩
  | succ n ih =>
    simp only [todoF]
    refine ⟨fun h => ?_, fun h => ?_⟩
    · rw [ih.1 (by omega)]
      unfold putW; rw [if_neg (by omega)]
    · by_cases e : n = i
      · subst e
        rw [ih.1 (Nat.le_refl _)]
        have : putW X n y n = y := by unfold putW; rw [if_pos rfl]
        rw [this]; omega
      · have := ih.2 (by omega)
        have e' : putW X i y n = X n := by unfold putW; rw [if_neg e]
        rw [e']; omega
theorem todo_over {r : List (List Op5)} {X : Nat → Wk} {n : Nat} (h : todoF r X n = 0) : ∀ i, i < n → (X i).over = true := by
  induction n with
  | zero => intro i hi; omega
  | succ n ih =>
    simp only [todoF] at h
    intro i hi
    by_cases e : i = n
    · subst e
      have : todoW (r[i]?.getD []) (X i) = 0 := by omega
      unfold todoW at this
      split at this
      · assumption
      · omega
    · exact ih (by omega) i (by omega)

/-- SOME ONE CAN ALWAYS GO ON: one all ahead of which are over does not wait, and comes nearer to its end. -/
theorem InOrder.goes {s : Nat → Int} {r : List (List Op5)} {X : Nat → Wk} {T : Nat → List Slot4} (h : InOrder s r X T) (hck : ∀ d ∈ r, (checkF d).1 = 0) {i : Nat} (hi : i < r.length) (ha : ∀ q, q < i → (X q).over = true) (ho : (X i).over = false) :
    (((stepW T r[i] (i : Int) (X i)).what = 1 ∧ (stepW T r[i] (i : Int) (X i)).x.over = false) ∨ ((stepW T r[i] (i : Int) (X i)).what = 3 ∧ (stepW T r[i] (i : Int) (X i)).x.over = true)) ∧ todoW r[i] (stepW T r[i] (i : Int) (X i)).x < todoW r[i] (X i) := by
  have hw := (h.ok.well i hi).step (hck r[i] (List.getElem_mem hi)) T (i : Int)
  rcases h.cases hck hi with ⟨e, -⟩ | ⟨-, c, e, -⟩ | ⟨-, y, e, hy, -, hn⟩ | ⟨-, q, hq, -, e⟩
  · rw [ho] at e; cases e
  · rw [e]
    refine ⟨.inr ⟨rfl, rfl⟩, ?_⟩
    unfold todoW
    rw [if_pos (by rfl), if_neg (by simp [ho])]
    omega
  · rw [e] at hw ⊢
    refine ⟨.inl ⟨rfl, hy⟩, ?_⟩
    have := hw.nx
    unfold todoW
    dsimp only at this ⊢
    rw [if_neg (by simp [hy]), if_neg (by simp [ho])]
    omega
  · rw [ha q hq] at e; cases e
end Go.Proofs.YtehkjbpgibdgpadGreatDoor
