/-
  What a deed comes to, on plain functions: its registers, the state, the place of its next operation; and what the laws lean on.
-/
import Derived.Test.YtdohockbmphhfadDoorMath
import Derived.WalkKit
namespace Go.Proofs.YtdohockbmphhfadDoor
open Go.RowKit

/-- A row with one place changed. -/
def putAt (f : Nat → Int) (a : Nat) (n : Int) : Nat → Int := fun i => if i = a then n else f i

/-- A runner: registers, state, the place of the next operation. -/
structure Run where
  regs : Nat → Int
  st : Nat → Int
  next : Nat

/-- What a deed came to. -/
structure Out where
  st : Nat → Int
  code : Int
  regs : Nat → Int

def arithF (k a b : Int) : Int :=
  if k = 3 then wrap64 (a + b) else if k = 4 then wrap64 (a - b) else if k = 5 then wrap64 (a * b) else if k = 6 ∧ a < b then 1 else 0

def stepF (o : Op5) (r : Run) : Run :=
  if o.k = 1 then ⟨putAt r.regs o.a.toNat o.n, r.st, r.next + 1⟩
  else if o.k = 2 then ⟨putAt r.regs o.a.toNat (r.st o.b.toNat), r.st, r.next + 1⟩
  else if o.k = 7 then ⟨r.regs, putAt r.st o.a.toNat (r.regs o.b.toNat), r.next + 1⟩
  else if o.k = 9 then ⟨r.regs, r.st, if r.regs o.a.toNat = 0 then r.next + 1 + o.b.toNat else r.next + 1⟩
  else if o.k = 3 ∨ o.k = 4 ∨ o.k = 5 ∨ o.k = 6 then ⟨putAt r.regs o.a.toNat (arithF o.k (r.regs o.b.toNat) (r.regs o.c.toNat)), r.st, r.next + 1⟩
  else ⟨r.regs, r.st, r.next + 1⟩

theorem stepF_next (o : Op5) (r : Run) : r.next < (stepF o r).next := by
  unfold stepF
  repeat' split
  all_goals (dsimp only; try split)
  all_goals omega

def runF (s : Nat → Int) (d : List Op5) (r : Run) : Out :=
  if h : r.next < d.length then
    if d[r.next].k = 8 ∧ r.regs d[r.next].a.toNat ≠ 0 then ⟨s, 9, r.regs⟩ else runF s d (stepF d[r.next] r)
  else ⟨r.st, 0, r.regs⟩
  termination_by d.length - r.next
  decreasing_by
    have := stepF_next d[r.next] r
    omega

def doF (s : Nat → Int) (d : List Op5) : Out := runF s d ⟨fun _ => 0, s, 0⟩

theorem runF_end {s : Nat → Int} {d : List Op5} {r : Run} (h : ¬ r.next < d.length) : runF s d r = ⟨r.st, 0, r.regs⟩ := by
  rw [runF, dif_neg h]
theorem runF_stop {s : Nat → Int} {d : List Op5} {r : Run} (h : r.next < d.length) (h8 : d[r.next].k = 8) (h0 : r.regs d[r.next].a.toNat ≠ 0) : runF s d r = ⟨s, 9, r.regs⟩ := by
  rw [runF, dif_pos h, if_pos ⟨h8, h0⟩]
theorem runF_step {s : Nat → Int} {d : List Op5} {r : Run} (h : r.next < d.length) (h8 : ¬ (d[r.next].k = 8 ∧ r.regs d[r.next].a.toNat ≠ 0)) : runF s d (stepF d[r.next] r) = runF s d r := by
  rw [runF.eq_def s d r, dif_pos h, if_neg h8]

/-- What each step keeps holds at the end. -/
theorem runF_inv {s : Nat → Int} {d : List Op5} (P : Run → Prop) (hs : ∀ r, P r → ∀ h : r.next < d.length, P (stepF d[r.next] r)) :
    ∀ (n : Nat) (r : Run), d.length - r.next ≤ n → P r → ((runF s d r).code = 9 ∧ (runF s d r).st = s) ∨ ((runF s d r).code = 0 ∧ ∃ r', P r' ∧ (runF s d r).st = r'.st) := by
  intro n
  induction n with
  | zero =>
    intro r hn hp
    rw [runF_end (by omega)]
    exact .inr ⟨rfl, r, hp, rfl⟩
  | succ n ih =>
    intro r hn hp
    by_cases h : r.next < d.length
    · by_cases h8 : d[r.next].k = 8 ∧ r.regs d[r.next].a.toNat ≠ 0
      · rw [runF_stop h h8.1 h8.2]; exact .inl ⟨rfl, rfl⟩
      · rw [← runF_step h h8]
        refine ih _ ?_ (hs r hp h)
        have := stepF_next d[r.next] r
        omega
    · rw [runF_end h]
      exact .inr ⟨rfl, r, hp, rfl⟩

/-- WHAT STOPS ITSELF DOES NOTHING. -/
theorem doF_stops (s : Nat → Int) (d : List Op5) : ((doF s d).code = 9 ∧ (doF s d).st = s) ∨ ((doF s d).code = 0 ∧ ∀ k, (doF s d).st k ≠ s k → ∃ o ∈ d, o.k = 7 ∧ o.a.toNat = k) := by
  have h := runF_inv (s := s) (d := d) (fun r => ∀ k, r.st k ≠ s k → ∃ o ∈ d, o.k = 7 ∧ o.a.toNat = k) (fun r hr hlt k hk => by
    by_cases h7 : d[r.next].k = 7
    · by_cases hka : k = d[r.next].a.toNat
      · exact ⟨_, List.getElem_mem hlt, h7, hka.symm⟩
      · refine hr k ?_
        simpa [stepF, h7, putAt, hka] using hk
    · refine hr k ?_
      revert hk
      unfold stepF
      repeat' split
      all_goals first | contradiction | exact fun h => h) d.length ⟨fun _ => 0, s, 0⟩ (by simp) (fun k hk => absurd rfl hk)
  rcases h with h | ⟨h0, r', hr, he⟩
  · exact .inl h
  · exact .inr ⟨h0, fun k hk => hr k (by rw [← he]; exact hk)⟩

/-- Two runs side by side. -/
structure Beside (s t : Nat → Int) (r q : Run) : Prop where
  next : r.next = q.next
  regs : r.regs = q.regs
  st : ∀ k, r.st k = q.st k ∨ (r.st k = s k ∧ q.st k = t k)

theorem Beside.step {s t : Nat → Int} {r q : Run} (h : Beside s t r q) (o : Op5) (ho : o.k = 2 → s o.b.toNat = t o.b.toNat) : Beside s t (stepF o r) (stepF o q) := by
  obtain ⟨h1, h2, h3⟩ := h
  unfold stepF
  by_cases k1 : o.k = 1
  · simp only [k1, if_true]; exact ⟨by simp [h1], by simp [h2], h3⟩
  by_cases k2 : o.k = 2
  · have hb : r.st o.b.toNat = q.st o.b.toNat := by
      rcases h3 o.b.toNat with h | ⟨ha, hb⟩
      · exact h
      · rw [ha, hb, ho k2]
    rw [if_neg k1, if_neg k1, if_pos k2, if_pos k2]
    exact ⟨by simp [h1], by simp [h2, hb], h3⟩
  by_cases k7 : o.k = 7
  · rw [if_neg k1, if_neg k1, if_neg k2, if_neg k2, if_pos k7, if_pos k7]
    refine ⟨by simp [h1], h2, fun k => ?_⟩
    by_cases hk : k = o.a.toNat
    · left; simp [putAt, hk, h2]
    · simpa [putAt, hk] using h3 k
  by_cases k9 : o.k = 9
  · rw [if_neg k1, if_neg k1, if_neg k2, if_neg k2, if_neg k7, if_neg k7, if_pos k9, if_pos k9]
    exact ⟨by simp [h1, h2], h2, h3⟩
  rw [if_neg k1, if_neg k1, if_neg k2, if_neg k2, if_neg k7, if_neg k7, if_neg k9, if_neg k9]
  split
  · exact ⟨by simp [h1], by simp [h2], h3⟩
  · exact ⟨by simp [h1], h2, h3⟩

theorem runF_beside {s t : Nat → Int} {d : List Op5} (hl : ∀ o ∈ d, o.k = 2 → s o.b.toNat = t o.b.toNat) :
    ∀ (n : Nat) (r q : Run), d.length - r.next ≤ n → Beside s t r q → (runF s d r).code = (runF t d q).code ∧ (runF s d r).regs = (runF t d q).regs ∧ ∀ k, (runF s d r).st k = (runF t d q).st k ∨ ((runF s d r).st k = s k ∧ (runF t d q).st k = t k) := by
  intro n
  induction n with
  | zero =>
    intro r q hn hb
    rw [runF_end (r := r) (by omega), runF_end (r := q) (by have := hb.next; omega)]
    exact ⟨rfl, hb.regs, hb.st⟩
  | succ n ih =>
    intro r q hn hb
    obtain ⟨rr, rs, rn⟩ := r
    obtain ⟨qr, qs, qn⟩ := q
    obtain ⟨h1, h2, h3⟩ := hb
    dsimp only at h1 h2 h3 hn
    subst h1 h2
    by_cases h : rn < d.length
    · by_cases h8 : d[rn].k = 8 ∧ rr d[rn].a.toNat ≠ 0
      · rw [runF_stop (r := ⟨rr, rs, rn⟩) h h8.1 h8.2, runF_stop (r := ⟨rr, qs, rn⟩) h h8.1 h8.2]
        exact ⟨rfl, rfl, fun k => .inr ⟨rfl, rfl⟩⟩
      · rw [← runF_step (r := ⟨rr, rs, rn⟩) h h8, ← runF_step (r := ⟨rr, qs, rn⟩) h h8]
        refine ih _ _ ?_ (Beside.step (s := s) (t := t) (r := ⟨rr, rs, rn⟩) (q := ⟨rr, qs, rn⟩) ⟨rfl, rfl, h3⟩ d[rn] (hl _ (List.getElem_mem h)))
        have := stepF_next d[rn] ⟨rr, rs, rn⟩
        dsimp only at this ⊢
        omega
    · rw [runF_end (r := ⟨rr, rs, rn⟩) h, runF_end (r := ⟨rr, qs, rn⟩) h]
      exact ⟨rfl, rfl, h3⟩

/-- WHAT IT DOES NOT LOAD DOES NOT MATTER. -/
theorem doF_reads {s t : Nat → Int} {d : List Op5} (hl : ∀ o ∈ d, o.k = 2 → s o.b.toNat = t o.b.toNat) : (doF s d).code = (doF t d).code ∧ (doF s d).regs = (doF t d).regs ∧ ∀ k, (doF s d).st k = (doF t d).st k ∨ ((doF s d).st k = s k ∧ (doF t d).st k = t k) :=
  runF_beside hl d.length _ _ (by simp) ⟨rfl, rfl, fun k => .inr ⟨rfl, rfl⟩⟩

/-- DONE AGAIN IT IS THE SAME. -/
theorem doF_twice {s : Nat → Int} {d : List Op5} (hl : ∀ o ∈ d, o.k = 2 → ∀ p ∈ d, p.k = 7 → p.a.toNat ≠ o.b.toNat) : doF (doF s d).st d = doF s d := by
  have hx : ∀ o ∈ d, o.k = 2 → s o.b.toNat = (doF s d).st o.b.toNat := fun o ho h2 => by
    rcases doF_stops s d with ⟨-, h⟩ | ⟨-, h⟩
    · rw [h]
    · by_cases he : (doF s d).st o.b.toNat = s o.b.toNat
      · exact he.symm
      · obtain ⟨p, hp, h7, ha⟩ := h _ he
        exact absurd ha (hl o ho h2 p hp h7)
  obtain ⟨h1, h2, h3⟩ := doF_reads hx
  have h3' : (doF (doF s d).st d).st = (doF s d).st := by
    funext k
    rcases h3 k with h | ⟨-, h⟩
    · exact h.symm
    · exact h
  generalize hq : doF (doF s d).st d = q at *
  generalize doF s d = p at *
  cases p; cases q
  simp_all

/-- The deeds of a round, each on what the one ahead left. -/
def allSt (s : Nat → Int) : List (List Op5) → (Nat → Int)
  | [] => s
  | d :: r => allSt (doF s d).st r
def allOut (s : Nat → Int) : List (List Op5) → List Out
  | [] => []
  | d :: r => doF s d :: allOut (doF s d).st r
theorem allSt_append (s : Nat → Int) (a b : List (List Op5)) : allSt s (a ++ b) = allSt (allSt s a) b := by
  induction a generalizing s with
  | nil => rfl
  | cons d r ih => exact ih _
theorem allOut_append (s : Nat → Int) (a b : List (List Op5)) : allOut s (a ++ b) = allOut s a ++ allOut (allSt s a) b := by
  induction a generalizing s with
  | nil => rfl
  | cons d r ih => simp only [List.cons_append, allOut, allSt, ih]
theorem allOut_length (s : Nat → Int) (a : List (List Op5)) : (allOut s a).length = a.length := by
  induction a generalizing s with
  | nil => rfl
  | cons d r ih => simp only [allOut, List.length_cons, ih]

theorem roundF_take {r : List (List Op5)} (h : roundF r = 0) (k : Nat) : roundF (r.take k) = 0 := by
  rw [roundF_zero] at h ⊢
  exact ⟨by rw [List.length_take]; omega, fun d hd => h.2 d (List.mem_of_mem_take hd)⟩
theorem roundF_drop {r : List (List Op5)} (h : roundF r = 0) (k : Nat) : roundF (r.drop k) = 0 := by
  rw [roundF_zero] at h ⊢
  exact ⟨by rw [List.length_drop]; omega, fun d hd => h.2 d (List.mem_of_mem_drop hd)⟩

/-- What may stand in a part of an operation that is well made. -/
theorem alone_parts {o : Op5} (h : aloneF o = 0) : (o.k = 1 ∧ 0 ≤ o.a ∧ o.a < 4) ∨ (o.k = 2 ∧ 0 ≤ o.a ∧ o.a < 4 ∧ 0 ≤ o.b ∧ o.b < 10)
    ∨ ((o.k = 3 ∨ o.k = 4 ∨ o.k = 5 ∨ o.k = 6) ∧ 0 ≤ o.a ∧ o.a < 4 ∧ 0 ≤ o.b ∧ o.b < 4 ∧ 0 ≤ o.c ∧ o.c < 4)
    ∨ (o.k = 7 ∧ 0 ≤ o.a ∧ o.a < 10 ∧ 0 ≤ o.b ∧ o.b < 4) ∨ (o.k = 8 ∧ 0 ≤ o.a ∧ o.a < 4) ∨ (o.k = 9 ∧ 0 ≤ o.a ∧ o.a < 4 ∧ 0 ≤ o.b ∧ o.b < 14) := by
  have hk := alone_kind h
  obtain ⟨k, a, b, c, n⟩ := o
  dsimp only at hk ⊢
  have part : ∀ p l : Int, 0 < l → partF p l = 0 → 0 ≤ p ∧ p < l := fun p l hl hp => by
    unfold partF at hp
    rw [if_neg (by omega)] at hp
    split at hp
    · exact absurd hp (by decide)
    · omega
  have parts : partF a (limF k 0) = 0 ∧ partF b (limF k 1) = 0 ∧ partF c (limF k 2) = 0 := by
    unfold aloneF at h
    dsimp only at h
    rw [if_neg (by omega)] at h
    by_cases h0 : partF a (limF k 0) = 0
    · by_cases h1 : partF b (limF k 1) = 0
      · by_cases h2 : partF c (limF k 2) = 0
        · exact ⟨h0, h1, h2⟩
        · simp [h0, h1, h2] at h
      · simp [h0, h1] at h
    · simp [h0] at h
  obtain ⟨pa, pb, pc⟩ := parts
  have hc : k = 1 ∨ k = 2 ∨ k = 3 ∨ k = 4 ∨ k = 5 ∨ k = 6 ∨ k = 7 ∨ k = 8 ∨ k = 9 := by omega
  rcases hc with rfl | rfl | rfl | rfl | rfl | rfl | rfl | rfl | rfl
  · have := part _ _ (by decide) pa; simp only [limF] at this; omega
  · have qa := part _ _ (by decide) pa; have qb := part _ _ (by decide) pb; simp only [limF] at qa qb; omega
  · have qa := part _ _ (by decide) pa; have qb := part _ _ (by decide) pb; have qc := part _ _ (by decide) pc; simp only [limF] at qa qb qc; omega
  · have qa := part _ _ (by decide) pa; have qb := part _ _ (by decide) pb; have qc := part _ _ (by decide) pc; simp only [limF] at qa qb qc; omega
  · have qa := part _ _ (by decide) pa; have qb := part _ _ (by decide) pb; have qc := part _ _ (by decide) pc; simp only [limF] at qa qb qc; omega
  · have qa := part _ _ (by decide) pa; have qb := part _ _ (by decide) pb; have qc := part _ _ (by decide) pc; simp only [limF] at qa qb qc; omega
  · have qa := part _ _ (by decide) pa; have qb := part _ _ (by decide) pb; simp only [limF] at qa qb; omega
  · have := part _ _ (by decide) pa; simp only [limF] at this; omega
  · have qa := part _ _ (by decide) pa; have qb := part _ _ (by decide) pb; simp only [limF] at qa qb; omega
end Go.Proofs.YtdohockbmphhfadDoor
