/-
  A desk on lists: what a line does, and what it tells. A desk as it lies in memory: a builder of what is told, a store, the deeds of the next round. The walks of a builder's copyCheck, WriteString, String and Reset inside a desk.
-/
import Derived.Test.YtehkjbpgibdgpadGreatDoorMatQJ
import Derived.Test.YtehkjbpgibdgpadGreatDoorJqXc
import Derived.Lib.Join
import Derived.Test.YtehkjbpgibdgpadGreatDoorJqEq
namespace Go.Proofs.YtehkjbpgibdgpadGreatDoor
open Go.RowKit

/-! ### Numbers of 64 bits in states -/

def S64 (s : Nat → Int) : Prop := ∀ i, I64 (s i)
theorem s64_zero : S64 (fun _ => 0) := fun _ => i64_zero
theorem wrap_64 (n : Int) : I64 (wrap64 n) := by unfold I64 wrap64; omega
theorem arith_64 (k a b : Int) : I64 (arithF k a b) := by
  unfold arithF
  split
  · exact wrap_64 _
  split
  · exact wrap_64 _
  split
  · exact wrap_64 _
  split
  · exact ⟨by decide, by decide⟩
  · exact i64_zero
theorem putAt_64 {f : Nat → Int} {a : Nat} {n : Int} (h : S64 f) (hn : I64 n) : S64 (putAt f a n) := fun i => by
  unfold putAt; split
  · exact hn
  · exact h i
theorem N64.i64 {o : Op5} (h : N64 o) : I64 o.n := ⟨h.1, by have := h.2; omega⟩
theorem stepF_64 {o : Op5} {r : Run} (h1 : S64 r.regs) (h2 : S64 r.st) (ho : N64 o) : S64 (stepF o r).regs ∧ S64 (stepF o r).st := by
  unfold stepF
  split
  · exact ⟨putAt_64 h1 ho.i64, h2⟩
  split
  · exact ⟨putAt_64 h1 (h2 _), h2⟩
  split
  · exact ⟨h1, putAt_64 h2 (h1 _)⟩
  split
  · exact ⟨h1, h2⟩
  split
  · exact ⟨putAt_64 h1 (arith_64 _ _ _), h2⟩
  · exact ⟨h1, h2⟩
/-- What came of a deed: numbers of 64 bits, and a code that is 0 or 9. -/
def Out64 (x : Out) : Prop := S64 x.st ∧ S64 x.regs ∧ I64 x.code
theorem runF_64 {s : Nat → Int} {d : List Op5} (hs : S64 s) (hd : D64 d) : ∀ (n : Nat) (r : Run), d.length - r.next ≤ n → S64 r.regs → S64 r.st → Out64 (runF s d r) := by
  intro n
  induction n with
  | zero =>
    intro r hn h1 h2
    rw [runF_end (by omega)]
    exact ⟨h2, h1, i64_zero⟩
  | succ n ih =>
    intro r hn h1 h2
    by_cases h : r.next < d.length
    · by_cases h8 : d[r.next].k = 8 ∧ r.regs d[r.next].a.toNat ≠ 0
      · rw [runF_stop h h8.1 h8.2]; exact ⟨hs, h1, ⟨by dsimp only; omega, by dsimp only; omega⟩⟩
      · rw [← runF_step h h8]
        have h3 := stepF_64 h1 h2 (hd _ (List.getElem_mem h))
        refine ih _ ?_ h3.1 h3.2
        have := stepF_next d[r.next] r
        omega
    · rw [runF_end h]
      exact ⟨h2, h1, i64_zero⟩
theorem doF_64 {s : Nat → Int} {d : List Op5} (hs : S64 s) (hd : D64 d) : Out64 (doF s d) := runF_64 hs hd d.length _ (by simp) s64_zero hs
theorem allSt_64 {r : List (List Op5)} : ∀ {s : Nat → Int}, S64 s → R64 r → S64 (allSt s r) := by
  induction r with
  | nil => exact fun h _ => h
  | cons d r ih => exact fun h hr => ih (doF_64 h (hr d (by simp))).1 fun x hx => hr x (by simp [hx])
theorem allOut_64 {r : List (List Op5)} : ∀ {s : Nat → Int}, S64 s → R64 r → ∀ x ∈ allOut s r, Out64 x := by
  induction r with
  | nil => intro s _ _ x hx; cases hx
  | cons d r ih =>
    intro s h hr x hx
    rcases List.mem_cons.1 hx with rfl | hx
    · exact doF_64 h (hr d (by simp))
    · exact ih (doF_64 h (hr d (by simp))).1 (fun x hx => hr x (by simp [hx])) x hx
theorem outAt_64 {r : List (List Op5)} {s : Nat → Int} (h : S64 s) (hr : R64 r) (i : Nat) : Out64 (outAt s r i) := by
  unfold outAt
  cases hx : (allOut s r)[i]? with
  | none => exact ⟨h, s64_zero, i64_zero⟩
  | some x => exact allOut_64 h hr x (List.mem_of_getElem? hx)
/-- All rounds of a log have numbers of 64 bits. -/
def L64 (l : List (List (List Op5))) : Prop := ∀ r ∈ l, R64 r
theorem L64.at {l : List (List (List Op5))} (h : L64 l) (m : Nat) : R64 (l.getD m []) := by
  rw [List.getD_eq_getElem?_getD]
  cases hx : l[m]? with
  | none => intro d hd; cases hd
  | some x => exact h x (List.mem_of_getElem? hx)
theorem stN_64 {l : List (List (List Op5))} (h : L64 l) : ∀ m, S64 (stN l m)
  | 0 => s64_zero
  | m + 1 => allSt_64 (stN_64 h m) (h.at m)
theorem last_64 {l : List (List (List Op5))} (h : L64 l) (m i : Nat) : I64 (lastC l m i) ∧ S64 (lastG l m i) := by
  have hS : S64 (lastS l m) := by
    cases m with
    | zero => exact s64_zero
    | succ m => exact stN_64 h m
  have hR : R64 (lastR l m) := by
    cases m with
    | zero => intro d hd; cases hd
    | succ m => exact h.at m
  have := outAt_64 hS hR i
  exact ⟨this.2.2, this.2.1⟩
theorem op64_of {o : Op5} (h : aloneF o = 0) (hn : N64 o) : Op64 o := by
  obtain ⟨k1, k9, a0, a1, b0, b1, c0, c1, -⟩ := alone_partsC h
  exact ⟨⟨by omega, by omega⟩, ⟨by omega, by omega⟩, ⟨by omega, by omega⟩, ⟨by omega, by omega⟩, hn.i64⟩
theorem d64_of {d : List Op5} (h : (checkF d).1 = 0) (hn : D64 d) : ∀ o ∈ d, Op64 o := fun o ho => op64_of (checkF_alone h o ho) (hn o ho)
theorem parse_64 (s : List UInt8) : D64 (parseF s).1 := fun o ho => by
  have := (parse_range s o ho).2.2.2.2
  exact ⟨this.1, by have := this.2; omega⟩

/-! ### Faults of texts -/

theorem places_range (n : Nat) : ∀ (d : List Op5) (i : Nat) (b : Bool), 0 ≤ (placesF n i b d).1 ∧ (placesF n i b d).1 ≤ 5 ∧ 0 ≤ (placesF n i b d).2 ∧ (placesF n i b d).2 ≤ ((i + d.length : Nat) : Int) := by
  intro d
  induction d with
  | nil => intro i b; simp [placesF]
  | cons o d ih =>
    intro i b
    have h1 := ih (i + 1) true
    have h2 := ih (i + 1) b
    unfold placesF
    simp only [List.length_cons]
    repeat' split
    all_goals (try dsimp only)
    all_goals omega
theorem partF_range (p l : Int) : 0 ≤ partF p l ∧ partF p l ≤ 3 := by
  unfold partF; repeat' split
  all_goals omega
theorem alone_range (o : Op5) : 0 ≤ aloneF o ∧ aloneF o ≤ 3 := by
  have h1 := partF_range o.a (limF o.k 0)
  have h2 := partF_range o.b (limF o.k 1)
  have h3 := partF_range o.c (limF o.k 2)
  unfold aloneF
  repeat' split
  all_goals omega
theorem first_range {z : Int × Int} {N : Int} (hz : 0 ≤ z.1 ∧ z.1 ≤ 5 ∧ 0 ≤ z.2 ∧ z.2 ≤ N) : ∀ (d : List Op5) (i : Nat), ((i + d.length : Nat) : Int) ≤ N → 0 ≤ (firstF z i d).1 ∧ (firstF z i d).1 ≤ 5 ∧ 0 ≤ (firstF z i d).2 ∧ (firstF z i d).2 ≤ N := by
  intro d
  induction d with
  | nil => intro i _; exact hz
  | cons o d ih =>
    intro i hN
    have h1 := alone_range o
    simp only [List.length_cons] at hN
    have h2 := ih (i + 1) (by omega)
    unfold firstF
    split
    · dsimp only; omega
    · exact h2
theorem check_range (d : List Op5) : 0 ≤ (checkF d).1 ∧ (checkF d).1 ≤ 5 ∧ -1 ≤ (checkF d).2 ∧ (checkF d).2 ≤ 14 := by
  unfold checkF
  split
  · exact ⟨by decide, by decide, by decide, by decide⟩
  · have h1 := places_range d.length d 0 false
    have h2 := first_range (N := 14) (z := placesF d.length 0 false d) ⟨h1.1, h1.2.1, h1.2.2.1, by omega⟩ d 0 (by omega)
    omega
theorem parts_range : ∀ (ps : List (List (List UInt8))) (i k : Nat), partsF i ps = .inl k → k < i + ps.length := by
  intro ps
  induction ps with
  | nil => intro i k h; cases h
  | cons ws r ih =>
    intro i k h
    simp only [partsF] at h
    simp only [List.length_cons]
    split at h
    · injection h with h; omega
    · split at h
      · rename_i q hq
        injection h with h
        have := ih (i + 1) q hq
        omega
      · cases h
theorem scan_count : ∀ s : List UInt8, (scan s).2.2.length ≤ s.length := by
  intro s
  induction s with
  | nil => simp [scan]
  | cons c r ih =>
    simp only [scan, List.length_cons]
    repeat' split
    all_goals (simp only [List.length_cons]; omega)
theorem parse_fault_range {s : List UInt8} (hs : s.length ≤ 281474976710656) : I64 (parseF s).2.1 ∧ I64 (parseF s).2.2 := by
  unfold parseF
  split
  · exact ⟨i64_zero, i64_zero⟩
  · split
    · rename_i k hk
      have h1 := parts_range _ _ _ hk
      have h2 := scan_count s
      unfold lex at h1
      simp only [List.length_cons] at h1
      exact ⟨⟨by dsimp only; omega, by dsimp only; omega⟩, ⟨by dsimp only; omega, by dsimp only; omega⟩⟩
    · rename_i d hd
      have := check_range d
      split
      · exact ⟨⟨by dsimp only; omega, by dsimp only; omega⟩, ⟨by dsimp only; omega, by dsimp only; omega⟩⟩
      · exact ⟨i64_zero, i64_zero⟩

/-! ### What is said -/

def sayB (ws : List (List UInt8)) : List UInt8 := Lib.join ws [32] ++ [10]
def tellB (w : List UInt8) (ns : List Int) : List UInt8 := sayB (w :: ns.map Lib.itoa)
theorem tail_nums (ns : List Int) : Lib.joinTail [32] (ns.map Lib.itoa) = numsB ns := by
  induction ns with
  | nil => rfl
  | cons n ns ih =>
    have : Lib.joinTail [32] ((n :: ns).map Lib.itoa) = [32] ++ Lib.itoa n ++ Lib.joinTail [32] (ns.map Lib.itoa) := by simp [Lib.joinTail]
    rw [this, ih]; simp [numsB]
theorem tellB_eq (w : List UInt8) (ns : List Int) : tellB w ns = w ++ numsB ns ++ [10] := by
  rw [tellB, sayB, Lib.join_cons, tail_nums]
theorem tellB_len {w : List UInt8} {ns : List Int} (h : ∀ n ∈ ns, I64 n) : (tellB w ns).length ≤ w.length + 22 * ns.length + 1 := by
  have := numsB_length h
  rw [tellB_eq]; simp only [List.length_append, List.length_cons, List.length_nil]; omega

def wOk : List UInt8 := [111, 107]
def wNo : List UInt8 := [110, 111]
def wWhat : List UInt8 := [119, 104, 97, 116]
def wState : List UInt8 := [115, 116, 97, 116, 101]
def wCame : List UInt8 := [99, 97, 109, 101]
def wEnd : List UInt8 := [101, 110, 100]
def wDeed : List UInt8 := [100, 101, 101, 100]
def wMany : List UInt8 := [109, 97, 110, 121]
/-- The words of the lines, and how many numbers stand behind them; -1: as many as there are. -/
def rowW : Nat → List UInt8
  | 0 => [112, 117, 116]
  | 1 => [115, 121, 110, 99]
  | 2 => [114, 117, 110]
  | 3 => [99, 114, 97, 115, 104]
  | 4 => [115, 116, 97, 116, 101]
  | 5 => [108, 97, 115, 116]
  | 6 => [116, 104, 101, 110]
  | 7 => [114, 111, 117, 110, 100]
  | _ => [109, 97, 110, 121]
def rowM : Nat → Int
  | 0 => 0
  | 1 => 0
  | 2 => -1
  | 3 => 1
  | 4 => 0
  | 5 => 0
  | 6 => 1
  | 7 => 1
  | _ => 0

/-- A desk: the deeds of the next round; the log, how many of its rounds are made sure of, and done. -/
structure DSt where
  r : List (List Op5)
  l : List (List (List Op5))
  k : Nat
  m : Nat

def ten (f : Nat → Int) : List Int := [f 0, f 1, f 2, f 3, f 4, f 5, f 6, f 7, f 8, f 9]
def four (f : Nat → Int) : List Int := [f 0, f 1, f 2, f 3]
theorem ten_64 {f : Nat → Int} (h : S64 f) : ∀ n ∈ ten f, I64 n := by
  intro n hn
  simp only [ten, List.mem_cons, List.not_mem_nil, or_false] at hn
  rcases hn with rfl | rfl | rfl | rfl | rfl | rfl | rfl | rfl | rfl | rfl <;> exact h _
theorem five_64 {c : Int} {f : Nat → Int} (hc : I64 c) (h : S64 f) : ∀ n ∈ c :: four f, I64 n := by
  intro n hn
  simp only [four, List.mem_cons, List.not_mem_nil, or_false] at hn
  rcases hn with rfl | rfl | rfl | rfl | rfl
  · exact hc
  all_goals exact h _
def codeT (c : Int) : List UInt8 := if c = 0 then sayB [wOk] else tellB wNo [c]
def stepT (D : DSt) (x : QStep) : DSt × List UInt8 :=
  (⟨D.r, (stepQ D.l D.k D.m x).l, (stepQ D.l D.k D.m x).k, (stepQ D.l D.k D.m x).m⟩, codeT (stepQ D.l D.k D.m x).c)
def putL (D : DSt) : DSt × List UInt8 :=
  (⟨[], (stepT D ⟨1, D.r, [], 0⟩).1.l, (stepT D ⟨1, D.r, [], 0⟩).1.k, (stepT D ⟨1, D.r, [], 0⟩).1.m⟩, (stepT D ⟨1, D.r, [], 0⟩).2)
def stateT (f : Nat → Int) : List UInt8 := tellB wState (ten f)
def noneT : List UInt8 := tellB wNo [7]
def cameT (l : List (List (List Op5))) (m : Nat) : Nat → List UInt8
  | 0 => []
  | n + 1 => cameT l m n ++ tellB wCame (lastC l m n :: four (lastG l m n))
def lastT (l : List (List (List Op5))) (m : Nat) : List UInt8 := cameT l m (lastR l m).length ++ sayB [wEnd]
def deedsT : List (List Op5) → List UInt8
  | [] => []
  | d :: r => sayB [wDeed, printB d] ++ deedsT r
theorem deedsT_append (a b : List (List Op5)) : deedsT (a ++ b) = deedsT a ++ deedsT b := by
  induction a with
  | nil => rfl
  | cons d a ih => simp [deedsT, ih]
theorem deedsT_take {r : List (List Op5)} {j : Nat} (h : j < r.length) : deedsT (r.take (j + 1)) = deedsT (r.take j) ++ sayB [wDeed, printB r[j]] := by
  rw [List.take_succ_eq_append_getElem h, deedsT_append]; simp [deedsT]
def thenT (l : List (List (List Op5))) (n : Int) : List UInt8 := if 0 ≤ n ∧ n ≤ (l.length : Int) then stateT (stN l n.toNat) else noneT
def roundT (l : List (List (List Op5))) (n : Int) : List UInt8 := if 0 ≤ n ∧ n < (l.length : Int) then deedsT (l.getD n.toNat []) ++ sayB [wEnd] else noneT
def manyT (D : DSt) : List UInt8 := tellB wMany [(D.l.length : Int), (D.k : Int), (D.m : Int)]
def deedL (D : DSt) (s : List UInt8) : DSt × List UInt8 :=
  if (parseF s).2.1 ≠ 0 then (D, tellB wNo [(parseF s).2.1, (parseF s).2.2]) else (⟨if D.r.length ≤ 8 then D.r ++ [(parseF s).1] else D.r, D.l, D.k, D.m⟩, [])

/-- Does row i tell of such a word, and as many numbers? -/
def isRow (w : List UInt8) (n : Nat) (i : Nat) : Bool := decide (rowW i = w) && (rowM i == -1 || rowM i == (n : Int))
/-- The first row from j on that does, of n more; none: 9. -/
def rowFrom (w : List UInt8) (n : Nat) : Nat → Nat → Nat
  | 0, _ => 9
  | f + 1, j => if isRow w n j then j else rowFrom w n f (j + 1)
def rowAt (w : List UInt8) (n : Nat) : Nat := rowFrom w n 9 0
theorem rowFrom_is {w : List UInt8} {n : Nat} : ∀ (f j : Nat), f + j = 9 → rowFrom w n f j = 9 ∨ (rowFrom w n f j < 9 ∧ isRow w n (rowFrom w n f j) = true) := by
  intro f
  induction f with
  | zero => intro j _; exact .inl rfl
  | succ f ih =>
    intro j hj
    unfold rowFrom
    split
    · rename_i h; exact .inr ⟨by omega, h⟩
    · exact ih (j + 1) (by omega)
theorem rowAt_is (w : List UInt8) (n : Nat) : rowAt w n = 9 ∨ (rowAt w n < 9 ∧ isRow w n (rowAt w n) = true) := rowFrom_is 9 0 rfl
theorem isRow_one {w : List UInt8} {n i : Nat} (h : isRow w n i = true) (hi : rowM i = 1) : n = 1 := by
  unfold isRow at h
  rw [hi] at h
  simp only [Bool.and_eq_true, Bool.or_eq_true, beq_iff_eq] at h
  rcases h.2 with h | h
  · exact absurd h (by decide)
  · omega

def doR (D : DSt) (i : Nat) (ns : List Int) : DSt × List UInt8 :=
  match i with
  | 0 => putL D
  | 1 => stepT D ⟨2, [], [], 0⟩
  | 2 => stepT D ⟨3, [], ns, 0⟩
  | 3 => stepT D ⟨4, [], [], ns.getD 0 0⟩
  | 4 => (D, stateT (stN D.l D.m))
  | 5 => (D, lastT D.l D.m)
  | 6 => (D, thenT D.l (ns.getD 0 0))
  | 7 => (D, roundT D.l (ns.getD 0 0))
  | 8 => (D, manyT D)
  | _ => (D, sayB [wWhat])

theorem behind_lt {s : List UInt8} (h : wordF s ≠ []) : (behindF s).length < s.length := by
  obtain ⟨n, hn⟩ := cut_parts s
  have h1 := congrArg List.length hn
  simp only [List.length_append, List.length_replicate] at h1
  have := List.length_pos_iff.2 h
  omega
/-- The numbers that the words of a text are; none: one of them is none. -/
def numsL (s : List UInt8) : Option (List Int) :=
  if _h : wordF s = [] then some [] else
  match numF (wordF s) with
  | none => none
  | some n => (numsL (behindF s)).map (n :: ·)
  termination_by s.length
  decreasing_by exact behind_lt _h
theorem numsL_end {s : List UInt8} (h : wordF s = []) : numsL s = some [] := by rw [numsL, dif_pos h]
theorem numsL_bad {s : List UInt8} (h : wordF s ≠ []) (hn : numF (wordF s) = none) : numsL s = none := by rw [numsL, dif_neg h, hn]
theorem numsL_more {s : List UInt8} {n : Int} (h : wordF s ≠ []) (hn : numF (wordF s) = some n) : numsL s = (numsL (behindF s)).map (n :: ·) := by rw [numsL, dif_neg h, hn]

def deedW : List UInt8 := [100, 101, 101, 100, 32]
/-- WHAT A LINE DOES, AND TELLS. -/
def lineF (D : DSt) (s : List UInt8) : DSt × List UInt8 :=
  if deedW.isPrefixOf s = true then deedL D (s.drop 5)
  else if wordF s = [] then (D, [])
  else match numsL (behindF s) with
    | none => (D, sayB [wWhat])
    | some ns => doR D (rowAt (wordF s) ns.length) ns
/-- Lines, one behind the other. -/
def linesF : DSt → List (List UInt8) → DSt × List UInt8
  | D, [] => (D, [])
  | D, s :: r => ((linesF (lineF D s).1 r).1, (lineF D s).2 ++ (linesF (lineF D s).1 r).2)
/-- WHAT TWO TELL ONE BEHIND THE OTHER ONE OF BOTH TELLS. -/
theorem linesF_append (a b : List (List UInt8)) : ∀ D, linesF D (a ++ b) = ((linesF (linesF D a).1 b).1, (linesF D a).2 ++ (linesF (linesF D a).1 b).2) := by
  induction a with
  | nil => intro D; rfl
  | cons s a ih => intro D; simp [linesF, ih]
theorem linesF_take {ls : List (List UInt8)} {j : Nat} (h : j < ls.length) (D : DSt) : linesF D (ls.take (j + 1)) = ((lineF (linesF D (ls.take j)).1 ls[j]).1, (linesF D (ls.take j)).2 ++ (lineF (linesF D (ls.take j)).1 ls[j]).2) := by
  rw [List.take_succ_eq_append_getElem h, linesF_append]; simp [linesF]

/-- What holds of a desk's lists, the log aside. -/
structure DOk (D : DSt) : Prop where
  l64 : L64 D.l
  few : D.r.length ≤ 9
  good : ∀ d ∈ D.r, (checkF d).1 = 0
  d64 : R64 D.r
theorem stepQ_64 {l : List (List (List Op5))} {k m : Nat} {x : QStep} (h : L64 l) (hx : R64 x.r) : L64 (stepQ l k m x).l := by
  unfold stepQ
  repeat' split
  all_goals first | exact h | (intro r hr; exact h r (List.mem_of_mem_take hr)) | skip
  intro r hr
  rcases List.mem_append.1 hr with hr | hr
  · exact h r hr
  · obtain rfl : r = x.r := by simpa using hr
    exact hx
theorem r64_nil : R64 [] := fun d hd => by cases hd
theorem stepT_ok {D : DSt} (h : DOk D) {x : QStep} (hx : R64 x.r) : DOk (stepT D x).1 := ⟨stepQ_64 h.l64 hx, h.few, h.good, h.d64⟩
theorem putL_ok {D : DSt} (h : DOk D) : DOk (putL D).1 := ⟨stepQ_64 h.l64 h.d64, Nat.zero_le _, fun _d hd => (List.not_mem_nil hd).elim, r64_nil⟩
theorem doR_ok {D : DSt} (h : DOk D) (i : Nat) (ns : List Int) : DOk (doR D i ns).1 := by
  unfold doR
  split
  · exact putL_ok h
  · exact stepT_ok h r64_nil
  · exact stepT_ok h r64_nil
  · exact stepT_ok h r64_nil
  all_goals exact h
theorem deedL_ok {D : DSt} (h : DOk D) (s : List UInt8) : DOk (deedL D s).1 := by
  unfold deedL
  split
  · exact h
  · rename_i hc
    have hc : (parseF s).2.1 = 0 := by simpa using hc
    by_cases h8 : D.r.length ≤ 8
    · simp only [if_pos h8]
      refine ⟨h.l64, by simp; omega, fun d hd => ?_, fun d hd => ?_⟩
      · rcases List.mem_append.1 hd with hd | hd
        · exact h.good d hd
        · obtain rfl : d = (parseF s).1 := by simpa using hd
          exact parse_checked hc
      · rcases List.mem_append.1 hd with hd | hd
        · exact h.d64 d hd
        · obtain rfl : d = (parseF s).1 := by simpa using hd
          exact parse_64 s
    · simp only [if_neg h8]; exact ⟨h.l64, h.few, h.good, h.d64⟩
theorem lineF_ok {D : DSt} (h : DOk D) (s : List UInt8) : DOk (lineF D s).1 := by
  unfold lineF
  split
  · exact deedL_ok h _
  · split
    · exact h
    · split
      · exact h
      · exact doR_ok h _ _
/-- The code of a put's round, whose deeds are well made. -/
theorem codeP_range {D : DSt} (h : DOk D) : 0 ≤ codeP D.r ∧ codeP D.r ≤ 8 := by
  unfold codeP roundF
  have : codesF D.r = 0 := codesF_zero.2 h.good
  rw [this]
  repeat' split
  all_goals omega
theorem stepQ_range {D : DSt} (h : DOk D) {x : QStep} (hx : x.k = 1 → x.r = D.r) : I64 (stepQ D.l D.k D.m x).c := by
  have := codeP_range h
  unfold stepQ
  split
  · rename_i h1
    rw [hx h1]
    split
    · exact i64_zero
    · exact ⟨by dsimp only; omega, by dsimp only; omega⟩
  · repeat' split
    all_goals exact ⟨by dsimp only; omega, by dsimp only; omega⟩
end Go.Proofs.YtehkjbpgibdgpadGreatDoor
namespace Go.Proofs.YtehkjbpgibdgpadGreatDoor
open Go.RowKit

theorem ownsF_kept {w w' : World} {base : Nat} {e : TypeId} {size : Nat} {v : Value} {n : Nat} {xs : List Value} (h : w.ownsRowF base e size v n xs) (hk : ∀ g, v.ownBlock = some g → w'.heap[g]? = w.heap[g]?) : w'.ownsRowF base e size v n xs := by
  refine ⟨h.1, ?_⟩
  rcases h.2 with hn | ⟨g, cap, cur, fz, rfl, hb, hg, rest⟩
  · exact .inl hn
  · refine .inr ⟨g, cap, cur, fz, rfl, hb, ?_, rest⟩
    rw [hk g rfl]; exact hg

/-- What lies in a desk's block and beyond; c: the colour of each block (1: the desk's own, 2: what is told, 3: the row of deeds, 4: deeds, 5: the store's). -/
structure DkRaw (P : Nat → Prop) (c : Nat → Nat) (w : World) (B S : Nat) (va vb vd : Value) (vs : List Value) (t : List UInt8) (D : DSt) : Prop where
  blk : w.heap[B]? = some (.cells #[va, vb, .pointer (some ⟨S, 0, none⟩), vd] 57 (0, 0))
  a0 : va = .pointer none ∨ va = .pointer (some ⟨B, 0, none⟩)
  buf : w.ownsRowF 0 5 1 vb t.length (Lib.byteCells t)
  bnil : t = [] → vb = .slice none 0 0
  bc : ∀ g, vb.ownBlock = some g → P g ∧ c g = 2
  row : w.ownsRow 0 85 1 vd D.r.length vs
  rc : ∀ g, vd.ownBlock = some g → P g ∧ c g = 3
  ds : ∀ i (h : i < D.r.length), ∃ v, vs[i]? = some v ∧ DeedIn (fun b => P b ∧ c b = 4) w v D.r[i]
  st : StAt (fun b => P b ∧ c b = 5) w S D.l D.k D.m
  pB : P B
  cB : c B = 1
  ok : DOk D

section
variable {P Q T : Nat → Prop} {c : Nat → Nat} {w w' : World} {B S : Nat} {va vb vd : Value} {vs : List Value} {t : List UInt8} {D : DSt}
theorem DkRaw.lt (h : DkRaw P c w B S va vb vd vs t D) : B < w.heap.size := (Array.getElem?_eq_some_iff.1 h.blk).1
theorem DkRaw.grew (h : DkRaw P c w B S va vb vd vs t D) (hg : Grew T w w') (hT : ∀ b, P b → ¬ T b) : DkRaw P c w' B S va vb vd vs t D :=
  ⟨by rw [hg.block B h.lt (hT B h.pB)]; exact h.blk, h.a0, ownsF_kept h.buf fun g e => hg.block g (h.buf.lt g e).2 (hT g (h.bc g e).1), h.bnil, h.bc,
    owns_kept h.row fun g e => hg.block g (owns_lt h.row e).2 (hT g (h.rc g e).1), h.rc, fun i hi => by
      obtain ⟨v, e, hv⟩ := h.ds i hi
      exact ⟨v, e, hv.grew hg fun b hb => hT b hb.1⟩, h.st.grew hg fun b hb => hT b hb.1, h.pB, h.cB, h.ok⟩
theorem DkRaw.mono (h : DkRaw P c w B S va vb vd vs t D) (hPQ : ∀ b, b < w.heap.size → P b → Q b) : DkRaw Q c w B S va vb vd vs t D :=
  ⟨h.blk, h.a0, h.buf, h.bnil, fun g e => ⟨hPQ g (h.buf.lt g e).2 (h.bc g e).1, (h.bc g e).2⟩, h.row, fun g e => ⟨hPQ g (owns_lt h.row e).2 (h.rc g e).1, (h.rc g e).2⟩, fun i hi => by
      obtain ⟨v, e, hv⟩ := h.ds i hi
      exact ⟨v, e, hv.mono fun b hb hp => ⟨hPQ b hb hp.1, hp.2⟩⟩, h.st.mono fun b hb hp => ⟨hPQ b hb hp.1, hp.2⟩, hPQ B h.lt h.pB, h.cB, h.ok⟩
theorem DkRaw.c0 (h : DkRaw P c w B S va vb vd vs t D) : w.cell? ⟨B, 0, none⟩ = some va := by rw [Lib.cell_of_heap h.blk]; rfl
theorem DkRaw.c1 (h : DkRaw P c w B S va vb vd vs t D) : w.cell? ⟨B, 1, none⟩ = some vb := by rw [Lib.cell_of_heap h.blk]; rfl
theorem DkRaw.c2 (h : DkRaw P c w B S va vb vd vs t D) : w.cell? ⟨B, 2, none⟩ = some (.pointer (some ⟨S, 0, none⟩)) := by rw [Lib.cell_of_heap h.blk]; rfl
theorem DkRaw.c3 (h : DkRaw P c w B S va vb vd vs t D) : w.cell? ⟨B, 3, none⟩ = some vd := by rw [Lib.cell_of_heap h.blk]; rfl
theorem DkRaw.fr (h : DkRaw P c w B S va vb vd vs t D) (o : Nat) : w.frozen? ⟨B, o, none⟩ = false := Lib.frozen_of_heap h.blk o
theorem DkRaw.shape (h : DkRaw P c w B S va vb vd vs t D) : w.shape? B = some (57, 4) := by simp [World.shape?, h.blk]
theorem heap_set {w : World} {B o : Nat} {cs : Array Value} {T : TypeId} {fz : Nat × Nat} (h : w.heap[B]? = some (.cells cs T fz)) (v : Value) : (w.setCell ⟨B, o, none⟩ v).heap[B]? = some (.cells (cs.setIfInBounds o v) T fz) := by
  simp [World.setCell, Array.getElem?_modify, h]
/-- Blocks of another colour are not the desk's own. -/
theorem DkRaw.nb (h : DkRaw P c w B S va vb vd vs t D) {g n : Nat} (hn : n ≠ 1) (hg : P g ∧ c g = n) : g ≠ B := fun e => hn (by rw [← hg.2, e]; exact h.cB)
/-- A cell of the desk's own block is stored into: the builder's first one. -/
theorem DkRaw.set0 (h : DkRaw P c w B S va vb vd vs t D) {x : Value} (hx : x = .pointer none ∨ x = .pointer (some ⟨B, 0, none⟩)) : DkRaw P c (w.setCell ⟨B, 0, none⟩ x) B S x vb vd vs t D := by
  have hG : Grew (fun b => b = B) w (w.setCell ⟨B, 0, none⟩ x) := grew_cellC w B 0 x
  exact ⟨heap_set h.blk x, hx, ownsF_kept h.buf fun g e => hG.block g (h.buf.lt g e).2 (h.nb (by decide) (h.bc g e)), h.bnil, h.bc,
    owns_kept h.row fun g e => hG.block g (owns_lt h.row e).2 (h.nb (by decide) (h.rc g e)), h.rc, fun i hi => by
      obtain ⟨v, e, hv⟩ := h.ds i hi
      exact ⟨v, e, hv.grew hG fun b hb => h.nb (by decide) hb⟩, h.st.grew hG fun b hb => h.nb (by decide) hb, h.pB, h.cB, h.ok⟩
/-- What is told is laid anew, where it lay or in a new block. -/
theorem DkRaw.tell (h : DkRaw P c w B S va vb vd vs t D) {t' : List UInt8} {v : Value} (hg : w.grownBy w' vb.ownBlock) (ho : w'.ownsRowF 0 5 1 v t'.length (Lib.byteCells t')) (hat : ∀ g, v.ownBlock = some g → vb.ownBlock = some g ∨ w.heap.size ≤ g) (hn : t' = [] → v = .slice none 0 0) :
    DkRaw (fun b => P b ∨ w.heap.size ≤ b) (fun b => if b < w.heap.size then c b else 2) (w'.setCell ⟨B, 1, none⟩ v) B S va v vd vs t' D := by
  have hlt := h.lt
  have hG : Grew (fun b => vb.ownBlock = some b) w w' := ⟨hg.os, hg.tape, hg.output, hg.size, fun k hk hn => hg.block k hk (fun e => hn e.symm)⟩
  have hS : Grew (fun b => b = B) w' (w'.setCell ⟨B, 1, none⟩ v) := grew_cellC w' B 1 v
  have hGS : Grew (fun b => vb.ownBlock = some b ∨ b = B) w (w'.setCell ⟨B, 1, none⟩ v) := (hG.mono fun _ => .inl).trans (hS.mono fun _ => .inr)
  have hc2 : ∀ g n, n ≠ 2 → P g ∧ c g = n → vb.ownBlock ≠ some g := fun g n hn hp e => hn (by rw [← hp.2]; exact (h.bc g e).2)
  have hcol : ∀ g n, n ≠ 1 → n ≠ 2 → P g ∧ c g = n → ¬ (vb.ownBlock = some g ∨ g = B) := fun g n h1 h2 hp e => e.elim (hc2 g n h2 hp) (h.nb h1 hp)
  have hvc : ∀ g, v.ownBlock = some g → (P g ∨ w.heap.size ≤ g) ∧ (if g < w.heap.size then c g else 2) = 2 := fun g e => by
    rcases hat g e with e' | e'
    · have := h.bc g e'
      rw [if_pos (h.buf.lt g e').2]
      exact ⟨.inl this.1, this.2⟩
    · rw [if_neg (by omega)]; exact ⟨.inr e', rfl⟩
  have hbB : w'.heap[B]? = some (.cells #[va, vb, .pointer (some ⟨S, 0, none⟩), vd] 57 (0, 0)) := by
    rw [hG.block B hlt (fun e => by have := (h.bc B e).2; have := h.cB; omega)]; exact h.blk
  refine ⟨heap_set hbB v, h.a0, ownsF_kept ho fun g e => hS.block g (ho.lt g e).2 fun e' => ?_, hn, hvc, owns_kept h.row fun g e => hGS.block g (owns_lt h.row e).2 (hcol g 3 (by decide) (by decide) (h.rc g e)), fun g e => ?_, fun i hi => ?_, ?_, .inl h.pB, ?_, h.ok⟩
  · have := (hvc g e).2
    rw [e', if_pos hlt, h.cB] at this
    exact absurd this (by decide)
  · have := h.rc g e
    rw [if_pos (owns_lt h.row e).2]
    exact ⟨.inl this.1, this.2⟩
  · obtain ⟨u, e, hv⟩ := h.ds i hi
    refine ⟨u, e, ((hv.mono (Q := fun b => (P b ∧ c b = 4) ∧ b < w.heap.size) fun b hb hp => ⟨hp, hb⟩).grew hGS fun b hb => hcol b 4 (by decide) (by decide) hb.1).mono fun b _ hb => ⟨.inl hb.1.1, ?_⟩⟩
    rw [if_pos hb.2]; exact hb.1.2
  · refine ((h.st.mono (Q := fun b => (P b ∧ c b = 5) ∧ b < w.heap.size) fun b hb hp => ⟨hp, hb⟩).grew hGS fun b hb => hcol b 5 (by decide) (by decide) hb.1).mono fun b _ hb => ⟨.inl hb.1.1, ?_⟩
    rw [if_pos hb.2]; exact hb.1.2
  · rw [if_pos hlt]; exact h.cB
/-- The store has changed. -/
theorem DkRaw.store (h : DkRaw P c w B S va vb vd vs t D) {l : List (List (List Op5))} {k m : Nat} (hg : Grew (fun b => P b ∧ c b = 5) w w') (hs : StAt (fun b => (P b ∧ c b = 5) ∨ w.heap.size ≤ b) w' S l k m) (h64 : L64 l) :
    DkRaw (fun b => P b ∨ w.heap.size ≤ b) (fun b => if b < w.heap.size then c b else 5) w' B S va vb vd vs t ⟨D.r, l, k, m⟩ := by
  have hlt := h.lt
  have hcol : ∀ g n, n ≠ 5 → P g ∧ c g = n → ¬ (P g ∧ c g = 5) := fun g n hn hp e => hn (hp.2.symm.trans e.2)
  refine ⟨by rw [hg.block B hlt (hcol B 1 (by decide) ⟨h.pB, h.cB⟩)]; exact h.blk, h.a0, ownsF_kept h.buf fun g e => hg.block g (h.buf.lt g e).2 (hcol g 2 (by decide) (h.bc g e)), h.bnil, fun g e => ?_,
    owns_kept h.row fun g e => hg.block g (owns_lt h.row e).2 (hcol g 3 (by decide) (h.rc g e)), fun g e => ?_, fun i hi => ?_, hs.mono fun b hb hp => ?_, .inl h.pB, ?_, ⟨h64, h.ok.few, h.ok.good, h.ok.d64⟩⟩
  · have := h.bc g e
    rw [if_pos (h.buf.lt g e).2]
    exact ⟨.inl this.1, this.2⟩
  · have := h.rc g e
    rw [if_pos (owns_lt h.row e).2]
    exact ⟨.inl this.1, this.2⟩
  · obtain ⟨u, e, hv⟩ := h.ds i hi
    refine ⟨u, e, ((hv.mono (Q := fun b => (P b ∧ c b = 4) ∧ b < w.heap.size) fun b hb hp => ⟨hp, hb⟩).grew hg fun b hb => hcol b 4 (by decide) hb.1).mono fun b _ hb => ⟨.inl hb.1.1, ?_⟩⟩
    rw [if_pos hb.2]; exact hb.1.2
  · rcases hp with hp | hp
    · by_cases hb' : b < w.heap.size
      · rw [if_pos hb']; exact ⟨.inl hp.1, hp.2⟩
      · rw [if_neg hb']; exact ⟨.inr (by omega), rfl⟩
    · rw [if_neg (by omega)]; exact ⟨.inr hp, rfl⟩
  · rw [if_pos hlt]; exact h.cB
/-- The deeds are gone. -/
theorem DkRaw.emptied (h : DkRaw P c w B S va vb vd vs t D) : DkRaw P c (w.setCell ⟨B, 3, none⟩ (.slice none 0 0)) B S va vb (.slice none 0 0) [] t ⟨[], D.l, D.k, D.m⟩ := by
  have hG : Grew (fun b => b = B) w (w.setCell ⟨B, 3, none⟩ (.slice none 0 0)) := grew_cellC w B 3 _
  exact ⟨heap_set h.blk _, h.a0, ownsF_kept h.buf fun g e => hG.block g (h.buf.lt g e).2 (h.nb (by decide) (h.bc g e)), h.bnil, h.bc,
    World.ownsRow_nil _ _ _ _, fun g e => (by cases e), fun i hi => absurd hi (Nat.not_lt_zero _), h.st.grew hG fun b hb => h.nb (by decide) hb, h.pB, h.cB, ⟨h.ok.l64, Nat.zero_le _, fun d hd => (List.not_mem_nil hd).elim, r64_nil⟩⟩
/-- A deed more, that lies in new memory; w1: behind its making, w2: behind the append. -/
theorem DkRaw.deed (h : DkRaw P c w B S va vb vd vs t D) {w1 w2 : World} {d : List Op5} {u v : Value} (hb : Below w.heap.size w w1) (hu : DeedIn (fun b => w.heap.size ≤ b) w1 u d) (hg : w1.grownBy w2 vd.ownBlock) (ho : w2.ownsRow 0 85 1 v (D.r.length + 1) (vs ++ [u])) (hat : v.ownBlock = vd.ownBlock ∨ v.ownBlock = some w1.heap.size)
    (hf : D.r.length ≤ 8) (hc : (checkF d).1 = 0) (h64 : D64 d) :
    DkRaw (fun b => P b ∨ w.heap.size ≤ b) (fun b => if b < w.heap.size then c b else if b < w1.heap.size then 4 else 3) (w2.setCell ⟨B, 3, none⟩ v) B S va vb v (vs ++ [u]) t ⟨D.r ++ [d], D.l, D.k, D.m⟩ := by
  have hlt := h.lt
  have hz := hb.size
  have hG1 : Grew (fun b => vd.ownBlock = some b) w1 w2 := ⟨hg.os, hg.tape, hg.output, hg.size, fun k hk hn => hg.block k hk (fun e => hn e.symm)⟩
  have hS : Grew (fun b => b = B) w2 (w2.setCell ⟨B, 3, none⟩ v) := grew_cellC w2 B 3 v
  have hG12 : Grew (fun b => vd.ownBlock = some b) w w2 := (Grew.of_below hb).trans hG1
  have hGS : Grew (fun b => vd.ownBlock = some b ∨ b = B) w (w2.setCell ⟨B, 3, none⟩ v) := (hG12.mono fun _ => .inl).trans (hS.mono fun _ => .inr)
  have hG1S : Grew (fun b => vd.ownBlock = some b ∨ b = B) w1 (w2.setCell ⟨B, 3, none⟩ v) := (hG1.mono fun _ => .inl).trans (hS.mono fun _ => .inr)
  have hcol : ∀ g n, n ≠ 1 → n ≠ 3 → P g ∧ c g = n → ¬ (vd.ownBlock = some g ∨ g = B) := fun g n h1 h3 hp e => e.elim (fun e => h3 (by rw [← hp.2]; exact (h.rc g e).2)) (h.nb h1 hp)
  have hvc : ∀ g, v.ownBlock = some g → (P g ∨ w.heap.size ≤ g) ∧ (if g < w.heap.size then c g else if g < w1.heap.size then 4 else 3) = 3 := fun g e => by
    rcases hat with e' | e'
    · have e2 : vd.ownBlock = some g := by rw [← e']; exact e
      have := h.rc g e2
      rw [if_pos (owns_lt h.row e2).2]
      exact ⟨.inl this.1, this.2⟩
    · have : g = w1.heap.size := by rw [e'] at e; injection e with e; exact e.symm
      rw [if_neg (by omega), if_neg (by omega)]; exact ⟨.inr (by omega), rfl⟩
  have hbB : w2.heap[B]? = some (.cells #[va, vb, .pointer (some ⟨S, 0, none⟩), vd] 57 (0, 0)) := by
    rw [hG12.block B hlt (fun e => by have := (h.rc B e).2; have := h.cB; omega)]; exact h.blk
  have hlen : (D.r ++ [d]).length = D.r.length + 1 := by simp
  have hvl : vs.length = D.r.length := by have := h.row.1; omega
  refine ⟨heap_set hbB v, h.a0, ownsF_kept h.buf fun g e => hGS.block g (h.buf.lt g e).2 (hcol g 2 (by decide) (by decide) (h.bc g e)), h.bnil, fun g e => ?_, ?_, hvc, fun i hi => ?_, ?_, .inl h.pB, ?_, ⟨h.ok.l64, ?_, fun x hx => ?_, fun x hx => ?_⟩⟩
  · have := h.bc g e
    rw [if_pos (h.buf.lt g e).2]
    exact ⟨.inl this.1, this.2⟩
  · show (w2.setCell _ v).ownsRow 0 85 1 v (D.r ++ [d]).length (vs ++ [u])
    rw [hlen]
    refine owns_kept ho fun g e => hS.block g (owns_lt ho e).2 fun e' => ?_
    have := (hvc g e).2
    rw [e', if_pos hlt, h.cB] at this
    exact absurd this (by decide)
  · rw [hlen] at hi
    by_cases hi' : i < D.r.length
    · obtain ⟨x, e, hv⟩ := h.ds i hi'
      refine ⟨x, by rw [List.getElem?_append_left (by omega)]; exact e, ?_⟩
      simp only [List.getElem_append_left hi']
      refine ((hv.mono (Q := fun b => (P b ∧ c b = 4) ∧ b < w.heap.size) fun b hb hp => ⟨hp, hb⟩).grew hGS fun b hb => hcol b 4 (by decide) (by decide) hb.1).mono fun b _ hb => ⟨.inl hb.1.1, ?_⟩
      rw [if_pos hb.2]; exact hb.1.2
    · obtain rfl : i = D.r.length := by omega
      refine ⟨u, by rw [List.getElem?_append_right (by omega)]; simp [hvl], ?_⟩
      simp only [List.getElem_append_right (Nat.le_refl _), Nat.sub_self, List.getElem_cons_zero]
      refine ((hu.mono (Q := fun b => w.heap.size ≤ b ∧ b < w1.heap.size) fun b hb hp => ⟨hp, hb⟩).grew hG1S fun b hb e => ?_).mono fun b _ hb => ⟨.inr hb.1, ?_⟩
      · rcases e with e | e
        · have := (owns_lt h.row e).2; omega
        · omega
      · rw [if_neg (by omega), if_pos hb.2]
  · refine ((h.st.mono (Q := fun b => (P b ∧ c b = 5) ∧ b < w.heap.size) fun b hb hp => ⟨hp, hb⟩).grew hGS fun b hb => hcol b 5 (by decide) (by decide) hb.1).mono fun b _ hb => ⟨.inl hb.1.1, ?_⟩
    rw [if_pos hb.2]; exact hb.1.2
  · rw [if_pos hlt]; exact h.cB
  · simp; omega
  · rcases List.mem_append.1 hx with hx | hx
    · exact h.ok.good x hx
    · obtain rfl : x = d := by simpa using hx
      exact hc
  · rcases List.mem_append.1 hx with hx | hx
    · exact h.ok.d64 x hx
    · obtain rfl : x = d := by simpa using hx
      exact h64
/-- The deeds as a round. -/
theorem DkRaw.round (h : DkRaw P c w B S va vb vd vs t D) : RoundAt w vd D.r := by
  obtain ⟨a, cap, rfl, -⟩ := owns_slice h.row
  refine ⟨a, cap, rfl, fun i hi => ?_⟩
  obtain ⟨g, cap', e1, hcell⟩ := owns_cells h.row (by omega)
  injection e1 with e1 e2 e3
  subst e1
  obtain ⟨u, e, hv⟩ := h.ds i hi
  refine ⟨g, 0, rfl, u, ?_, hv.at⟩
  have := hcell i u e
  simpa using this
end

/-- A desk, in blocks of which something is known. -/
def DeskAt (P : Nat → Prop) (w : World) (B : Nat) (t : List UInt8) (D : DSt) : Prop := ∃ c S va vb vd vs, DkRaw P c w B S va vb vd vs t D
section
variable {P Q T : Nat → Prop} {w w' : World} {B : Nat} {t : List UInt8} {D : DSt}
theorem DeskAt.grew (h : DeskAt P w B t D) (hg : Grew T w w') (hT : ∀ b, P b → ¬ T b) : DeskAt P w' B t D := by
  obtain ⟨c, S, va, vb, vd, vs, h⟩ := h
  exact ⟨c, S, va, vb, vd, vs, h.grew hg hT⟩
theorem DeskAt.later (h : DeskAt P w B t D) (hb : Below w.heap.size w w') : DeskAt P w' B t D := h.grew (T := fun _ => False) (Grew.of_below hb) (fun _ _ h => h)
theorem DeskAt.mono (h : DeskAt P w B t D) (hPQ : ∀ b, b < w.heap.size → P b → Q b) : DeskAt Q w B t D := by
  obtain ⟨c, S, va, vb, vd, vs, h⟩ := h
  exact ⟨c, S, va, vb, vd, vs, h.mono hPQ⟩
theorem DeskAt.ok (h : DeskAt P w B t D) : DOk D := by
  obtain ⟨c, S, va, vb, vd, vs, h⟩ := h
  exact h.ok
theorem DeskAt.log (h : DeskAt P w B t D) : LogOk D.l D.k ∧ D.m ≤ D.k := by
  obtain ⟨c, S, va, vb, vd, vs, h⟩ := h
  exact ⟨h.st.ok, h.st.le⟩
theorem DeskAt.lt (h : DeskAt P w B t D) : B < w.heap.size ∧ P B := by
  obtain ⟨c, S, va, vb, vd, vs, h⟩ := h
  exact ⟨h.lt, h.pB⟩
/-- A desk whose blocks are no more than those that there are. -/
theorem DeskAt.here (h : DeskAt P w B t D) : DeskAt (fun b => P b ∧ b < w.heap.size) w B t D := h.mono fun _b hb hp => ⟨hp, hb⟩
end

/-- The package variables hold what they should, apart from blocks of a kind. -/
def EnvP (P : Nat → Prop) (w : World) : Prop := ∃ w0, Env w0 ∧ Below w0.heap.size w0 w ∧ ∀ b, P b → w0.heap.size ≤ b
theorem EnvP.env {P : Nat → Prop} {w : World} (h : EnvP P w) : Env w := by
  obtain ⟨w0, h0, hb, -⟩ := h
  exact h0.later hb
theorem EnvP.grew {P : Nat → Prop} {w w' : World} (h : EnvP P w) (hg : Grew P w w') : EnvP (fun b => P b ∨ w.heap.size ≤ b) w' := by
  obtain ⟨w0, h0, hb, hP⟩ := h
  exact ⟨w0, h0, hg.below hb hb.size hP, fun b hb' => hb'.elim (hP b) fun hb' => Nat.le_trans hb.size hb'⟩
theorem EnvP.later {P : Nat → Prop} {w w' : World} (h : EnvP P w) (hb : Below w.heap.size w w') : EnvP P w' := by
  obtain ⟨w0, h0, hb0, hP⟩ := h
  exact ⟨w0, h0, hb0.trans (hb.mono hb0.size), hP⟩
theorem EnvP.mono {P Q : Nat → Prop} {w : World} (h : EnvP P w) (hQ : ∀ b, Q b → P b) : EnvP Q w := by
  obtain ⟨w0, h0, hb0, hP⟩ := h
  exact ⟨w0, h0, hb0, fun b hb => hP b (hQ b hb)⟩
theorem EnvP.lim {P : Nat → Prop} {w : World} (h : EnvP P w) : ¬ P 4 := fun hp => by
  obtain ⟨w0, h0, -, hP⟩ := h
  have := h0.lim.pos
  have := hP _ hp
  omega
/-- Two calls, one behind the other. -/
theorem grew_then {P : Nat → Prop} {a b c : World} (h : Grew P a b) (k : Grew (fun x => P x ∨ a.heap.size ≤ x) b c) : Grew P a c :=
  ⟨k.os.trans h.os, k.tape.trans h.tape, k.output.trans h.output, Nat.le_trans h.size k.size, fun i hi hn => (k.block i (Nat.lt_of_lt_of_le hi h.size) (fun e => e.elim hn fun e => by omega)).trans (h.block i hi hn)⟩
end Go.Proofs.YtehkjbpgibdgpadGreatDoor
namespace Go.Proofs.YtehkjbpgibdgpadGreatDoor
open Go.RowKit

theorem liesDk : liesAt Tryz.prog Tryz.prog.depth 57 (4 / Tryz.prog.cellsOf 57) 0 55 1 = true := by kernel_rfl

set_option maxRecDepth 100000 in
set_option maxHeartbeats 1000000 in
theorem copyCheckD_fresh (b : Nat) (w : World) (h0 : w.cell? ⟨b, 0, none⟩ = some (.pointer none)) (hsh : w.shape? b = some (57, 4)) (hfz : w.frozen? ⟨b, 0, none⟩ = false) :
    Calls Tryz.prog 89 #[.pointer (some ⟨b, 0, none⟩)] w fun e w' => e = .returned (.tuple #[]) ∧ w' = w.setCell ⟨b, 0, none⟩ (.pointer (some ⟨b, 0, none⟩)) := by
  obtain ⟨j, hj, hjs⟩ := Option.map_eq_some_iff.1 sizeBd
  go_enter Tryz.func89, Tryz.ntmps89
  go_wp2
  rw [Lib.run_to_unsafe w ⟨b, 0, none⟩ Tryz.underlying52 Tryz.underlying167 hj (by rw [hjs]; decide) hsh (Nat.zero_lt_succ 3)]
  simp only [Result.andThen]
  rw [Oper.upon_value]
  go_wp2
  rw [run_callFunc_extern Tryz.func123 (by kernel_rfl) (by kernel_rfl) (by kernel_rfl) (e := Extern.AbiNoEscape.same) (by kernel_rfl), Lib.run_noEscape]
  simp only [Result.andThen]
  rw [Oper.upon_value]
  go_wp2
  rw [Lib.run_from_unsafe w ⟨b, 0, none⟩ Tryz.underlying167 Tryz.underlying52 hj hsh liesDk]
  simp only [Result.andThen]
  rw [Oper.upon_value]
  go_wp2
  go_end0
  exact ⟨rfl, rfl⟩

/-- Where what a string was appended to lies: where it lay, or in a new block. -/
theorem append_str_at (w : World) (t u ty e : TypeId) (i : TypeInfo) (ht : Tryz.prog.underlying t = some (.slice e)) (hu : Tryz.prog.underlying u = some .string) (hi : Tryz.prog.info? e = some i) (hz : i.zero = some (.int .u8 0)) (hsize : i.size = 1) (hby : i.bytes = 1)
    (v : Value) (n : Nat) (xs : List Value) (hown : w.ownsRowF 0 e 1 v n xs) (s : ByteArray) (h63 : n + s.size ≤ maxLen) (hbytes : n + s.size ≤ 140737488355328) :
    ∃ v' w', (Builtin.append_ #[t, u] ty #[v, .string s]).run Tryz.prog w = .ok v' w' ∧ ∀ g, v'.ownBlock = some g → v.ownBlock = some g ∨ w.heap.size ≤ g := by
  rcases hown.2 with ⟨rfl, rfl⟩ | ⟨g, cap, cur, fz, rfl, -, hg, hfz, hnc, -, hcs, -⟩
  · obtain ⟨v', w', h1, h2, -, -⟩ := Lib.run_append_own_string (P := Tryz.prog) w w.heap.size t u ty e i ht hu hi hz hsize hby (.slice none 0 0) 0 xs ⟨hown.1, .inl ⟨rfl, rfl⟩⟩ s h63 hbytes (Nat.le_refl _)
    exact ⟨v', w', h1, fun k hk => .inr (owns_lt h2 hk).1⟩
  · have hxl : xs.length = n := by simpa using hown.1
    by_cases hroom : n + s.size ≤ cap
    · have hcs' : cur.size = cap := by simpa using hcs
      exact ⟨_, _, Lib.run_append_room_stringF (P := Tryz.prog) w t u ty e i ht hu hi hsize g n cap cur fz hg (by simpa using hfz) s hroom (by omega), fun k hk => .inl hk⟩
    · refine ⟨_, _, Lib.run_append_grow_string (P := Tryz.prog) w t u ty e i (.int .u8 0) ht hu hi hz ⟨g, 0, none⟩ n cap xs (by rw [hsize]; simpa using hxl) (hown.cells (g := g) rfl) s (by omega) (by simp only [maxLen] at h63; omega) (by rw [hby]; exact growslice_fits (by omega) (by omega)), fun k hk => .inr ?_⟩
      simp only [Value.ownBlock, Option.some.injEq] at hk
      omega
theorem wpList_append_strD {w : World} {ops : Array Oper} {rest : List Oper} {o : Oper} {a : Act} {Q : Exit → Act → World → Prop} (hgd : o.guard = none) (sl x : Operand) (t u : TypeId)
    (ho : o.op = .call { callee := .builtin .append, args := #[sl, x], argTypes := #[t, u] })
    (e : TypeId) (i : TypeInfo) (ht : Tryz.prog.underlying t = some (.slice e)) (hu : Tryz.prog.underlying u = some .string) (hi : Tryz.prog.info? e = some i) (hz : i.zero = some (.int .u8 0)) (hsize : i.size = 1) (hby : i.bytes = 1)
    (v : Value) (n : Nat) (xs : List Value) (hs : a.eval sl = v) (hown : w.ownsRowF 0 e 1 v n xs) (s : ByteArray) (hx : a.eval x = .string s) (h63 : n + s.size ≤ maxLen) (hbytes : n + s.size ≤ 140737488355328)
    (h : ∀ v' w', w'.ownsRowF 0 e 1 v' (n + s.size) (xs ++ Lib.strCells s) → w.grownBy w' v.ownBlock → (v' = .slice none 0 0 ↔ v = .slice none 0 0 ∧ s.size = 0) → (∀ g, v'.ownBlock = some g → v.ownBlock = some g ∨ w.heap.size ≤ g) → wpList Tryz.prog ops Q rest (a.put o.dst v') w') : wpList Tryz.prog ops Q (o :: rest) a w := by
  refine wpList_plain hgd fun K hK => ?_
  obtain ⟨v', w', hr, h2, h3, h4⟩ := Lib.run_append_own_stringF (P := Tryz.prog) w 0 t u o.type e i ht hu hi hz hsize hby v n xs hown s h63 hbytes (Nat.zero_le _)
  obtain ⟨v'', w'', hr', hat⟩ := append_str_at w t u o.type e i ht hu hi hz hsize hby v n xs hown s h63 hbytes
  rw [hr] at hr'
  injection hr' with e1 e2
  subst e1 e2
  unfold Oper.wp
  simp only [execOp, ho, resolve, invoke, builtin, Sem.run_bind, Sem.run_pure, Result.andThen_ok, List.map_toArray, List.map_cons, List.map_nil, hs, hx, hr]
  exact hK _ _ (h v' w' h2 h3 h4 hat)

section
variable {P : Nat → Prop} {w : World} {B : Nat} {t : List UInt8} {D : DSt}

set_option maxRecDepth 100000 in
set_option maxHeartbeats 2000000 in
theorem writeD_any (h : DeskAt P w B t D) (m : List UInt8) (hlen : t.length + m.length ≤ 140737488355328) :
    Calls Tryz.prog 66 #[.pointer (some ⟨B, 0, none⟩), .string (strB m)] w fun e w' => (∃ v, e = .returned v) ∧ DeskAt (fun b => P b ∨ w.heap.size ≤ b) w' B (t ++ m) D ∧ Grew P w w' := by
  obtain ⟨i0, hi, hz0, hz1, hz2⟩ := info_parts infoBy
  obtain ⟨c, S, va, vb, vd, vs, h⟩ := h
  have hcc : Calls Tryz.prog 89 #[.pointer (some ⟨B, 0, none⟩)] w fun e w' => e = .returned (.tuple #[]) ∧ DkRaw P c w' B S (.pointer (some ⟨B, 0, none⟩)) vb vd vs t D ∧ Grew P w w' ∧ w'.heap.size = w.heap.size := by
    rcases h.a0 with rfl | rfl
    · refine (copyCheckD_fresh B w h.c0 h.shape (h.fr 0)).mono ?_
      rintro e w' ⟨rfl, rfl⟩
      exact ⟨rfl, h.set0 (.inr rfl), grew_set w h.pB 0 _, by simp⟩
    · refine (copyCheck_used B w h.c0).mono ?_
      rintro e w' ⟨rfl, rfl⟩
      exact ⟨rfl, h, Grew.refl _ _, rfl⟩
  have hS : (strB m).size = m.length := rfl
  clear h
  go_enter Tryz.func66, Tryz.ntmps66
  go_wp2_with fail
  refine hcc.mono ?_
  rintro e w1 ⟨rfl, h1, hg1, hsz1⟩
  clear hcc
  have hlt := h1.lt
  have c1 := h1.c1
  have HR : Hid (DkRaw P c w1 B S (.pointer (some ⟨B, 0, none⟩)) vb vd vs t D) := h1
  clear h1
  go_wp2_with (at_builtin; refine wpList_append_strD rfl _ _ 53 9 rfl 5 i0 Tryz.underlying53 Tryz.underlying9 hi hz0 hz1 hz2 _ _ _ rfl HR.out.buf (strB m) rfl (by unfold maxLen; omega) (by omega) ?_)
  intro v' w2 hown' hgrow hnil hat
  have hG2 : Grew (fun b => vb.ownBlock = some b) w1 w2 := ⟨hgrow.os, hgrow.tape, hgrow.output, hgrow.size, fun k hk hn => hgrow.block k hk (fun e => hn e.symm)⟩
  have hnB : ¬ vb.ownBlock = some B := fun e => by have := (HR.out.bc B e).2; have := HR.out.cB; omega
  have d1 : w2.cell? ⟨B, 1, none⟩ = some vb := hG2.cell HR.out.c1 hnB
  have f1 : w2.frozen? ⟨B, 1, none⟩ = false := by rw [hG2.frozen (p := ⟨B, 1, none⟩) hlt hnB]; exact HR.out.fr 1
  obtain ⟨ao, n', cap, rfl⟩ : ∃ ao n' cap, v' = .slice ao n' cap := by
    rcases hown'.2 with ⟨hv, _⟩ | ⟨g, cap, cur, fz, hv, _⟩
    · exact ⟨_, _, _, hv⟩
    · exact ⟨_, _, _, hv⟩
  have hE : Hid (DeskAt (fun b => P b ∨ w.heap.size ≤ b) (w2.setCell ⟨B, 1, none⟩ (.slice ao n' cap)) B (t ++ m) D) := by
    have h2 := HR.out.tell (t' := t ++ m) hgrow (by
      have h1 := hown'
      rw [strCells_eq, ← Lib.byteCells_append] at h1
      rw [List.length_append]
      exact h1) (by rw [hsz1]; exact hat) (fun e => by
      obtain ⟨e1, e2⟩ := List.append_eq_nil_iff.1 e
      exact hnil.2 ⟨HR.out.bnil e1, e2⟩)
    rw [hsz1] at h2
    exact ⟨_, _, _, _, _, _, h2⟩
  have hF : Hid (Grew P w (w2.setCell ⟨B, 1, none⟩ (.slice ao n' cap))) := (hg1.trans (hG2.mono fun b e => (HR.out.bc b e).1)).trans (grew_set w2 HR.out.pB 1 _)
  clear hown' hgrow hnil hat hG2 HR c1 hnB
  go_wp2_with fail
  go_ret2
  exact ⟨⟨_, rfl⟩, hE.out, hF.out⟩

theorem grew_freeze {S : Nat → Prop} {w : World} {p : Addr} (hp : S p.block) (n : Nat) : Grew S w (w.freeze p n) := by
  unfold World.freeze
  split
  · exact Grew.refl _ _
  · exact ⟨rfl, rfl, rfl, by simp, fun k hk hn => by
      simp only [Array.getElem?_modify]
      rw [if_neg (fun e => hn (by rw [← e]; exact hp))]⟩

set_option maxHeartbeats 2000000 in
set_option maxRecDepth 100000 in
/-- What is told; the desk's block is as it was, what it told may not be written any more. -/
theorem stringD_any {c : Nat → Nat} {S : Nat} {va vb vd : Value} {vs : List Value} (h : DkRaw P c w B S va vb vd vs t D) :
    Calls Tryz.prog 14 #[.pointer (some ⟨B, 0, none⟩)] w fun e w' => e = .returned (.string (strB t)) ∧ Grew (fun b => vb.ownBlock = some b) w w' := by
  have c1 : w.drew.cell? ⟨B, 1, none⟩ = some vb := h.c1
  by_cases h0 : t = []
  · obtain rfl := h.bnil h0
    subst h0
    have hUS := fun W => Lib.run_unsafeString_none (P := Tryz.prog) W 83 3 9 none
    have hSD : (Builtin.unsafeSliceData_ #[53] 83 #[.slice none 0 0]).run Tryz.prog w.drew = .ok (.pointer none) w.drew := rfl
    clear h
    go_enter Tryz.func14, Tryz.ntmps14
    go_wp2
    go_region
    all_goals (go_wp2; go_ret; exact ⟨rfl, (Grew.refl _ _).drew⟩)
  · have hl0 : t.length ≠ 0 := by simpa using h0
    have hown := h.buf
    obtain ⟨g, cap, cur, fz, rfl, -, hg, hfz, hnc, hcm, hcs, htake⟩ : ∃ g cap cur fz, vb = .slice (some ⟨g, 0, none⟩) t.length cap ∧ 0 ≤ g ∧ w.heap[g]? = some (.cells cur 5 fz) ∧ fz.2 ≤ t.length * 1 ∧ t.length ≤ cap ∧ cap ≤ maxLen ∧ cur.size = cap * 1 ∧ cur.toList.take (t.length * 1) = Lib.byteCells t := by
      rcases hown.2 with ⟨_, hz⟩ | ⟨g, cap, cur, fz, hv, r⟩
      · exact absurd hz hl0
      · exact ⟨g, cap, cur, fz, hv, r⟩
    have hSD : (Builtin.unsafeSliceData_ #[53] 83 #[.slice (some ⟨g, 0, none⟩) t.length cap]).run Tryz.prog w.drew = .ok (.pointer (some ⟨g, 0, none⟩)) w.drew := Lib.run_unsafeSliceData_row _ _ _ _ _ _ (by omega)
    have hUS : (Builtin.unsafeString_ #[83, 3] 9 #[.pointer (some ⟨g, 0, none⟩), .int .i64 t.length]).run Tryz.prog w.drew = .ok (.string ⟨t.toArray⟩) (w.drew.freeze ⟨g, 0, none⟩ t.length) := by
      refine Lib.run_unsafeString_row w.drew 83 3 9 5 Tryz.underlying83 (by kernel_rfl) g cur.size (by have hg' : w.drew.heap[g]? = some (.cells cur 5 fz) := hg; simp [World.shape?, hg']) t h0 (by omega) (by unfold maxLen at hcm; omega) ?_
      intro j x hx
      exact hown.cells (g := g) rfl j (.int .u8 x.toNat) (by simp [Lib.byteCells, hx])
    have hG : Hid (Grew (fun b => (Value.slice (some ⟨g, 0, none⟩) t.length cap).ownBlock = some b) w (w.drew.freeze ⟨g, 0, none⟩ t.length)) := (Grew.refl _ _).drew.trans (grew_freeze (S := fun b => (Value.slice (some ⟨g, 0, none⟩) t.length cap).ownBlock = some b) (p := ⟨g, 0, none⟩) rfl _)
    clear h hown htake hcs
    go_enter Tryz.func14, Tryz.ntmps14
    go_wp2
    go_region
    all_goals (go_wp2; go_ret; exact ⟨rfl, hG.out⟩)

set_option maxHeartbeats 1000000 in
theorem resetD_any (_hlt : B < w.heap.size) {va vb : Value} (c0 : w.cell? ⟨B, 0, none⟩ = some va) (c1 : w.cell? ⟨B, 1, none⟩ = some vb) (f0 : w.frozen? ⟨B, 0, none⟩ = false) (f1 : w.frozen? ⟨B, 1, none⟩ = false) :
    Calls Tryz.prog 15 #[.pointer (some ⟨B, 0, none⟩)] w fun e w' => e = .returned (.tuple #[]) ∧ w' = (w.setCell ⟨B, 0, none⟩ (.pointer none)).setCell ⟨B, 1, none⟩ (.slice none 0 0) := by
  go_enter Tryz.func15, Tryz.ntmps15
  go_wp2
  go_end0
  exact ⟨rfl, rfl⟩
/-- Behind String and Reset there is nothing told. -/
theorem DkRaw.reset {c : Nat → Nat} {S : Nat} {va vb vd : Value} {vs : List Value} (h : DkRaw P c w B S va vb vd vs t D) {w1 : World} (hg : Grew (fun b => vb.ownBlock = some b) w w1) : DkRaw P c ((w1.setCell ⟨B, 0, none⟩ (.pointer none)).setCell ⟨B, 1, none⟩ (.slice none 0 0)) B S (.pointer none) (.slice none 0 0) vd vs [] D := by
  have hlt := h.lt
  have hG : Grew (fun b => vb.ownBlock = some b ∨ b = B) w ((w1.setCell ⟨B, 0, none⟩ (.pointer none)).setCell ⟨B, 1, none⟩ (.slice none 0 0)) := ((hg.mono fun _ => .inl).trans ((grew_cellC w1 B 0 _).mono fun _ => .inr)).trans ((grew_cellC _ B 1 _).mono fun _ => .inr)
  have hcol : ∀ g n, n ≠ 1 → n ≠ 2 → P g ∧ c g = n → ¬ (vb.ownBlock = some g ∨ g = B) := fun g n h1 h2 hp e => e.elim (fun e => h2 (by rw [← hp.2]; exact (h.bc g e).2)) (h.nb h1 hp)
  have hbB : w1.heap[B]? = some (.cells #[va, vb, .pointer (some ⟨S, 0, none⟩), vd] 57 (0, 0)) := by
    rw [hg.block B hlt (fun e => by have := (h.bc B e).2; have := h.cB; omega)]; exact h.blk
  refine ⟨heap_set (heap_set hbB _) _, .inl rfl, World.ownsRowF_nil _ _ _ _, fun _ => rfl, fun g e => (by cases e), owns_kept h.row fun g e => hG.block g (owns_lt h.row e).2 (hcol g 3 (by decide) (by decide) (h.rc g e)), h.rc, fun i hi => ?_, h.st.grew hG fun b hb => hcol b 5 (by decide) (by decide) hb, h.pB, h.cB, h.ok⟩
  obtain ⟨u, e, hv⟩ := h.ds i hi
  exact ⟨u, e, hv.grew hG fun b hb => hcol b 4 (by decide) (by decide) hb⟩
end
end Go.Proofs.YtehkjbpgibdgpadGreatDoor
