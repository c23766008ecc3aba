/-
  Deeds as texts, and texts as deeds, on lists of bytes; there and back. Nothing of the program's text is imported here.
-/
import Derived.Test.YtdohockbmphhfacDoorMath
import Derived.Test.YtdohockbmphhfacDoorTxA
namespace Go.Proofs.YtdohockbmphhfacDoor

/-- The word of a kind. -/
def wordK : Nat → List UInt8
  | 1 => [110, 117, 109]
  | 2 => [108, 111, 97, 100]
  | 3 => [97, 100, 100]
  | 4 => [115, 117, 98]
  | 5 => [109, 117, 108]
  | 6 => [108, 101, 115, 115]
  | 7 => [115, 116, 111, 114, 101]
  | 8 => [115, 116, 111, 112]
  | 9 => [115, 107, 105, 112]
  | _ => []
/-- How many numbers stand behind it. -/
def manyK : Nat → Nat
  | 1 => 2 | 2 => 2 | 3 => 3 | 4 => 3 | 5 => 3 | 6 => 3 | 7 => 2 | 8 => 1 | 9 => 2
  | _ => 0

/-- The kind from k on whose word it is; 0: there is none. -/
def kindFrom (w : List UInt8) : Nat → Nat → Nat
  | 0, _ => 0
  | g + 1, k => if wordK k = w then k else kindFrom w g (k + 1)
def kindF (w : List UInt8) : Nat := kindFrom w 9 1

theorem kindF_range (w : List UInt8) : kindF w ≤ 9 := by
  simp only [kindF, kindFrom]
  repeat' split
  all_goals omega
theorem kindF_word {w : List UInt8} (h : kindF w ≠ 0) : wordK (kindF w) = w := by
  revert h
  simp only [kindF, kindFrom]
  repeat' split
  all_goals first | (intro h; assumption) | (intro h; exact absurd rfl h)
theorem kindF_nil : kindF [] = 0 := by decide
theorem kindF_wordK {k : Nat} (h1 : 1 ≤ k) (h9 : k ≤ 9) : kindF (wordK k) = k := by
  have : k = 1 ∨ k = 2 ∨ k = 3 ∨ k = 4 ∨ k = 5 ∨ k = 6 ∨ k = 7 ∨ k = 8 ∨ k = 9 := by omega
  rcases this with rfl | rfl | rfl | rfl | rfl | rfl | rfl | rfl | rfl <;> decide
theorem wordK_word {k : Nat} (h1 : 1 ≤ k) (h9 : k ≤ 9) : IsWord (wordK k) := by
  have : k = 1 ∨ k = 2 ∨ k = 3 ∨ k = 4 ∨ k = 5 ∨ k = 6 ∨ k = 7 ∨ k = 8 ∨ k = 9 := by omega
  unfold IsWord
  rcases this with rfl | rfl | rfl | rfl | rfl | rfl | rfl | rfl | rfl <;> decide
theorem wordK_length (k : Nat) : (wordK k).length ≤ 5 := by
  unfold wordK; split <;> decide
theorem manyK_le (k : Nat) : manyK k ≤ 3 := by
  unfold manyK; split <;> decide

/-- The three numbers of an operation. -/
def numsO (o : Op5) : List Int := if o.k = 1 then [o.a, o.n, 0] else [o.a, o.b, o.c]
/-- The operation of a kind that has these numbers. -/
def mkO (k : Nat) (x y z : Int) : Op5 := if k = 1 then ⟨1, x, 0, 0, y⟩ else ⟨k, x, y, z, 0⟩

/-- The words of an operation. -/
def wordsO (o : Op5) : List (List UInt8) := wordK o.k.toNat :: ((numsO o).take (manyK o.k.toNat)).map Lib.itoa

/-- The numbers that words are, one behind the other; none: one of them is none. -/
def numsW : List (List UInt8) → Option (List Int)
  | [] => some []
  | w :: r => match numF w, numsW r with
    | some n, some l => some (n :: l)
    | _, _ => none

/-- The operation that words are. -/
def opW (ws : List (List UInt8)) : Option Op5 :=
  match ws with
  | [] => none
  | w :: ns => if kindF w = 0 then none else if ns.length = manyK (kindF w) then (numsW ns).map fun l => mkO (kindF w) (l.getD 0 0) (l.getD 1 0) (l.getD 2 0) else none

/-- Numbers of 64 bits. -/
def I64 (n : Int) : Prop := -9223372036854775808 ≤ n ∧ n ≤ 9223372036854775807
def Op64 (o : Op5) : Prop := I64 o.k ∧ I64 o.a ∧ I64 o.b ∧ I64 o.c ∧ I64 o.n

theorem numsW_itoa {l : List Int} (h : ∀ n ∈ l, I64 n) : numsW (l.map Lib.itoa) = some l := by
  induction l with
  | nil => rfl
  | cons n l ih =>
    have hn := h n (by simp)
    simp only [List.map_cons, numsW, num_itoa hn.1 hn.2, ih (fun m hm => h m (by simp [hm]))]

theorem partF_zero {x l : Int} (h : partF x l = 0) (h0 : l = 0) : x = 0 := by
  unfold partF at h
  rw [if_pos h0] at h
  split at h
  · assumption
  · exact absurd h (by decide)

/-- AN OPERATION THERE AND BACK. -/
theorem opW_wordsO {o : Op5} (h : aloneF o = 0) (h64 : Op64 o) : opW (wordsO o) = some o := by
  obtain ⟨h1, h9⟩ := alone_kind h
  obtain ⟨k, a, b, c, n⟩ := o
  obtain ⟨-, ha, hb, hc, hn⟩ := h64
  dsimp only at h1 h9 ha hb hc hn
  obtain ⟨m, rfl⟩ : ∃ m : Nat, k = (m : Int) := ⟨k.toNat, by omega⟩
  have k0 := kindF_wordK (k := m) (by omega) (by omega)
  have hN : ¬ ((m : Int) < 1 ∨ 9 < (m : Int)) := by omega
  have hA : partF a (limF m 0) = 0 := by
    apply Decidable.byContradiction; intro e; exact e ((aloneF_a (o := ⟨m, a, b, c, n⟩) hN e).symm.trans h)
  have hB : partF b (limF m 1) = 0 := by
    apply Decidable.byContradiction; intro e; exact e ((aloneF_b (o := ⟨m, a, b, c, n⟩) hN hA e).symm.trans h)
  have hC : partF c (limF m 2) = 0 := by
    apply Decidable.byContradiction; intro e; exact e ((aloneF_c (o := ⟨m, a, b, c, n⟩) hN hA hB e).symm.trans h)
  have hE := (aloneF_n (o := ⟨m, a, b, c, n⟩) hN hA hB hC).symm.trans h
  dsimp only at hE
  have hz : (m : Int) ≠ 1 → n = 0 := fun hm => by
    apply Decidable.byContradiction; intro e; rw [if_pos ⟨e, hm⟩] at hE; exact absurd hE (by decide)
  have hNW : ∀ l : List Int, (∀ x ∈ l, I64 x) → numsW (l.map Lib.itoa) = some l := fun l hl => numsW_itoa hl
  have hm0 : m ≠ 0 := by omega
  have hlim : ∀ j, limF (m : Int) j = limF m j := fun _ => rfl
  simp only [wordsO, opW, Int.toNat_natCast, k0]
  rw [if_neg hm0]
  have : m = 1 ∨ m = 2 ∨ m = 3 ∨ m = 4 ∨ m = 5 ∨ m = 6 ∨ m = 7 ∨ m = 8 ∨ m = 9 := by omega
  rcases this with rfl | rfl | rfl | rfl | rfl | rfl | rfl | rfl | rfl
  · have b0 : b = 0 := partF_zero hB rfl
    have c0 : c = 0 := partF_zero hC rfl
    subst b0 c0
    have := hNW [a, n] (by simp [ha, hn])
    simp [numsO, manyK] at this ⊢
    rw [this]; simp [mkO]
  · have c0 : c = 0 := partF_zero hC rfl
    have n0 : n = 0 := hz (by decide)
    subst c0 n0
    have := hNW [a, b] (by simp [ha, hb])
    simp [numsO, manyK] at this ⊢
    rw [this]; simp [mkO]
  · have n0 : n = 0 := hz (by decide)
    subst n0
    have := hNW [a, b, c] (by simp [ha, hb, hc])
    simp [numsO, manyK] at this ⊢
    rw [this]; simp [mkO]
  · have n0 : n = 0 := hz (by decide)
    subst n0
    have := hNW [a, b, c] (by simp [ha, hb, hc])
    simp [numsO, manyK] at this ⊢
    rw [this]; simp [mkO]
  · have n0 : n = 0 := hz (by decide)
    subst n0
    have := hNW [a, b, c] (by simp [ha, hb, hc])
    simp [numsO, manyK] at this ⊢
    rw [this]; simp [mkO]
  · have n0 : n = 0 := hz (by decide)
    subst n0
    have := hNW [a, b, c] (by simp [ha, hb, hc])
    simp [numsO, manyK] at this ⊢
    rw [this]; simp [mkO]
  · have c0 : c = 0 := partF_zero hC rfl
    have n0 : n = 0 := hz (by decide)
    subst c0 n0
    have := hNW [a, b] (by simp [ha, hb])
    simp [numsO, manyK] at this ⊢
    rw [this]; simp [mkO]
  · have b0 : b = 0 := partF_zero hB rfl
    have c0 : c = 0 := partF_zero hC rfl
    have n0 : n = 0 := hz (by decide)
    subst b0 c0 n0
    have := hNW [a] (by simp [ha])
    simp [numsO, manyK] at this ⊢
    rw [this]; simp [mkO]
  · have c0 : c = 0 := partF_zero hC rfl
    have n0 : n = 0 := hz (by decide)
    subst c0 n0
    have := hNW [a, b] (by simp [ha, hb])
    simp [numsO, manyK] at this ⊢
    rw [this]; simp [mkO]

/-! ### Texts -/

/-- Numbers, each behind a blank. -/
def numsB : List Int → List UInt8
  | [] => []
  | n :: r => 32 :: (Lib.itoa n ++ numsB r)
/-- An operation's text. -/
def opB (o : Op5) : List UInt8 := wordK o.k.toNat ++ numsB ((numsO o).take (manyK o.k.toNat))
/-- Operations, each behind a semicolon and a blank. -/
def moreB : List Op5 → List UInt8
  | [] => []
  | o :: r => 59 :: 32 :: (opB o ++ moreB r)
/-- A deed's text. -/
def printB : List Op5 → List UInt8
  | [] => []
  | o :: r => opB o ++ moreB r

theorem moreB_append (a b : List Op5) : moreB (a ++ b) = moreB a ++ moreB b := by
  induction a with
  | nil => rfl
  | cons o a ih => simp [moreB, ih]
theorem numsB_append (a b : List Int) : numsB (a ++ b) = numsB a ++ numsB b := by
  induction a with
  | nil => rfl
  | cons o a ih => simp [numsB, ih]
theorem printB_snoc {d : List Op5} (h : d ≠ []) (o : Op5) : printB (d ++ [o]) = printB d ++ (59 :: 32 :: opB o) := by
  cases d with
  | nil => exact absurd rfl h
  | cons x r => simp [printB, moreB_append, moreB]

theorem numsB_ends (l : List Int) {r : List UInt8} (h : Ends r) : Ends (numsB l ++ r) := by
  cases l with
  | nil => exact h
  | cons n l => exact .inr ⟨32, _, rfl, .inl rfl⟩

theorem lex_nums (l : List Int) {r : List UInt8} (hr : Ends r) : lex (numsB l ++ r) = (l.map Lib.itoa ++ (lex r).headD []) :: (lex r).tail := by
  induction l with
  | nil => cases h : lex r with
    | nil => simp [lex] at h
    | cons x y => rw [numsB, List.nil_append, h]; rfl
  | cons n l ih =>
    rw [numsB, List.cons_append, lex_blank, List.append_assoc, lex_word (itoa_word n) (numsB_ends l hr), ih]; rfl

theorem lex_op {o : Op5} (h1 : 1 ≤ o.k) (h9 : o.k ≤ 9) {r : List UInt8} (hr : Ends r) : lex (opB o ++ r) = (wordsO o ++ (lex r).headD []) :: (lex r).tail := by
  rw [opB, List.append_assoc, lex_word (wordK_word (by omega) (by omega)) (numsB_ends _ hr), lex_nums _ hr]; rfl

/-- Well made operations. -/
def Kinds (d : List Op5) : Prop := ∀ o ∈ d, 1 ≤ o.k ∧ o.k ≤ 9

theorem moreB_ends (d : List Op5) {r : List UInt8} (h : Ends r) : Ends (moreB d ++ r) := by
  cases d with
  | nil => exact h
  | cons o d => exact .inr ⟨59, _, rfl, .inr rfl⟩

theorem lex_more_ops {d : List Op5} (h : Kinds d) {r : List UInt8} (hr : r = [] ∨ ∃ t, r = 59 :: t) : lex (moreB d ++ r) = [] :: (d.map wordsO ++ (lex r).tail) := by
  have hE : Ends r := by
    rcases hr with h | ⟨t, h⟩
    · exact .inl h
    · exact .inr ⟨59, t, h, .inr rfl⟩
  have h0 : lex r = [] :: (lex r).tail := by
    rcases hr with rfl | ⟨t, rfl⟩
    · rfl
    · rw [lex_semi]; rfl
  induction d with
  | nil => rw [moreB, List.nil_append]; exact h0
  | cons o d ih =>
    have ho := h o (by simp)
    rw [moreB, List.cons_append, List.cons_append, lex_semi, lex_blank, List.append_assoc, lex_op ho.1 ho.2 (moreB_ends d hE), ih (fun x hx => h x (by simp [hx]))]
    simp

/-- THE WORDS OF A DEED's TEXT. -/
theorem lex_print {d : List Op5} (h : Kinds d) (h0 : d ≠ []) : lex (printB d) = d.map wordsO := by
  cases d with
  | nil => exact absurd rfl h0
  | cons o d =>
    have ho := h o (by simp)
    have := moreB_ends d (r := []) (.inl rfl)
    rw [List.append_nil] at this
    have e := lex_more_ops (d := d) (fun x hx => h x (by simp [hx])) (r := []) (.inl rfl)
    rw [List.append_nil] at e
    rw [printB, lex_op ho.1 ho.2 this, e]; simp [lex_nil]
/-- .. and of two of them, a semicolon between. -/
theorem lex_join {d e : List Op5} (hd : Kinds d) (he : Kinds e) (h0 : d ≠ []) (h1 : e ≠ []) : lex (printB d ++ (59 :: printB e)) = (d ++ e).map wordsO := by
  cases d with
  | nil => exact absurd rfl h0
  | cons o d =>
    have ho := hd o (by simp)
    have hr : (59 :: printB e : List UInt8) = [] ∨ ∃ t, (59 :: printB e : List UInt8) = 59 :: t := .inr ⟨_, rfl⟩
    have hE : Ends (59 :: printB e) := .inr ⟨59, _, rfl, .inr rfl⟩
    rw [printB, List.append_assoc, lex_op ho.1 ho.2 (moreB_ends d hE), lex_more_ops (fun x hx => hd x (by simp [hx])) hr, lex_semi, lex_print he h1]
    simp

/-! ### A text as a deed -/

/-- The operations of parts, from number i on; or the number of the first part that is none. -/
def partsF : Nat → List (List (List UInt8)) → Nat ⊕ List Op5
  | _, [] => .inr []
  | i, ws :: r => match opW ws with
    | none => .inl i
    | some o => match partsF (i + 1) r with
      | .inl k => .inl k
      | .inr d => .inr (o :: d)

/-- What a text is: a deed and the fault (0, 0), or none and its fault. -/
def parseF (s : List UInt8) : List Op5 × (Int × Int) :=
  if wordF s = [] then ([], (0, 0)) else
  match partsF 0 (lex s) with
  | .inl k => ([], (10, k))
  | .inr d => if (checkF d).1 ≠ 0 then ([], checkF d) else (d, (0, 0))

theorem partsF_words {d : List Op5} (h : ∀ o ∈ d, aloneF o = 0 ∧ Op64 o) (i : Nat) : partsF i (d.map wordsO) = .inr d := by
  induction d generalizing i with
  | nil => rfl
  | cons o d ih =>
    have ho := h o (by simp)
    simp only [List.map_cons, partsF, opW_wordsO ho.1 ho.2, ih (fun x hx => h x (by simp [hx]))]

theorem parse_lex {s : List UInt8} {d : List Op5} (hl : lex s = d.map wordsO) (h : ∀ o ∈ d, aloneF o = 0 ∧ Op64 o) : parseF s = if (checkF d).1 ≠ 0 then ([], checkF d) else (d, (0, 0)) := by
  unfold parseF
  rw [if_neg ?_]
  · rw [hl, partsF_words h]
  · intro e
    have e1 := blanks_lex (blanks_word.1 e)
    rw [e1] at hl
    cases d with
    | nil => simp at hl
    | cons o d => simp [wordsO] at hl

theorem alone_all {d : List Op5} (h : (checkF d).1 = 0) (h64 : ∀ o ∈ d, Op64 o) : ∀ o ∈ d, aloneF o = 0 ∧ Op64 o := fun o ho => ⟨checkF_alone h o ho, h64 o ho⟩
theorem kinds_all {d : List Op5} (h : (checkF d).1 = 0) : Kinds d := fun o ho => alone_kind (checkF_alone h o ho)

/-- THERE AND BACK, however it is laid out. -/
theorem parse_same {s : List UInt8} {d : List Op5} (h : (checkF d).1 = 0) (h64 : ∀ o ∈ d, Op64 o) (hs : lex s = lex (printB d)) : parseF s = (d, (0, 0)) := by
  by_cases h0 : d = []
  · subst h0
    have e : wordF s = [] := by
      apply Decidable.byContradiction; intro e; exact word_lex e (hs.trans rfl)
    rw [parseF, if_pos e]
  · rw [parse_lex (hs.trans (lex_print (kinds_all h) h0)) (alone_all h h64), if_neg (by simp [h])]
theorem parse_print {d : List Op5} (h : (checkF d).1 = 0) (h64 : ∀ o ∈ d, Op64 o) : parseF (printB d) = (d, (0, 0)) := parse_same h h64 rfl

/-- OPERATIONS BEHIND OPERATIONS. -/
theorem parse_join {d e : List Op5} (h : (checkF d).1 = 0) (h' : (checkF e).1 = 0) (h64 : ∀ o ∈ d, Op64 o) (k64 : ∀ o ∈ e, Op64 o) (h0 : d ≠ []) (h1 : e ≠ []) :
    parseF (printB d ++ (59 :: printB e)) = if (checkF (d ++ e)).1 ≠ 0 then ([], checkF (d ++ e)) else (d ++ e, (0, 0)) :=
  parse_lex (lex_join (kinds_all h) (kinds_all h') h0 h1) (fun o ho => by
    rcases List.mem_append.1 ho with ho | ho
    · exact alone_all h h64 o ho
    · exact alone_all h' k64 o ho)

/-- What is told as a deed is one. -/
theorem parse_checked {s : List UInt8} (h : (parseF s).2.1 = 0) : (checkF (parseF s).1).1 = 0 := by
  unfold parseF at h ⊢
  split
  · decide
  · rename_i hw
    rw [if_neg hw] at h
    split
    · rename_i k hk; rw [hk] at h; have h : (10 : Int) = 0 := h; exact absurd h (by decide)
    · rename_i d hd
      rw [hd] at h
      dsimp only at h
      split
      · rename_i hc; rw [if_pos hc] at h; exact absurd h hc
      · rename_i hc; exact Decidable.not_not.1 hc
theorem parse_fault {s : List UInt8} (h : (parseF s).2.1 ≠ 0) : (parseF s).1 = [] := by
  unfold parseF at h ⊢
  split
  · rfl
  · rename_i hw
    rw [if_neg hw] at h
    split
    · rfl
    · rename_i d hd
      rw [hd] at h
      dsimp only at h
      split
      · rfl
      · rename_i hc; rw [if_neg hc] at h; exact absurd rfl h

theorem numF_64 {l : List UInt8} {n : Int} (h : numF l = some n) : Lib.itoa n = l := by
  unfold numF at h
  split at h
  · split at h
    · rename_i e; injection h with h; subst h; exact e
    · cases h
  · cases h

/-! ### How long texts are -/

theorem itoa_le {n : Int} (h : I64 n) : (Lib.itoa n).length ≤ 21 := Lib.itoa_length_le n h.1 h.2
theorem numsB_length {l : List Int} (h : ∀ n ∈ l, I64 n) : (numsB l).length ≤ 22 * l.length := by
  induction l with
  | nil => simp [numsB]
  | cons n l ih =>
    have := itoa_le (h n (by simp))
    have := ih (fun m hm => h m (by simp [hm]))
    simp only [numsB, List.length_cons, List.length_append]; omega
theorem numsO_64 {o : Op5} (h : Op64 o) : ∀ n ∈ numsO o, I64 n := by
  intro n hn
  unfold numsO at hn
  have z : I64 0 := ⟨by decide, by decide⟩
  split at hn
  · simp only [List.mem_cons, List.not_mem_nil, or_false] at hn
    rcases hn with rfl | rfl | rfl
    · exact h.2.1
    · exact h.2.2.2.2
    · exact z
  · simp only [List.mem_cons, List.not_mem_nil, or_false] at hn
    rcases hn with rfl | rfl | rfl
    · exact h.2.1
    · exact h.2.2.1
    · exact h.2.2.2.1
theorem opB_length {o : Op5} (h : Op64 o) : (opB o).length ≤ 71 := by
  have h1 := wordK_length o.k.toNat
  have h2 := numsB_length (l := (numsO o).take (manyK o.k.toNat)) (fun n hn => numsO_64 h n (List.mem_of_mem_take hn))
  have h3 : ((numsO o).take (manyK o.k.toNat)).length ≤ 3 := by
    rw [List.length_take]; have := manyK_le o.k.toNat; omega
  rw [opB, List.length_append]; omega
theorem moreB_length {d : List Op5} (h : ∀ o ∈ d, Op64 o) : (moreB d).length ≤ 73 * d.length := by
  induction d with
  | nil => simp [moreB]
  | cons o d ih =>
    have := opB_length (h o (by simp))
    have := ih (fun x hx => h x (by simp [hx]))
    simp only [moreB, List.length_cons, List.length_append]; omega
theorem printB_length {d : List Op5} (h : ∀ o ∈ d, Op64 o) : (printB d).length ≤ 73 * d.length := by
  cases d with
  | nil => simp [printB]
  | cons o d =>
    have := opB_length (h o (by simp))
    have := moreB_length (d := d) (fun x hx => h x (by simp [hx]))
    simp only [printB, List.length_cons, List.length_append]; omega
theorem check_few_ops {d : List Op5} (h : (checkF d).1 = 0) : d.length ≤ 14 := by
  unfold checkF at h
  split at h
  · exact absurd h (by decide)
  · omega
theorem spread_length {k : Nat} (hk : k < 4) (s : List UInt8) : (spread k s).length ≤ 4 * s.length := by
  induction s with
  | nil => simp [spread]
  | cons c r ih =>
    rw [spread, List.length_append, List.length_cons, List.length_cons]
    split
    · rw [List.length_replicate]; omega
    · simp; omega
end Go.Proofs.YtdohockbmphhfacDoor
