/-
  What code.Check, code.Round and the loops inside them reckon, as plain functions on lists of integers; and what the law leans on. Nothing of the program's text is imported here. What codec.Encode, codec.Decode and the reader inside reckon, as plain functions on lists of integers; there and back. Nothing of the program's text is imported here. A log's rounds as bytes, one behind the other; what a crash leaves of them; what bytes begin with: on lists. Nothing of the program's text is imported here.
-/
namespace Go.Proofs.YtehkjbpgibdgpadGreatDoor

/-- An operation: its kind, A, B, C, N. -/
structure Op5 where
  k : Int
  a : Int
  b : Int
  c : Int
  n : Int

def partF (p l : Int) : Int := if l = 0 then (if p = 0 then 0 else 3) else if p < 0 ∨ l ≤ p then 1 else 0

/-- The limits of a kind's parts, by the kind and the part's number. -/
def limF (k : Int) (j : Nat) : Int :=
  match k, j with
  | 1, 0 => 4
  | 2, 0 => 4 | 2, 1 => 10
  | 3, 0 => 4 | 3, 1 => 4 | 3, 2 => 4
  | 4, 0 => 4 | 4, 1 => 4 | 4, 2 => 4
  | 5, 0 => 4 | 5, 1 => 4 | 5, 2 => 4
  | 6, 0 => 4 | 6, 1 => 4 | 6, 2 => 4
  | 7, 0 => 10 | 7, 1 => 4
  | 8, 0 => 4
  | 9, 0 => 4 | 9, 1 => 14
  | _, _ => 0

/-- The code of an operation alone. -/
def aloneF (o : Op5) : Int :=
  if o.k < 1 ∨ 9 < o.k then 2
  else if partF o.a (limF o.k 0) ≠ 0 then partF o.a (limF o.k 0)
  else if partF o.b (limF o.k 1) ≠ 0 then partF o.b (limF o.k 1)
  else if partF o.c (limF o.k 2) ≠ 0 then partF o.c (limF o.k 2)
  else if o.n ≠ 0 ∧ o.k ≠ 1 then 3
  else 0

/-- The fault of places from number i on, of a deed of n operations; 'stored': an OStore stands ahead. -/
def placesF (n : Nat) : Nat → Bool → List Op5 → Int × Int
  | _, _, [] => (0, 0)
  | i, stored, o :: r =>
    if o.k = 7 then placesF n (i + 1) true r
    else if o.k = 8 ∧ stored = true then (5, i)
    else if o.k = 9 ∧ (o.b < 1 ∨ (n : Int) - 1 - i < o.b) then (1, i)
    else placesF n (i + 1) stored r

/-- The first fault of an operation alone from number i on; none: what stands behind. -/
def firstF (z : Int × Int) : Nat → List Op5 → Int × Int
  | _, [] => z
  | i, o :: r => if aloneF o ≠ 0 then (aloneF o, i) else firstF z (i + 1) r

def checkF (d : List Op5) : Int × Int :=
  if 14 < d.length then (4, -1) else firstF (placesF d.length 0 false d) 0 d

/-- The code of the first deed that has one. -/
def codesF : List (List Op5) → Int
  | [] => 0
  | d :: r => if (checkF d).1 ≠ 0 then (checkF d).1 else codesF r

def roundF (r : List (List Op5)) : Int := if 8 < r.length then 4 else codesF r

theorem codesF_zero {r : List (List Op5)} : codesF r = 0 ↔ ∀ d ∈ r, (checkF d).1 = 0 := by
  induction r with
  | nil => simp [codesF]
  | cons d r ih =>
    simp only [codesF, List.mem_cons]
    split
    · constructor
      · intro h; contradiction
      · intro h; exact absurd (h d (Or.inl rfl)) (by assumption)
    · rename_i h
      rw [ih]
      constructor
      · rintro h' x (rfl | hx)
        · exact Decidable.not_not.1 h
        · exact h' x hx
      · intro h' x hx; exact h' x (Or.inr hx)

theorem roundF_zero {r : List (List Op5)} : roundF r = 0 ↔ r.length ≤ 8 ∧ ∀ d ∈ r, (checkF d).1 = 0 := by
  unfold roundF
  split
  · constructor
    · intro h; exact absurd h (by decide)
    · intro h; omega
  · rw [codesF_zero]
    constructor
    · intro h; exact ⟨by omega, h⟩
    · intro h; exact h.2

/-- WITH FEWER BESIDE IT. -/
theorem roundF_less {r : List (List Op5)} (h : roundF r = 0) (i : Nat) : roundF (r.take i ++ r.drop (i + 1)) = 0 := by
  rw [roundF_zero] at h ⊢
  refine ⟨?_, fun d hd => h.2 d ?_⟩
  · simp only [List.length_append, List.length_take, List.length_drop]; omega
  · rcases List.mem_append.1 hd with hd | hd
    · exact List.mem_of_mem_take hd
    · exact List.mem_of_mem_drop hd

theorem firstF_alone {z : Int × Int} {d : List Op5} {i : Nat} (h : (firstF z i d).1 = 0) : ∀ o ∈ d, aloneF o = 0 := by
  induction d generalizing i with
  | nil => intro o ho; cases ho
  | cons x r ih =>
    simp only [firstF] at h
    split at h
    · contradiction
    · rename_i hx
      intro o ho
      rcases List.mem_cons.1 ho with rfl | ho
      · exact Decidable.not_not.1 hx
      · exact ih h o ho

theorem checkF_alone {d : List Op5} (h : (checkF d).1 = 0) : ∀ o ∈ d, aloneF o = 0 := by
  unfold checkF at h
  split at h
  · exact absurd h (by decide)
  · exact firstF_alone h

/-- OPERATION BY OPERATION. -/
theorem checkF_one {o : Op5} (h : aloneF o = 0) : checkF [o] = if o.k = 9 then (1, 0) else (0, 0) := by
  simp only [checkF, firstF, placesF, h, List.length_cons, List.length_nil]
  by_cases h9 : o.k = 9
  · simp [h9]; omega
  · simp [h9]

theorem alone_kind {o : Op5} (h : aloneF o = 0) : 1 ≤ o.k ∧ o.k ≤ 9 := by
  unfold aloneF at h
  split at h
  · exact absurd h (by decide)
  · omega

theorem aloneF_a {o : Op5} (h : ¬ (o.k < 1 ∨ 9 < o.k)) (h0 : ¬ partF o.a (limF o.k 0) = 0) : aloneF o = partF o.a (limF o.k 0) := by
  unfold aloneF; rw [if_neg h, if_pos h0]
theorem aloneF_b {o : Op5} (h : ¬ (o.k < 1 ∨ 9 < o.k)) (h0 : partF o.a (limF o.k 0) = 0) (h1 : ¬ partF o.b (limF o.k 1) = 0) : aloneF o = partF o.b (limF o.k 1) := by
  unfold aloneF; rw [if_neg h, if_neg (by simp [h0]), if_pos h1]
theorem aloneF_c {o : Op5} (h : ¬ (o.k < 1 ∨ 9 < o.k)) (h0 : partF o.a (limF o.k 0) = 0) (h1 : partF o.b (limF o.k 1) = 0) (h2 : ¬ partF o.c (limF o.k 2) = 0) : aloneF o = partF o.c (limF o.k 2) := by
  unfold aloneF; rw [if_neg h, if_neg (by simp [h0]), if_neg (by simp [h1]), if_pos h2]
theorem aloneF_n {o : Op5} (h : ¬ (o.k < 1 ∨ 9 < o.k)) (h0 : partF o.a (limF o.k 0) = 0) (h1 : partF o.b (limF o.k 1) = 0) (h2 : partF o.c (limF o.k 2) = 0) : aloneF o = if o.n ≠ 0 ∧ o.k ≠ 1 then 3 else 0 := by
  unfold aloneF; rw [if_neg h, if_neg (by simp [h0]), if_neg (by simp [h1]), if_neg (by simp [h2])]

theorem placesF_store {n : Nat} {d : List Op5} {j : Nat} {s : Bool} (h : j < d.length) (h7 : d[j].k = 7) : placesF n (j + 1) true (d.drop (j + 1)) = placesF n j s (d.drop j) := by
  rw [List.drop_eq_getElem_cons h]; simp only [placesF]; rw [if_pos h7]
theorem placesF_stop {n : Nat} {d : List Op5} {j : Nat} {s : Bool} (h : j < d.length) (h8 : d[j].k = 8) (hs : s = true) : placesF n j s (d.drop j) = (5, (j : Int)) := by
  rw [List.drop_eq_getElem_cons h]; simp only [placesF]; rw [if_neg (by omega), if_pos ⟨h8, hs⟩]
theorem placesF_skip {n : Nat} {d : List Op5} {j : Nat} {s : Bool} (h : j < d.length) (h9 : d[j].k = 9) (hb : d[j].b < 1 ∨ (n : Int) - 1 - j < d[j].b) : placesF n j s (d.drop j) = (1, (j : Int)) := by
  rw [List.drop_eq_getElem_cons h]; simp only [placesF]; rw [if_neg (by omega), if_neg (by omega), if_pos ⟨h9, hb⟩]
theorem placesF_next {n : Nat} {d : List Op5} {j : Nat} {s : Bool} (h : j < d.length) (h7 : ¬ d[j].k = 7) (h8 : ¬ (d[j].k = 8 ∧ s = true)) (h9 : ¬ (d[j].k = 9 ∧ (d[j].b < 1 ∨ (n : Int) - 1 - j < d[j].b))) : placesF n (j + 1) s (d.drop (j + 1)) = placesF n j s (d.drop j) := by
  rw [List.drop_eq_getElem_cons h]; simp only [placesF]; rw [if_neg h7, if_neg h8, if_neg h9]
theorem firstF_bad {d : List Op5} {j : Nat} (h : j < d.length) {z : Int × Int} (ho : ¬ aloneF d[j] = 0) : firstF z j (d.drop j) = (aloneF d[j], (j : Int)) := by
  rw [List.drop_eq_getElem_cons h]; simp only [firstF]; rw [if_pos ho]
theorem firstF_next {d : List Op5} {j : Nat} (h : j < d.length) {z : Int × Int} (ho : aloneF d[j] = 0) : firstF z (j + 1) (d.drop (j + 1)) = firstF z j (d.drop j) := by
  rw [List.drop_eq_getElem_cons h]; simp only [firstF]; rw [if_neg (by simp [ho])]
theorem codesF_bad {r : List (List Op5)} {j : Nat} (h : j < r.length) (ho : ¬ (checkF r[j]).1 = 0) : codesF (r.drop j) = (checkF r[j]).1 := by
  rw [List.drop_eq_getElem_cons h]; simp only [codesF]; rw [if_pos ho]
theorem codesF_next {r : List (List Op5)} {j : Nat} (h : j < r.length) (ho : (checkF r[j]).1 = 0) : codesF (r.drop (j + 1)) = codesF (r.drop j) := by
  rw [List.drop_eq_getElem_cons h]; simp only [codesF]; rw [if_neg (by simp [ho])]

end Go.Proofs.YtehkjbpgibdgpadGreatDoor
namespace Go.Proofs.YtehkjbpgibdgpadGreatDoor

/-- A byte. -/
def IsB (x : Int) : Prop := 0 ≤ x ∧ x < 256
def AllB (l : List Int) : Prop := ∀ x ∈ l, IsB x
theorem AllB.tail {x : Int} {l : List Int} (h : AllB (x :: l)) : AllB l := fun y hy => h y (List.mem_cons_of_mem _ hy)
theorem AllB.head {x : Int} {l : List Int} (h : AllB (x :: l)) : IsB x := h x List.mem_cons_self
theorem AllB.drop {l : List Int} (h : AllB l) (n : Nat) : AllB (l.drop n) := fun y hy => h y (List.mem_of_mem_drop hy)
theorem AllB.take {l : List Int} (h : AllB l) (n : Nat) : AllB (l.take n) := fun y hy => h y (List.mem_of_mem_take hy)
theorem AllB.append {l m : List Int} (h : AllB l) (k : AllB m) : AllB (l ++ m) := fun y hy => (List.mem_append.1 hy).elim (h y) (k y)

/-- The 8 bytes of a number, the lowest one first. -/
def numB : Nat → Int → List Int
  | 0, _ => []
  | i + 1, n => n % 256 :: numB i (n / 256)
/-- The number of bytes, the lowest one first. -/
def valB : List Int → Int
  | [] => 0
  | x :: l => x + 256 * valB l
/-- A number without sign as one with a sign. -/
def sgnF (v : Int) : Int := if v < 9223372036854775808 then v else v - 18446744073709551616

def opB (o : Op5) : List Int := if o.k = 1 then 1 :: o.a :: numB 8 o.n else [o.k, o.a + 16 * o.b, o.c]
def opsB : List Op5 → List Int
  | [] => []
  | o :: r => opB o ++ opsB r
def deedB (d : List Op5) : List Int := (d.length : Int) :: opsB d
def deedsB : List (List Op5) → List Int
  | [] => []
  | d :: r => deedB d ++ deedsB r
def bodyB (r : List (List Op5)) : List Int := (r.length : Int) :: deedsB r
def encB (r : List (List Op5)) : List Int := ((bodyB r).length : Int) % 256 :: ((bodyB r).length : Int) / 256 :: bodyB r

def readOp : List Int → Option (Op5 × List Int)
  | [] => none
  | [_] => none
  | k :: a :: l2 =>
    if k = 1 then (if l2.length < 8 then none else some (⟨1, a, 0, 0, sgnF (valB (l2.take 8))⟩, l2.drop 8))
    else match l2 with
      | [] => none
      | c :: l3 => some (⟨k, a % 16, a / 16, c, 0⟩, l3)
def readOps : Nat → List Int → Option (List Op5 × List Int)
  | 0, l => some ([], l)
  | n + 1, l => match readOp l with
    | none => none
    | some (o, l') => match readOps n l' with
      | none => none
      | some (d, l'') => some (o :: d, l'')
def readDeed : List Int → Option (List Op5 × List Int)
  | [] => none
  | n :: l => readOps n.toNat l
def readDeeds : Nat → List Int → Option (List (List Op5) × List Int)
  | 0, l => some ([], l)
  | n + 1, l => match readDeed l with
    | none => none
    | some (o, l') => match readDeeds n l' with
      | none => none
      | some (d, l'') => some (o :: d, l'')
def readRound : List Int → Option (List (List Op5) × List Int)
  | [] => none
  | n :: l => readDeeds n.toNat l
def readAll (l : List Int) : Option (List (List Op5)) :=
  match readRound l with
  | some (r, []) => some r
  | _ => none

/-- What Decode tells: the round, how many bytes, the code. -/
def decF (b : List Int) : List (List Op5) × Int × Int :=
  match b with
  | x :: y :: l =>
    if (l.length : Int) < x + 256 * y then ([], 0, 6)
    else match readAll (l.take (x + 256 * y).toNat) with
      | none => ([], 0, 3)
      | some r => if roundF r ≠ 0 then ([], 0, roundF r) else (r, 2 + x + 256 * y, 0)
  | _ => ([], 0, 6)

theorem numB_length (i : Nat) (n : Int) : (numB i n).length = i := by
  induction i generalizing n with
  | zero => rfl
  | succ i ih => simp [numB, ih]
theorem numB_all (i : Nat) (n : Int) : AllB (numB i n) := by
  induction i generalizing n with
  | zero => intro x hx; simp [numB] at hx
  | succ i ih =>
    intro x hx
    rcases List.mem_cons.1 hx with rfl | hx
    · unfold IsB; omega
    · exact ih _ x hx
theorem emod_two (n p : Int) : n % (256 * p) = n % 256 + 256 * (n / 256 % p) := by
  have := Int.ediv_ediv_of_nonneg (x := n) (y := 256) (z := p) (by omega)
  rw [Int.emod_def, Int.emod_def n 256, Int.emod_def (n / 256) p, this, Int.mul_sub, Int.mul_assoc]
  omega
theorem valB_numB (i : Nat) (n : Int) : valB (numB i n) = n % 256 ^ i := by
  induction i generalizing n with
  | zero => simp [numB, valB]
  | succ i ih =>
    simp only [numB, valB, ih]
    rw [Int.pow_succ, Int.mul_comm (256 ^ i) 256, emod_two]
theorem sgn_num (n : Int) (h0 : -9223372036854775808 ≤ n) (h1 : n < 9223372036854775808) : sgnF (valB (numB 8 n)) = n := by
  rw [valB_numB]
  unfold sgnF
  have : (256 : Int) ^ 8 = 18446744073709551616 := by decide
  rw [this]
  split <;> omega
theorem valB_lt (l : List Int) (h : AllB l) : 0 ≤ valB l ∧ valB l < 256 ^ l.length := by
  induction l with
  | nil => simp [valB]
  | cons x l ih =>
    have hx := h.head
    have := ih h.tail
    unfold IsB at hx
    simp only [valB, List.length_cons, Int.pow_succ]
    omega
theorem valB_snoc (l : List Int) (x : Int) : valB (l ++ [x]) = valB l + x * 256 ^ l.length := by
  induction l with
  | nil => simp [valB]
  | cons y l ih =>
    simp only [List.cons_append, valB, ih, List.length_cons, Int.pow_succ]
    rw [Int.mul_add, ← Int.add_assoc, ← Int.mul_assoc, Int.mul_comm 256 x, Int.mul_assoc, Int.mul_comm 256 (256 ^ l.length)]
theorem numB_valB (l : List Int) (h : AllB l) (c : Int) : numB l.length (valB l + 256 ^ l.length * c) = l := by
  induction l with
  | nil => rfl
  | cons x l ih =>
    have hx := h.head
    unfold IsB at hx
    simp only [valB, List.length_cons, numB, Int.pow_succ]
    have e : x + 256 * valB l + 256 ^ l.length * 256 * c = x + 256 * (valB l + 256 ^ l.length * c) := by
      rw [Int.mul_add, Int.add_assoc, Int.mul_comm (256 ^ l.length) 256, Int.mul_assoc]
    rw [e]
    have e1 : (x + 256 * (valB l + 256 ^ l.length * c)) % 256 = x := by omega
    have e2 : (x + 256 * (valB l + 256 ^ l.length * c)) / 256 = valB l + 256 ^ l.length * c := by omega
    rw [e1, e2, ih h.tail]
theorem num_sgn (l : List Int) (h : AllB l) (hl : l.length = 8) : numB 8 (sgnF (valB l)) = l := by
  have h1 := numB_valB l h 0
  have h2 := numB_valB l h (-1)
  rw [hl] at h1 h2
  have : (256 : Int) ^ 8 = 18446744073709551616 := by decide
  rw [this] at h1 h2
  unfold sgnF
  split
  · rw [Int.mul_zero, Int.add_zero] at h1; exact h1
  · rw [show valB l - 18446744073709551616 = valB l + 18446744073709551616 * (-1) by omega]; exact h2

/-- The numbers of a round's operations are numbers of 64 bits. -/
def N64 (o : Op5) : Prop := -9223372036854775808 ≤ o.n ∧ o.n < 9223372036854775808
def D64 (d : List Op5) : Prop := ∀ o ∈ d, N64 o
def R64 (r : List (List Op5)) : Prop := ∀ d ∈ r, D64 d

theorem partF_zero {p l : Int} (h : partF p l = 0) : (l = 0 ∧ p = 0) ∨ (l ≠ 0 ∧ 0 ≤ p ∧ p < l) := by
  unfold partF at h
  split at h
  · split at h
    · exact .inl ⟨by assumption, by assumption⟩
    · exact absurd h (by decide)
  · split at h
    · exact absurd h (by decide)
    · exact .inr ⟨by assumption, by omega, by omega⟩

/-- What is known of the parts of an operation without a fault of its own. -/
theorem alone_partsC {o : Op5} (h : aloneF o = 0) : 1 ≤ o.k ∧ o.k ≤ 9 ∧ 0 ≤ o.a ∧ o.a < 10 ∧ 0 ≤ o.b ∧ o.b < 14 ∧ 0 ≤ o.c ∧ o.c < 4 ∧ (o.k = 1 → o.a < 4 ∧ o.b = 0 ∧ o.c = 0) ∧ (o.k ≠ 1 → o.n = 0) := by
  unfold aloneF at h
  split at h
  · exact absurd h (by decide)
  rename_i hk
  split at h
  · contradiction
  rename_i ha
  split at h
  · contradiction
  rename_i hb
  split at h
  · contradiction
  rename_i hc
  split at h
  · exact absurd h (by decide)
  rename_i hn
  replace ha := partF_zero (Decidable.not_not.1 ha)
  replace hb := partF_zero (Decidable.not_not.1 hb)
  replace hc := partF_zero (Decidable.not_not.1 hc)
  obtain ⟨k, a, b, c, n⟩ := o
  simp only at *
  have hk' : k = 1 ∨ k = 2 ∨ k = 3 ∨ k = 4 ∨ k = 5 ∨ k = 6 ∨ k = 7 ∨ k = 8 ∨ k = 9 := by omega
  rcases hk' with rfl | rfl | rfl | rfl | rfl | rfl | rfl | rfl | rfl
  all_goals simp only [limF] at ha hb hc
  all_goals omega

theorem opB_all {o : Op5} (h : aloneF o = 0) : AllB (opB o) := by
  obtain ⟨h1, h2, h3, h4, h5, h6, h7, h8, h9, h10⟩ := alone_partsC h
  unfold opB
  split
  · intro x hx
    rcases List.mem_cons.1 hx with rfl | hx
    · unfold IsB; omega
    rcases List.mem_cons.1 hx with rfl | hx
    · unfold IsB; omega
    · exact numB_all _ _ x hx
  · intro x hx
    simp only [List.mem_cons, List.not_mem_nil, or_false] at hx
    rcases hx with rfl | rfl | rfl
    all_goals unfold IsB; omega
theorem opB_length (o : Op5) : (opB o).length ≤ 10 := by
  unfold opB
  split
  · simp [numB_length]
  · simp
theorem opsB_length (d : List Op5) : (opsB d).length ≤ 10 * d.length := by
  induction d with
  | nil => simp [opsB]
  | cons o r ih => have := opB_length o; simp only [opsB, List.length_append, List.length_cons]; omega
theorem opsB_all {d : List Op5} (h : ∀ o ∈ d, aloneF o = 0) : AllB (opsB d) := by
  induction d with
  | nil => intro x hx; simp [opsB] at hx
  | cons o r ih => exact (opB_all (h o List.mem_cons_self)).append (ih fun o ho => h o (List.mem_cons_of_mem _ ho))
theorem checkF_len {d : List Op5} (h : (checkF d).1 = 0) : d.length ≤ 14 := by
  unfold checkF at h
  split at h
  · exact absurd h (by decide)
  · omega
theorem deedB_all {d : List Op5} (h : (checkF d).1 = 0) : AllB (deedB d) := by
  intro x hx
  have := checkF_len h
  rcases List.mem_cons.1 hx with rfl | hx
  · unfold IsB; omega
  · exact opsB_all (checkF_alone h) x hx
theorem deedsB_length {r : List (List Op5)} (h : ∀ d ∈ r, (checkF d).1 = 0) : (deedsB r).length ≤ 141 * r.length := by
  induction r with
  | nil => simp [deedsB]
  | cons d r ih =>
    have h1 := opsB_length d
    have h2 := checkF_len (h d List.mem_cons_self)
    have h3 := ih fun o ho => h o (List.mem_cons_of_mem _ ho)
    simp only [deedsB, deedB, List.length_append, List.length_cons]; omega
theorem deedsB_all {r : List (List Op5)} (h : ∀ d ∈ r, (checkF d).1 = 0) : AllB (deedsB r) := by
  induction r with
  | nil => intro x hx; simp [deedsB] at hx
  | cons o r ih => exact (deedB_all (h o List.mem_cons_self)).append (ih fun o ho => h o (List.mem_cons_of_mem _ ho))
theorem bodyB_length {r : List (List Op5)} (h : roundF r = 0) : (bodyB r).length ≤ 1129 := by
  obtain ⟨h1, h2⟩ := roundF_zero.1 h
  have := deedsB_length h2
  simp only [bodyB, List.length_cons]; omega
theorem bodyB_all {r : List (List Op5)} (h : roundF r = 0) : AllB (bodyB r) := by
  obtain ⟨h1, h2⟩ := roundF_zero.1 h
  intro x hx
  rcases List.mem_cons.1 hx with rfl | hx
  · unfold IsB; omega
  · exact deedsB_all h2 x hx
theorem encB_length {r : List (List Op5)} : (encB r).length = (bodyB r).length + 2 := rfl
theorem encB_all {r : List (List Op5)} (h : roundF r = 0) : AllB (encB r) := by
  have := bodyB_length h
  intro x hx
  rcases List.mem_cons.1 hx with rfl | hx
  · unfold IsB; omega
  rcases List.mem_cons.1 hx with rfl | hx
  · unfold IsB; omega
  · exact bodyB_all h x hx

theorem opsB_append (d e : List Op5) : opsB (d ++ e) = opsB d ++ opsB e := by
  induction d with
  | nil => rfl
  | cons o d ih => simp only [List.cons_append, opsB, ih, List.append_assoc]
theorem deedsB_append (d e : List (List Op5)) : deedsB (d ++ e) = deedsB d ++ deedsB e := by
  induction d with
  | nil => rfl
  | cons o d ih => simp only [List.cons_append, deedsB, ih, List.append_assoc]
theorem opsB_take {d : List Op5} {j : Nat} (h : j < d.length) : opsB (d.take (j + 1)) = opsB (d.take j) ++ opB d[j] := by
  rw [List.take_succ_eq_append_getElem h, opsB_append]; simp [opsB]
theorem deedsB_take {r : List (List Op5)} {j : Nat} (h : j < r.length) : deedsB (r.take (j + 1)) = deedsB (r.take j) ++ deedB r[j] := by
  rw [List.take_succ_eq_append_getElem h, deedsB_append]; simp [deedsB]

theorem readOp_opB {o : Op5} (h : aloneF o = 0) (hn : N64 o) (l : List Int) : readOp (opB o ++ l) = some (o, l) := by
  obtain ⟨h1, h2, h3, h4, h5, h6, h7, h8, h9, h10⟩ := alone_partsC h
  obtain ⟨k, a, b, c, n⟩ := o
  simp only at *
  unfold opB
  by_cases hk : k = 1
  · subst hk
    obtain ⟨h11, rfl, rfl⟩ := h9 rfl
    have hl : ((numB 8 n ++ l).take 8) = numB 8 n := by rw [List.take_append_of_le_length (by simp [numB_length]), List.take_of_length_le (by simp [numB_length])]
    have hd : ((numB 8 n ++ l).drop 8) = l := by rw [List.drop_append_of_le_length (by simp [numB_length]), List.drop_of_length_le (by simp [numB_length])]; rfl
    simp only [if_true, List.cons_append, readOp, hl, hd, sgn_num n hn.1 hn.2]
    rw [if_neg (by simp [numB_length])]
  · simp only [if_neg hk, List.cons_append, List.nil_append, readOp]
    rw [show (a + 16 * b) % 16 = a by omega, show (a + 16 * b) / 16 = b by omega, h10 hk]
theorem readOps_opsB {d : List Op5} (h : ∀ o ∈ d, aloneF o = 0) (hn : D64 d) (l : List Int) : readOps d.length (opsB d ++ l) = some (d, l) := by
  induction d with
  | nil => rfl
  | cons o r ih =>
    simp only [List.length_cons, readOps, opsB, List.append_assoc, readOp_opB (h o List.mem_cons_self) (hn o List.mem_cons_self), ih (fun o ho => h o (List.mem_cons_of_mem _ ho)) (fun o ho => hn o (List.mem_cons_of_mem _ ho))]
theorem readDeed_deedB {d : List Op5} (h : (checkF d).1 = 0) (hn : D64 d) (l : List Int) : readDeed (deedB d ++ l) = some (d, l) := by
  simp only [deedB, List.cons_append, readDeed, Int.toNat_natCast]
  exact readOps_opsB (checkF_alone h) hn l
theorem readDeeds_deedsB {r : List (List Op5)} (h : ∀ d ∈ r, (checkF d).1 = 0) (hn : R64 r) (l : List Int) : readDeeds r.length (deedsB r ++ l) = some (r, l) := by
  induction r with
  | nil => rfl
  | cons o r ih =>
    simp only [List.length_cons, readDeeds, deedsB, List.append_assoc, readDeed_deedB (h o List.mem_cons_self) (hn o List.mem_cons_self), ih (fun o ho => h o (List.mem_cons_of_mem _ ho)) (fun o ho => hn o (List.mem_cons_of_mem _ ho))]
theorem readAll_bodyB {r : List (List Op5)} (h : roundF r = 0) (hn : R64 r) : readAll (bodyB r) = some r := by
  have := readDeeds_deedsB (roundF_zero.1 h).2 hn []
  rw [List.append_nil] at this
  simp only [readAll, bodyB, readRound, Int.toNat_natCast, this]

theorem dec_enc {r : List (List Op5)} (h : roundF r = 0) (hn : R64 r) (l : List Int) : decF (encB r ++ l) = (r, ((encB r).length : Int), 0) := by
  have e : ((bodyB r).length : Int) % 256 + 256 * (((bodyB r).length : Int) / 256) = ((bodyB r).length : Int) := by omega
  have e2 : (2 : Int) + ((bodyB r).length : Int) % 256 + 256 * (((bodyB r).length : Int) / 256) = ((encB r).length : Int) := by simp only [encB_length]; omega
  simp only [encB, List.cons_append, decF]
  rw [if_neg (by rw [e, List.length_append]; omega), e, Int.toNat_natCast, List.take_append_of_le_length (Nat.le_refl _), List.take_length, readAll_bodyB h hn]
  simp only [h]
  rw [if_neg (by simp), e2]
  rfl

theorem opB_readOp {l : List Int} (hl : AllB l) {o : Op5} {l' : List Int} (h : readOp l = some (o, l')) : opB o ++ l' = l := by
  match l with
  | [] => simp [readOp] at h
  | [_] => simp [readOp] at h
  | k :: a :: l2 =>
    simp only [readOp] at h
    by_cases hk : k = 1
    · subst hk
      rw [if_pos rfl] at h
      by_cases h8 : l2.length < 8
      · rw [if_pos h8] at h; simp at h
      · rw [if_neg h8] at h
        simp only [Option.some.injEq, Prod.mk.injEq] at h
        obtain ⟨rfl, rfl⟩ := h
        simp only [opB, if_true, List.cons_append]
        rw [num_sgn _ ((hl.tail.tail).take 8) (by rw [List.length_take]; omega), List.take_append_drop]
    · rw [if_neg hk] at h
      cases l2 with
      | nil => simp at h
      | cons c l3 =>
        simp only [Option.some.injEq, Prod.mk.injEq] at h
        obtain ⟨rfl, rfl⟩ := h
        simp only [opB, if_neg hk, List.cons_append, List.nil_append]
        rw [show a % 16 + 16 * (a / 16) = a by omega]
theorem opsB_readOps {n : Nat} {l : List Int} (hl : AllB l) {d : List Op5} {l' : List Int} (h : readOps n l = some (d, l')) : d.length = n ∧ opsB d ++ l' = l := by
  induction n generalizing l d l' with
  | zero => simp only [readOps, Option.some.injEq, Prod.mk.injEq] at h; obtain ⟨rfl, rfl⟩ := h; exact ⟨rfl, rfl⟩
  | succ n ih =>
    simp only [readOps] at h
    cases h1 : readOp l with
    | none => rw [h1] at h; simp at h
    | some x =>
      obtain ⟨o, l1⟩ := x
      rw [h1] at h
      simp only at h
      have e1 := opB_readOp hl h1
      have hl1 : AllB l1 := fun x hx => hl x (by rw [← e1]; exact List.mem_append_right _ hx)
      cases h2 : readOps n l1 with
      | none => rw [h2] at h; simp at h
      | some y =>
        obtain ⟨d2, l2⟩ := y
        rw [h2] at h
        simp only [Option.some.injEq, Prod.mk.injEq] at h
        obtain ⟨rfl, rfl⟩ := h
        obtain ⟨e2, e3⟩ := ih hl1 h2
        exact ⟨by simp [e2], by simp only [opsB, List.append_assoc]; rw [e3, e1]⟩
theorem deedB_readDeed {l : List Int} (hl : AllB l) {d : List Op5} {l' : List Int} (h : readDeed l = some (d, l')) : deedB d ++ l' = l := by
  cases l with
  | nil => simp [readDeed] at h
  | cons n l =>
    have hn := hl.head
    unfold IsB at hn
    obtain ⟨e1, e2⟩ := opsB_readOps hl.tail h
    simp only [deedB, List.cons_append, e2, e1]
    congr 1
    omega
theorem deedsB_readDeeds {n : Nat} {l : List Int} (hl : AllB l) {d : List (List Op5)} {l' : List Int} (h : readDeeds n l = some (d, l')) : d.length = n ∧ deedsB d ++ l' = l := by
  induction n generalizing l d l' with
  | zero => simp only [readDeeds, Option.some.injEq, Prod.mk.injEq] at h; obtain ⟨rfl, rfl⟩ := h; exact ⟨rfl, rfl⟩
  | succ n ih =>
    simp only [readDeeds] at h
    cases h1 : readDeed l with
    | none => rw [h1] at h; simp at h
    | some x =>
      obtain ⟨o, l1⟩ := x
      rw [h1] at h
      simp only at h
      have e1 := deedB_readDeed hl h1
      have hl1 : AllB l1 := fun x hx => hl x (by rw [← e1]; exact List.mem_append_right _ hx)
      cases h2 : readDeeds n l1 with
      | none => rw [h2] at h; simp at h
      | some y =>
        obtain ⟨d2, l2⟩ := y
        rw [h2] at h
        simp only [Option.some.injEq, Prod.mk.injEq] at h
        obtain ⟨rfl, rfl⟩ := h
        obtain ⟨e2, e3⟩ := ih hl1 h2
        exact ⟨by simp [e2], by simp only [deedsB, List.append_assoc]; rw [e3, e1]⟩
theorem bodyB_readAll {l : List Int} (hl : AllB l) {r : List (List Op5)} (h : readAll l = some r) : bodyB r = l := by
  cases l with
  | nil => simp [readAll, readRound] at h
  | cons n l =>
    have hn := hl.head
    unfold IsB at hn
    simp only [readAll, readRound] at h
    cases h1 : readDeeds n.toNat l with
    | none => rw [h1] at h; simp at h
    | some x =>
      obtain ⟨d, l1⟩ := x
      rw [h1] at h
      cases l1 with
      | cons y l1 => simp at h
      | nil =>
        simp only [Option.some.injEq] at h
        subst h
        obtain ⟨e1, e2⟩ := deedsB_readDeeds hl.tail h1
        rw [List.append_nil] at e2
        simp only [bodyB, e1, e2]
        congr 1
        omega

theorem deedsB_mem {r : List (List Op5)} {d : List Op5} (h : d ∈ r) : (d.length : Int) ∈ deedsB r := by
  induction r with
  | nil => cases h
  | cons e r ih =>
    rcases List.mem_cons.1 h with rfl | h
    · exact List.mem_append_left _ List.mem_cons_self
    · exact List.mem_append_right _ (ih h)
/-- What is read is no longer than bytes can tell. -/
theorem readAll_fits {l : List Int} (hl : AllB l) {r : List (List Op5)} (h : readAll l = some r) : r.length < 256 ∧ ∀ d ∈ r, d.length < 256 := by
  have e := bodyB_readAll hl h
  rw [← e] at hl
  have h0 := hl.head
  unfold IsB at h0
  refine ⟨by omega, fun d hd => ?_⟩
  have h1 := hl.tail _ (deedsB_mem hd)
  unfold IsB at h1
  omega

/-- A code: nothing is told. -/
theorem dec_bad {b : List Int} (h : (decF b).2.2 ≠ 0) : decF b = ([], 0, (decF b).2.2) := by
  match b, h with
  | [], _ => rfl
  | [_], _ => rfl
  | x :: y :: l, h =>
    by_cases h1 : (l.length : Int) < x + 256 * y
    · simp only [decF, if_pos h1]
    · simp only [decF, if_neg h1] at h ⊢
      cases h2 : readAll (l.take (x + 256 * y).toNat) with
      | none => rfl
      | some r =>
        simp only [h2] at h ⊢
        by_cases h3 : roundF r = 0
        · rw [if_neg (by simp [h3])] at h; exact absurd rfl h
        · rw [if_pos h3]

/-- BYTES THAT BEGIN WITH A ROUND BEGIN WITH ITS BYTES. -/
theorem enc_dec {b : List Int} (hb : AllB b) (h : (decF b).2.2 = 0) : roundF (decF b).1 = 0 ∧ (decF b).2.1 = ((encB (decF b).1).length : Int) ∧ ∃ l, b = encB (decF b).1 ++ l := by
  match b, hb, h with
  | [], _, h => simp [decF] at h
  | [_], _, h => simp [decF] at h
  | x :: y :: l, hb, h =>
    have hx := hb.head
    have hy := hb.tail.head
    unfold IsB at hx hy
    by_cases h1 : (l.length : Int) < x + 256 * y
    · simp only [decF, if_pos h1] at h; exact absurd h (by decide)
    · simp only [decF, if_neg h1] at h ⊢
      cases h2 : readAll (l.take (x + 256 * y).toNat) with
      | none => simp only [h2] at h; exact absurd h (by decide)
      | some r =>
        simp only [h2] at h ⊢
        by_cases h3 : roundF r = 0
        · rw [if_neg (by simp [h3])]
          have e := bodyB_readAll (hb.tail.tail.take _) h2
          have el : ((bodyB r).length : Int) = x + 256 * y := by rw [e, List.length_take]; omega
          refine ⟨h3, by simp only [encB_length]; omega, l.drop (x + 256 * y).toNat, ?_⟩
          simp only [encB, el, List.cons_append]
          rw [e, List.take_append_drop]
          congr 1
          · omega
          · congr 1; omega
        · rw [if_pos h3] at h; exact absurd h h3

/-- WHAT IS CUT IS NONE. -/
theorem dec_cut {r : List (List Op5)} {m : Nat} (hm : m < (encB r).length) : decF ((encB r).take m) = ([], 0, 6) := by
  match m, hm with
  | 0, _ => rfl
  | 1, _ => rfl
  | m + 2, hm =>
    have e : ((bodyB r).length : Int) % 256 + 256 * (((bodyB r).length : Int) / 256) = ((bodyB r).length : Int) := by omega
    rw [encB_length] at hm
    simp only [encB, List.take_succ_cons, decF]
    rw [if_pos (by rw [e, List.length_take]; omega)]

/-- Two rounds with the same bytes are the same. -/
theorem enc_inj {r q : List (List Op5)} (h : roundF r = 0) (k : roundF q = 0) (hr : R64 r) (hq : R64 q) (e : encB r = encB q) : r = q := by
  have h1 := dec_enc h hr []
  have h2 := dec_enc k hq []
  rw [e, h2] at h1
  exact (congrArg Prod.fst h1).symm

end Go.Proofs.YtehkjbpgibdgpadGreatDoor
namespace Go.Proofs.YtehkjbpgibdgpadGreatDoor

/-- A round that may be done, and that its bytes tell. -/
def Good (r : List (List Op5)) : Prop := roundF r = 0 ∧ readAll (bodyB r) = some r
theorem good_of {r : List (List Op5)} (h : roundF r = 0) (hn : R64 r) : Good r := ⟨h, readAll_bodyB h hn⟩
theorem Good.dec {r : List (List Op5)} (h : Good r) (l : List Int) : decF (encB r ++ l) = (r, ((encB r).length : Int), 0) := by
  have e : ((bodyB r).length : Int) % 256 + 256 * (((bodyB r).length : Int) / 256) = ((bodyB r).length : Int) := by omega
  have e2 : (2 : Int) + ((bodyB r).length : Int) % 256 + 256 * (((bodyB r).length : Int) / 256) = ((encB r).length : Int) := by simp only [encB_length]; omega
  simp only [encB, List.cons_append, decF]
  rw [if_neg (by rw [e, List.length_append]; omega), e, Int.toNat_natCast, List.take_append_of_le_length (Nat.le_refl _), List.take_length, h.2]
  simp only [h.1]
  rw [if_neg (by simp), e2]
  rfl
theorem dec_good {b : List Int} (hb : AllB b) (h : (decF b).2.2 = 0) : ∃ r l, decF b = (r, ((encB r).length : Int), 0) ∧ Good r ∧ b = encB r ++ l := by
  obtain ⟨h1, h2, l, h3⟩ := enc_dec hb h
  refine ⟨(decF b).1, l, by rw [← h2, ← h], ⟨h1, ?_⟩, h3⟩
  match b, hb, h with
  | [], _, h => simp [decF] at h
  | [_], _, h => simp [decF] at h
  | x :: y :: l, hb, h =>
    by_cases k1 : (l.length : Int) < x + 256 * y
    · simp only [decF, if_pos k1] at h; exact absurd h (by decide)
    · simp only [decF, if_neg k1] at h ⊢
      cases k2 : readAll (l.take (x + 256 * y).toNat) with
      | none => simp only [k2] at h; exact absurd h (by decide)
      | some r =>
        simp only [k2] at h ⊢
        by_cases k3 : roundF r = 0
        · rw [if_neg (by simp [k3])]
          rw [bodyB_readAll (hb.tail.tail.take _) k2]
          exact k2
        · rw [if_pos k3] at h; exact absurd h k3
theorem enc_pos (r : List (List Op5)) : 3 ≤ (encB r).length := by rw [encB_length]; simp [bodyB]
theorem Good.len {r : List (List Op5)} (h : Good r) : (encB r).length ≤ 1131 := by rw [encB_length]; have := bodyB_length h.1; omega

/-- The bytes of rounds, one behind the other. -/
def allB : List (List (List Op5)) → List Int
  | [] => []
  | r :: l => encB r ++ allB l
theorem allB_append (l m : List (List (List Op5))) : allB (l ++ m) = allB l ++ allB m := by
  induction l with
  | nil => rfl
  | cons r l ih => simp only [List.cons_append, allB, ih, List.append_assoc]
theorem allB_snoc (l : List (List (List Op5))) (r : List (List Op5)) : allB (l ++ [r]) = allB l ++ encB r := by rw [allB_append]; simp [allB]
theorem allB_all {l : List (List (List Op5))} (h : ∀ r ∈ l, Good r) : AllB (allB l) := by
  induction l with
  | nil => intro x hx; simp [allB] at hx
  | cons r l ih => exact (encB_all (h r List.mem_cons_self).1).append (ih fun q hq => h q (List.mem_cons_of_mem _ hq))

/-- How many bytes the first i rounds have. -/
def endB (l : List (List (List Op5))) (i : Nat) : Nat := (allB (l.take i)).length
theorem endB_zero (l : List (List (List Op5))) : endB l 0 = 0 := by simp [endB, allB]
theorem endB_all (l : List (List (List Op5))) : endB l l.length = (allB l).length := by simp [endB]
theorem endB_succ {l : List (List (List Op5))} {i : Nat} (h : i < l.length) : endB l (i + 1) = endB l i + (encB l[i]).length := by
  unfold endB
  rw [List.take_succ_eq_append_getElem h, allB_snoc, List.length_append]
theorem endB_mono {l : List (List (List Op5))} {i j : Nat} (h : i ≤ j) (hj : j ≤ l.length) : endB l i ≤ endB l j := by
  induction j with
  | zero => obtain rfl : i = 0 := by omega
            exact Nat.le_refl _
  | succ j ih =>
    by_cases e : i = j + 1
    · subst e; exact Nat.le_refl _
    · have := ih (by omega) (by omega)
      rw [endB_succ (by omega)]; omega
theorem endB_lt {l : List (List (List Op5))} {i j : Nat} (h : i < j) (hj : j ≤ l.length) : endB l i < endB l j := by
  have h1 := endB_mono (l := l) (i := i + 1) (j := j) (by omega) hj
  have h2 := endB_succ (l := l) (i := i) (by omega)
  have := enc_pos l[i]
  omega
theorem endB_le {l : List (List (List Op5))} {i : Nat} (hi : i ≤ l.length) : endB l i ≤ (allB l).length := by rw [← endB_all]; exact endB_mono hi (Nat.le_refl _)
theorem endB_le_iff {l : List (List (List Op5))} {i j : Nat} (hi : i ≤ l.length) (hj : j ≤ l.length) : endB l i ≤ endB l j ↔ i ≤ j := by
  constructor
  · intro h
    by_cases e : i ≤ j
    · exact e
    · have := endB_lt (l := l) (i := j) (j := i) (by omega) hi
      omega
  · intro h; exact endB_mono h hj
theorem endB_take (l : List (List (List Op5))) {i n : Nat} (h : i ≤ n) : endB (l.take n) i = endB l i := by
  unfold endB; rw [List.take_take, Nat.min_eq_left h]
theorem endB_append (l m : List (List (List Op5))) {i : Nat} (h : i ≤ l.length) : endB (l ++ m) i = endB l i := by
  unfold endB; rw [List.take_append_of_le_length h]
theorem allB_take_drop (l : List (List (List Op5))) (i : Nat) : allB l = allB (l.take i) ++ allB (l.drop i) := by rw [← allB_append, List.take_append_drop]
theorem allB_take (l : List (List (List Op5))) (i : Nat) : (allB l).take (endB l i) = allB (l.take i) := by
  rw [allB_take_drop l i]; unfold endB; exact List.take_left
theorem allB_drop (l : List (List (List Op5))) (i : Nat) : (allB l).drop (endB l i) = allB (l.drop i) := by
  rw [allB_take_drop l i]; unfold endB; exact List.drop_left
theorem allB_at {l : List (List (List Op5))} {i : Nat} (h : i < l.length) : allB (l.drop i) = encB l[i] ++ allB (l.drop (i + 1)) := by
  rw [List.drop_eq_getElem_cons h]; rfl

/-- Of each round, where it ends. -/
def endsB (l : List (List (List Op5))) : List Int := (List.range l.length).map fun i => (endB l (i + 1) : Int)
theorem endsB_length (l : List (List (List Op5))) : (endsB l).length = l.length := by simp [endsB]
theorem endsB_get (l : List (List (List Op5))) {i : Nat} (h : i < (endsB l).length) : (endsB l)[i] = (endB l (i + 1) : Int) := by simp [endsB]
theorem endsB_snoc (l : List (List (List Op5))) (r : List (List Op5)) : endsB (l ++ [r]) = endsB l ++ [((allB (l ++ [r])).length : Int)] := by
  unfold endsB
  rw [List.length_append, List.length_singleton, List.range_succ, List.map_append]
  congr 1
  · apply List.map_congr_left
    intro i hi
    have : i < l.length := by simpa using hi
    rw [endB_append _ _ (by omega)]
  · simp only [List.map_cons, List.map_nil]
    rw [← endB_all, List.length_append, List.length_singleton]
theorem endsB_take (l : List (List (List Op5))) {n : Nat} (h : n ≤ l.length) : (endsB l).take n = endsB (l.take n) := by
  apply List.ext_getElem
  · simp [endsB]
  · intro i h1 h2
    rw [List.getElem_take, endsB_get, endsB_get, endB_take]
    simp [endsB] at h1; omega

/-- What a log is. -/
structure LogOk (l : List (List (List Op5))) (k : Nat) : Prop where
  good : ∀ r ∈ l, Good r
  few : l.length ≤ 25
  short : (allB l).length ≤ 4000
  sure : k ≤ l.length
theorem LogOk.nil : LogOk [] 0 := ⟨fun r hr => (by cases hr), by simp, by simp [allB], by simp⟩
theorem LogOk.all {l : List (List (List Op5))} {k : Nat} (h : LogOk l k) : AllB (allB l) := allB_all h.good
theorem LogOk.sync {l : List (List (List Op5))} {k : Nat} (h : LogOk l k) : LogOk l l.length := ⟨h.good, h.few, h.short, Nat.le_refl _⟩
theorem LogOk.cut {l : List (List (List Op5))} {k n : Nat} (h : LogOk l k) (hn : n ≤ l.length) : LogOk (l.take n) n :=
  ⟨fun r hr => h.good r (List.mem_of_mem_take hr), by have := h.few; simp; omega, by have := endB_le (l := l) hn; have := h.short; unfold endB at *; omega, by simp; omega⟩
theorem LogOk.endk {l : List (List (List Op5))} {k : Nat} (h : LogOk l k) : endB l k ≤ 4000 := Nat.le_trans (endB_le h.sure) h.short
/-- Is there room for so many bytes more? -/
def roomF (l : List (List (List Op5))) (n : Nat) : Bool := decide (l.length < 25) && decide ((allB l).length + n ≤ 4000)
theorem LogOk.put {l : List (List (List Op5))} {k : Nat} (h : LogOk l k) {r : List (List Op5)} (hr : Good r) (hroom : roomF l (encB r).length = true) : LogOk (l ++ [r]) k := by
  simp only [roomF, Bool.and_eq_true, decide_eq_true_eq] at hroom
  refine ⟨fun q hq => ?_, by simp; omega, by rw [allB_snoc, List.length_append]; omega, by have := h.sure; simp; omega⟩
  rcases List.mem_append.1 hq with hq | hq
  · exact h.good q hq
  · obtain rfl : q = r := by simpa using hq
    exact hr

/-- How many of the first n have a property. -/
theorem count_down (p : Nat → Bool) (n : Nat) (hp : ∀ i j, i < j → j < n → p j = true → p i = true) :
    ∃ c, ((List.range n).map p).countP id = c ∧ c ≤ n ∧ ∀ i, i < n → (p i = true ↔ i < c) := by
  induction n with
  | zero => exact ⟨0, rfl, Nat.le_refl _, fun i hi => by omega⟩
  | succ n ih =>
    obtain ⟨c, hc, hcn, hci⟩ := ih fun i j h1 h2 h3 => hp i j h1 (by omega) h3
    rw [List.range_succ, List.map_append, List.countP_append, hc]
    cases e : p n with
    | true =>
      refine ⟨n + 1, ?_, Nat.le_refl _, fun i hi => ⟨fun _ => hi, fun _ => ?_⟩⟩
      · have : c = n := by
          by_cases h : c = n
          · exact h
          · have h1 := hp c n (by omega) (by omega) e
            have := (hci c (by omega)).1 h1
            omega
        simp [this, e]
      · by_cases h : i = n
        · subst h; exact e
        · exact hp i n (by omega) (by omega) e
    | false =>
      refine ⟨c, by simp [e], by omega, fun i hi => ?_⟩
      by_cases h : i = n
      · subst h; simp [e]; omega
      · exact hci i (by omega)
/-- How many ends are as asked for. -/
def countF (p : Int → Bool) (l : List Int) : Nat := l.countP p
theorem countF_take {p : Int → Bool} {l : List Int} {j : Nat} (h : j < l.length) : countF p (l.take (j + 1)) = countF p (l.take j) + (if p l[j] then 1 else 0) := by
  unfold countF
  rw [List.take_succ_eq_append_getElem h, List.countP_append]
  simp [List.countP_cons]
theorem countF_le (p : Int → Bool) (l : List Int) : countF p l ≤ l.length := List.countP_le_length
theorem count_ends (p : Int → Bool) (l : List (List (List Op5))) (hp : ∀ x y : Int, x ≤ y → p y = true → p x = true) :
    countF p (endsB l) ≤ l.length ∧ ∀ i, i < l.length → (p (endB l (i + 1)) = true ↔ i < countF p (endsB l)) := by
  obtain ⟨c, h1, h2, h3⟩ := count_down (fun i => p (endB l (i + 1) : Int)) l.length (fun i j hij hj hpj => hp _ _ (by have := endB_mono (l := l) (i := i + 1) (j := j + 1) (by omega) (by omega); omega) hpj)
  have e : countF p (endsB l) = c := by
    rw [← h1]; unfold countF endsB
    rw [List.countP_map, List.countP_map]; rfl
  rw [e]; exact ⟨h2, h3⟩

/-- How many rounds are made sure of. -/
theorem count_sure {l : List (List (List Op5))} {k : Nat} (hk : k ≤ l.length) : countF (fun x => decide (x ≤ (endB l k : Int))) (endsB l) = k := by
  obtain ⟨h1, h2⟩ := count_ends (fun x => decide (x ≤ (endB l k : Int))) l (fun x y h hy => by simp at hy ⊢; omega)
  generalize countF (fun x => decide (x ≤ (endB l k : Int))) (endsB l) = c at *
  have key : ∀ i, i < l.length → (i < k ↔ i < c) := fun i hi => by
    rw [← h2 i hi, decide_eq_true_eq]
    have := endB_le_iff (l := l) (i := i + 1) (j := k) (by omega) hk
    omega
  have a := key c
  have b := key k
  omega

/-- How many rounds a crash leaves. -/
def wholeF (l : List (List (List Op5))) (k : Nat) (m : Int) : Nat := countF (fun x => decide (x - (endB l k : Int) ≤ m)) (endsB l)
theorem whole_le (l : List (List (List Op5))) (k : Nat) (m : Int) : wholeF l k m ≤ l.length := by
  have := countF_le (fun x => decide (x - (endB l k : Int) ≤ m)) (endsB l)
  rw [endsB_length] at this; exact this
theorem whole_iff {l : List (List (List Op5))} {k : Nat} {m : Int} {i : Nat} (hi : i < l.length) : (endB l (i + 1) : Int) - (endB l k : Int) ≤ m ↔ i < wholeF l k m := by
  have := (count_ends (fun x => decide (x - (endB l k : Int) ≤ m)) l (fun x y h hy => by simp at hy ⊢; omega)).2 i hi
  rw [decide_eq_true_eq] at this
  exact this
theorem whole_ge {l : List (List (List Op5))} {k : Nat} {m : Int} (hk : k ≤ l.length) (hm : 0 ≤ m) : k ≤ wholeF l k m := by
  by_cases h : k = 0
  · omega
  · have := (whole_iff (l := l) (k := k) (m := m) (i := k - 1) (by omega)).1 (by rw [show k - 1 + 1 = k by omega]; omega)
    omega
theorem whole_none {l : List (List (List Op5))} {k : Nat} (hk : k ≤ l.length) : wholeF l k 0 = k := by
  have h1 := whole_ge (l := l) (m := 0) hk (by omega)
  have h2 := whole_le l k 0
  by_cases h : wholeF l k 0 = k
  · exact h
  · have h3 := (whole_iff (l := l) (k := k) (m := 0) (i := k) (by omega)).2 (by omega)
    have := endB_lt (l := l) (i := k) (j := k + 1) (by omega) (by omega)
    omega
theorem whole_all {l : List (List (List Op5))} {k : Nat} {m : Int} (hm : ((allB l).length : Int) ≤ m) : wholeF l k m = l.length := by
  have h2 := whole_le l k m
  by_cases h : wholeF l k m = l.length
  · exact h
  · have h3 := (whole_iff (l := l) (k := k) (m := m) (i := wholeF l k m) (by omega)).1 (by have := endB_le (l := l) (i := wholeF l k m + 1) (by omega); omega)
    omega
theorem whole_sure {l : List (List (List Op5))} {m : Int} (hm : 0 ≤ m) : wholeF l l.length m = l.length := by
  have := whole_ge (l := l) (k := l.length) (Nat.le_refl _) hm
  have := whole_le l l.length m
  omega

/-- Of two rows of rounds whose bytes begin alike, one begins with the other one. -/
theorem all_prefix {x r : List (List (List Op5))} {s t : List Int} (hx : ∀ q ∈ x, Good q) (hr : ∀ q ∈ r, Good q) (e : allB x ++ s = allB r ++ t) :
    (∃ y, x = r ++ y ∧ t = allB y ++ s) ∨ (∃ q y, r = x ++ q :: y ∧ s = allB (q :: y) ++ t) := by
  induction x generalizing r with
  | nil =>
    cases r with
    | nil => exact .inl ⟨[], rfl, by simpa [allB] using e.symm⟩
    | cons q r => exact .inr ⟨q, r, rfl, by simpa [allB] using e⟩
  | cons q x ih =>
    cases r with
    | nil => exact .inl ⟨q :: x, rfl, by simpa [allB] using e.symm⟩
    | cons p r =>
      simp only [allB, List.append_assoc] at e
      have h1 := (hx q List.mem_cons_self).dec (allB x ++ s)
      have h2 := (hr p List.mem_cons_self).dec (allB r ++ t)
      rw [e, h2] at h1
      obtain rfl : p = q := congrArg Prod.fst h1
      have e' := List.append_cancel_left e
      rcases ih (fun a ha => hx a (List.mem_cons_of_mem _ ha)) (fun a ha => hr a (List.mem_cons_of_mem _ ha)) e' with ⟨y, rfl, h⟩ | ⟨q', y, rfl, h⟩
      · exact .inl ⟨y, rfl, h⟩
      · exact .inr ⟨q', y, rfl, h⟩

/-- No round more, of these bytes, comes behind these. -/
def Stops (l : List (List (List Op5))) (s : List Int) : Prop := ∀ r t, Good r → s = encB r ++ t → roomF l (encB r).length = false
theorem stops_bad {l : List (List (List Op5))} {s : List Int} (h : (decF s).2.2 ≠ 0) : Stops l s := fun r t hr e => by rw [e, hr.dec] at h; exact absurd rfl h
theorem stops_full {l : List (List (List Op5))} {s t : List Int} {r : List (List Op5)} (hr : Good r) (e : s = encB r ++ t) (h : roomF l (encB r).length = false) : Stops l s := fun q u hq e' => by
  have h1 := hr.dec t
  have h2 := hq.dec u
  rw [← e] at h1
  rw [← e', h1] at h2
  obtain rfl : r = q := congrArg Prod.fst h2
  exact h
theorem room_part {l y : List (List (List Op5))} {r : List (List Op5)} {k : Nat} (h : LogOk (l ++ r :: y) k) : roomF l (encB r).length = true := by
  have h1 := h.few
  have h2 := h.short
  rw [allB_append, List.length_append] at h2
  simp only [allB, List.length_append, List.length_cons] at h1 h2
  simp only [roomF, Bool.and_eq_true, decide_eq_true_eq]
  omega

/-- ITS BYTES ARE ITS ROUNDS: what is opened of some with which a log's bytes begin. -/
theorem opens_cut {x r : List (List (List Op5))} {s : List Int} {k c n : Nat} (hx : LogOk x c) (hr : LogOk r k) (hn : n ≤ (allB r).length) (e : (allB r).take n = allB x ++ s) (hs : Stops x s) :
    ∃ y, r = x ++ y ∧ (allB x).length ≤ n ∧ (x.length < r.length → n < endB r (x.length + 1)) := by
  have e' : allB x ++ (s ++ (allB r).drop n) = allB r ++ [] := by rw [← List.append_assoc, ← e, List.take_append_drop, List.append_nil]
  have hle : (allB x).length ≤ n := by have := congrArg List.length e; simp at this; omega
  rcases all_prefix hx.good hr.good e' with ⟨y, rfl, h⟩ | ⟨q, y, rfl, h⟩
  · have h0 := congrArg List.length h
    cases y with
    | nil => exact ⟨[], by simp, hle, fun h => by simp at h⟩
    | cons q y => have := enc_pos q; simp only [allB, List.length_nil, List.length_append] at h0; omega
  · refine ⟨q :: y, rfl, hle, fun _ => ?_⟩
    by_cases h1 : n < endB (x ++ q :: y) (x.length + 1)
    · exact h1
    · exfalso
      have h2 : endB (x ++ q :: y) (x.length + 1) = (allB x).length + (encB q).length := by
        unfold endB
        rw [show (x ++ q :: y).take (x.length + 1) = x ++ [q] by rw [List.take_append, List.take_of_length_le (by omega)]; simp, allB_snoc, List.length_append]
      have h3 : s = encB q ++ (allB y).take (n - (allB x).length - (encB q).length) := by
        have := e
        rw [allB_append, List.take_append, List.take_of_length_le hle] at this
        have := (List.append_cancel_left this).symm
        rw [this]
        simp only [allB]
        rw [List.take_append, List.take_of_length_le (by omega)]
      have h4 := hs q _ (hr.good q (by simp)) h3
      rw [room_part hr] at h4
      cases h4
/-- With more behind them there are as many at least. -/
theorem opens_more {x r : List (List (List Op5))} {s t : List Int} {k c : Nat} (hx : LogOk x c) (hr : LogOk r k) (e : allB r ++ t = allB x ++ s) (hs : Stops x s) : (allB r).length ≤ (allB x).length ∧ r.length ≤ x.length := by
  rcases all_prefix hx.good hr.good e.symm with ⟨y, rfl, h⟩ | ⟨q, y, rfl, h⟩
  · rw [allB_append]; simp
  · exfalso
    simp only [allB, List.append_assoc] at h
    have h4 := hs q _ (hr.good q (by simp)) h
    rw [room_part hr] at h4
    cases h4
end Go.Proofs.YtehkjbpgibdgpadGreatDoor
