/-
  What code.Check, code.Round and the loops inside them reckon, as plain functions on lists of integers; and what the law leans on. Nothing of the program's text is imported here.
-/
namespace Go.Proofs.YtdohockbmphhfacDoor

/-- An operation: its kind, A, B, C, N. -/
structure Op5 where
  k : Int
  a : Int
  b : Int
  c : Int
  n : Int

def partF (p l : Int) : Int := if l = 0 then (if p = 0 then 0 else 3) else if p < 0 ∨ l ≤ p then 1 else 0

/-- The limits of a kind's parts, by the kind and the part's number. -/
def limF (k : Int) (j : Nat) : Int :=
  match k, j with
  | 1, 0 => 4
  | 2, 0 => 4 | 2, 1 => 10
  | 3, 0 => 4 | 3, 1 => 4 | 3, 2 => 4
  | 4, 0 => 4 | 4, 1 => 4 | 4, 2 => 4
  | 5, 0 => 4 | 5, 1 => 4 | 5, 2 => 4
  | 6, 0 => 4 | 6, 1 => 4 | 6, 2 => 4
  | 7, 0 => 10 | 7, 1 => 4
  | 8, 0 => 4
  | 9, 0 => 4 | 9, 1 => 14
  | _, _ => 0

/-- The code of an operation alone. -/
def aloneF (o : Op5) : Int :=
  if o.k < 1 ∨ 9 < o.k then 2
  else if partF o.a (limF o.k 0) ≠ 0 then partF o.a (limF o.k 0)
  else if partF o.b (limF o.k 1) ≠ 0 then partF o.b (limF o.k 1)
  else if partF o.c (limF o.k 2) ≠ 0 then partF o.c (limF o.k 2)
  else if o.n ≠ 0 ∧ o.k ≠ 1 then 3
  else 0

/-- The fault of places from number i on, of a deed of n operations; 'stored': an OStore stands ahead. -/
def placesF (n : Nat) : Nat → Bool → List Op5 → Int × Int
  | _, _, [] => (0, 0)
  | i, stored, o :: r =>
    if o.k = 7 then placesF n (i + 1) true r
    else if o.k = 8 ∧ stored = true then (5, i)
    else if o.k = 9 ∧ (o.b < 1 ∨ (n : Int) - 1 - i < o.b) then (1, i)
    else placesF n (i + 1) stored r

/-- The first fault of an operation alone from number i on; none: what stands behind. -/
def firstF (z : Int × Int) : Nat → List Op5 → Int × Int
  | _, [] => z
  | i, o :: r => if aloneF o ≠ 0 then (aloneF o, i) else firstF z (i + 1) r

def checkF (d : List Op5) : Int × Int :=
  if 14 < d.length then (4, -1) else firstF (placesF d.length 0 false d) 0 d

/-- The code of the first deed that has one. -/
def codesF : List (List Op5) → Int
  | [] => 0
  | d :: r => if (checkF d).1 ≠ 0 then (checkF d).1 else codesF r

def roundF (r : List (List Op5)) : Int := if 8 < r.length then 4 else codesF r

theorem codesF_zero {r : List (List Op5)} : codesF r = 0 ↔ ∀ d ∈ r, (checkF d).1 = 0 := by
  induction r with
  | nil => simp [codesF]
  | cons d r ih =>
    simp only [codesF, List.mem_cons]
    split
    · constructor
      · intro h; contradiction
      · intro h; exact absurd (h d (Or.inl rfl)) (by assumption)
    · rename_i h
      rw [ih]
      constructor
      · rintro h' x (rfl | hx)
        · exact Decidable.not_not.1 h
        · exact h' x hx
      · intro h' x hx; exact h' x (Or.inr hx)

theorem roundF_zero {r : List (List Op5)} : roundF r = 0 ↔ r.length ≤ 8 ∧ ∀ d ∈ r, (checkF d).1 = 0 := by
  unfold roundF
  split
  · constructor
    · intro h; exact absurd h (by decide)
    · intro h; omega
  · rw [codesF_zero]
    constructor
    · intro h; exact ⟨by omega, h⟩
    · intro h; exact h.2

/-- WITH FEWER BESIDE IT. -/
theorem roundF_less {r : List (List Op5)} (h : roundF r = 0) (i : Nat) : roundF (r.take i ++ r.drop (i + 1)) = 0 := by
  rw [roundF_zero] at h ⊢
  refine ⟨?_, fun d hd => h.2 d ?_⟩
  · simp only [List.length_append, List.length_take, List.length_drop]; omega
  · rcases List.mem_append.1 hd with hd | hd
    · exact List.mem_of_mem_take hd
    · exact List.mem_of_mem_drop hd

theorem firstF_alone {z : Int × Int} {d : List Op5} {i : Nat} (h : (firstF z i d).1 = 0) : ∀ o ∈ d, aloneF o = 0 := by
  induction d generalizing i with
  | nil => intro o ho; cases ho
  | cons x r ih =>
    simp only [firstF] at h
    split at h
    · contradiction
    · rename_i hx
      intro o ho
      rcases List.mem_cons.1 ho with rfl | ho
      · exact Decidable.not_not.1 hx
      · exact ih h o ho

theorem checkF_alone {d : List Op5} (h : (checkF d).1 = 0) : ∀ o ∈ d, aloneF o = 0 := by
  unfold checkF at h
  split at h
  · exact absurd h (by decide)
  · exact firstF_alone h

/-- OPERATION BY OPERATION. -/
theorem checkF_one {o : Op5} (h : aloneF o = 0) : checkF [o] = if o.k = 9 then (1, 0) else (0, 0) := by
  simp only [checkF, firstF, placesF, h, List.length_cons, List.length_nil]
  by_cases h9 : o.k = 9
  · simp [h9]; omega
  · simp [h9]

theorem alone_kind {o : Op5} (h : aloneF o = 0) : 1 ≤ o.k ∧ o.k ≤ 9 := by
  unfold aloneF at h
  split at h
  · exact absurd h (by decide)
  · omega

theorem aloneF_a {o : Op5} (h : ¬ (o.k < 1 ∨ 9 < o.k)) (h0 : ¬ partF o.a (limF o.k 0) = 0) : aloneF o = partF o.a (limF o.k 0) := by
  unfold aloneF; rw [if_neg h, if_pos h0]
theorem aloneF_b {o : Op5} (h : ¬ (o.k < 1 ∨ 9 < o.k)) (h0 : partF o.a (limF o.k 0) = 0) (h1 : ¬ partF o.b (limF o.k 1) = 0) : aloneF o = partF o.b (limF o.k 1) := by
  unfold aloneF; rw [if_neg h, if_neg (by simp [h0]), if_pos h1]
theorem aloneF_c {o : Op5} (h : ¬ (o.k < 1 ∨ 9 < o.k)) (h0 : partF o.a (limF o.k 0) = 0) (h1 : partF o.b (limF o.k 1) = 0) (h2 : ¬ partF o.c (limF o.k 2) = 0) : aloneF o = partF o.c (limF o.k 2) := by
  unfold aloneF; rw [if_neg h, if_neg (by simp [h0]), if_neg (by simp [h1]), if_pos h2]
theorem aloneF_n {o : Op5} (h : ¬ (o.k < 1 ∨ 9 < o.k)) (h0 : partF o.a (limF o.k 0) = 0) (h1 : partF o.b (limF o.k 1) = 0) (h2 : partF o.c (limF o.k 2) = 0) : aloneF o = if o.n ≠ 0 ∧ o.k ≠ 1 then 3 else 0 := by
  unfold aloneF; rw [if_neg h, if_neg (by simp [h0]), if_neg (by simp [h1]), if_neg (by simp [h2])]

theorem placesF_store {n : Nat} {d : List Op5} {j : Nat} {s : Bool} (h : j < d.length) (h7 : d[j].k = 7) : placesF n (j + 1) true (d.drop (j + 1)) = placesF n j s (d.drop j) := by
  rw [List.drop_eq_getElem_cons h]; simp only [placesF]; rw [if_pos h7]
theorem placesF_stop {n : Nat} {d : List Op5} {j : Nat} {s : Bool} (h : j < d.length) (h8 : d[j].k = 8) (hs : s = true) : placesF n j s (d.drop j) = (5, (j : Int)) := by
  rw [List.drop_eq_getElem_cons h]; simp only [placesF]; rw [if_neg (by omega), if_pos ⟨h8, hs⟩]
theorem placesF_skip {n : Nat} {d : List Op5} {j : Nat} {s : Bool} (h : j < d.length) (h9 : d[j].k = 9) (hb : d[j].b < 1 ∨ (n : Int) - 1 - j < d[j].b) : placesF n j s (d.drop j) = (1, (j : Int)) := by
  rw [List.drop_eq_getElem_cons h]; simp only [placesF]; rw [if_neg (by omega), if_neg (by omega), if_pos ⟨h9, hb⟩]
theorem placesF_next {n : Nat} {d : List Op5} {j : Nat} {s : Bool} (h : j < d.length) (h7 : ¬ d[j].k = 7) (h8 : ¬ (d[j].k = 8 ∧ s = true)) (h9 : ¬ (d[j].k = 9 ∧ (d[j].b < 1 ∨ (n : Int) - 1 - j < d[j].b))) : placesF n (j + 1) s (d.drop (j + 1)) = placesF n j s (d.drop j) := by
  rw [List.drop_eq_getElem_cons h]; simp only [placesF]; rw [if_neg h7, if_neg h8, if_neg h9]
theorem firstF_bad {d : List Op5} {j : Nat} (h : j < d.length) {z : Int × Int} (ho : ¬ aloneF d[j] = 0) : firstF z j (d.drop j) = (aloneF d[j], (j : Int)) := by
  rw [List.drop_eq_getElem_cons h]; simp only [firstF]; rw [if_pos ho]
theorem firstF_next {d : List Op5} {j : Nat} (h : j < d.length) {z : Int × Int} (ho : aloneF d[j] = 0) : firstF z (j + 1) (d.drop (j + 1)) = firstF z j (d.drop j) := by
  rw [List.drop_eq_getElem_cons h]; simp only [firstF]; rw [if_neg (by simp [ho])]
theorem codesF_bad {r : List (List Op5)} {j : Nat} (h : j < r.length) (ho : ¬ (checkF r[j]).1 = 0) : codesF (r.drop j) = (checkF r[j]).1 := by
  rw [List.drop_eq_getElem_cons h]; simp only [codesF]; rw [if_pos ho]
theorem codesF_next {r : List (List Op5)} {j : Nat} (h : j < r.length) (ho : (checkF r[j]).1 = 0) : codesF (r.drop (j + 1)) = codesF (r.drop j) := by
  rw [List.drop_eq_getElem_cons h]; simp only [codesF]; rw [if_neg (by simp [ho])]

end Go.Proofs.YtdohockbmphhfacDoor
