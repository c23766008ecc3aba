/-
  What codec.Encode, codec.Decode and the reader inside reckon, as plain functions on lists of integers; there and back. Nothing of the program's text is imported here.
-/
import Derived.Test.YtokjigebjcgdjacDoorMath
namespace Go.Proofs.YtokjigebjcgdjacDoor

/-- A byte. -/
def IsB (x : Int) : Prop := 0 ≤ x ∧ x < 256
def AllB (l : List Int) : Prop := ∀ x ∈ l, IsB x
theorem AllB.tail {x : Int} {l : List Int} (h : AllB (x :: l)) : AllB l := fun y hy => h y (List.mem_cons_of_mem _ hy)
theorem AllB.head {x : Int} {l : List Int} (h : AllB (x :: l)) : IsB x := h x List.mem_cons_self
theorem AllB.drop {l : List Int} (h : AllB l) (n : Nat) : AllB (l.drop n) := fun y hy => h y (List.mem_of_mem_drop hy)
theorem AllB.take {l : List Int} (h : AllB l) (n : Nat) : AllB (l.take n) := fun y hy => h y (List.mem_of_mem_take hy)
theorem AllB.append {l m : List Int} (h : AllB l) (k : AllB m) : AllB (l ++ m) := fun y hy => (List.mem_append.1 hy).elim (h y) (k y)

/-- The 8 bytes of a number, the lowest one first. -/
def numB : Nat → Int → List Int
  | 0, _ => []
  | i + 1, n => n % 256 :: numB i (n / 256)
/-- The number of bytes, the lowest one first. -/
def valB : List Int → Int
  | [] => 0
  | x :: l => x + 256 * valB l
/-- A number without sign as one with a sign. -/
def sgnF (v : Int) : Int := if v < 9223372036854775808 then v else v - 18446744073709551616

def opB (o : Op5) : List Int := if o.k = 1 then 1 :: o.a :: numB 8 o.n else [o.k, o.a + 16 * o.b, o.c]
def opsB : List Op5 → List Int
  | [] => []
  | o :: r => opB o ++ opsB r
def deedB (d : List Op5) : List Int := (d.length : Int) :: opsB d
def deedsB : List (List Op5) → List Int
  | [] => []
  | d :: r => deedB d ++ deedsB r
def bodyB (r : List (List Op5)) : List Int := (r.length : Int) :: deedsB r
def encB (r : List (List Op5)) : List Int := ((bodyB r).length : Int) % 256 :: ((bodyB r).length : Int) / 256 :: bodyB r

def readOp : List Int → Option (Op5 × List Int)
  | [] => none
  | [_] => none
  | k :: a :: l2 =>
    if k = 1 then (if l2.length < 8 then none else some (⟨1, a, 0, 0, sgnF (valB (l2.take 8))⟩, l2.drop 8))
    else match l2 with
      | [] => none
      | c :: l3 => some (⟨k, a % 16, a / 16, c, 0⟩, l3)
def readOps : Nat → List Int → Option (List Op5 × List Int)
  | 0, l => some ([], l)
  | n + 1, l => match readOp l with
    | none => none
    | some (o, l') => match readOps n l' with
      | none => none
      | some (d, l'') => some (o :: d, l'')
def readDeed : List Int → Option (List Op5 × List Int)
  | [] => none
  | n :: l => readOps n.toNat l
def readDeeds : Nat → List Int → Option (List (List Op5) × List Int)
  | 0, l => some ([], l)
  | n + 1, l => match readDeed l with
    | none => none
    | some (o, l') => match readDeeds n l' with
      | none => none
      | some (d, l'') => some (o :: d, l'')
def readRound : List Int → Option (List (List Op5) × List Int)
  | [] => none
  | n :: l => readDeeds n.toNat l
def readAll (l : List Int) : Option (List (List Op5)) :=
  match readRound l with
  | some (r, []) => some r
  | _ => none

/-- What Decode tells: the round, how many bytes, the code. -/
def decF (b : List Int) : List (List Op5) × Int × Int :=
  match b with
  | x :: y :: l =>
    if (l.length : Int) < x + 256 * y then ([], 0, 6)
    else match readAll (l.take (x + 256 * y).toNat) with
      | none => ([], 0, 3)
      | some r => if roundF r ≠ 0 then ([], 0, roundF r) else (r, 2 + x + 256 * y, 0)
  | _ => ([], 0, 6)

theorem numB_length (i : Nat) (n : Int) : (numB i n).length = i := by
  induction i generalizing n with
  | zero => rfl
  | succ i ih => simp [numB, ih]
theorem numB_all (i : Nat) (n : Int) : AllB (numB i n) := by
  induction i generalizing n with
  | zero => intro x hx; simp [numB] at hx
  | succ i ih =>
    intro x hx
    rcases List.mem_cons.1 hx with rfl | hx
    · unfold IsB; omega
    · exact ih _ x hx
theorem emod_two (n p : Int) : n % (256 * p) = n % 256 + 256 * (n / 256 % p) := by
  have := Int.ediv_ediv_of_nonneg (x := n) (y := 256) (z := p) (by omega)
  rw [Int.emod_def, Int.emod_def n 256, Int.emod_def (n / 256) p, this, Int.mul_sub, Int.mul_assoc]
  omega
theorem valB_numB (i : Nat) (n : Int) : valB (numB i n) = n % 256 ^ i := by
  induction i generalizing n with
  | zero => simp [numB, valB]
  | succ i ih =>
    simp only [numB, valB, ih]
    rw [Int.pow_succ, Int.mul_comm (256 ^ i) 256, emod_two]
theorem sgn_num (n : Int) (h0 : -9223372036854775808 ≤ n) (h1 : n < 9223372036854775808) : sgnF (valB (numB 8 n)) = n := by
  rw [valB_numB]
  unfold sgnF
  have : (256 : Int) ^ 8 = 18446744073709551616 := by decide
  rw [this]
  split <;> omega
theorem valB_lt (l : List Int) (h : AllB l) : 0 ≤ valB l ∧ valB l < 256 ^ l.length := by
  induction l with
  | nil => simp [valB]
  | cons x l ih =>
    have hx := h.head
    have := ih h.tail
    unfold IsB at hx
    simp only [valB, List.length_cons, Int.pow_succ]
    omega
theorem valB_snoc (l : List Int) (x : Int) : valB (l ++ [x]) = valB l + x * 256 ^ l.length := by
  induction l with
  | nil => simp [valB]
  | cons y l ih =>
    simp only [List.cons_append, valB, ih, List.length_cons, Int.pow_succ]
    rw [Int.mul_add, ← Int.add_assoc, ← Int.mul_assoc, Int.mul_comm 256 x, Int.mul_assoc, Int.mul_comm 256 (256 ^ l.length)]
theorem numB_valB (l : List Int) (h : AllB l) (c : Int) : numB l.length (valB l + 256 ^ l.length * c) = l := by
  induction l with
  | nil => rfl
  | cons x l ih =>
    have hx := h.head
    unfold IsB at hx
    simp only [valB, List.length_cons, numB, Int.pow_succ]
    have e : x + 256 * valB l + 256 ^ l.length * 256 * c = x + 256 * (valB l + 256 ^ l.length * c) := by
      rw [Int.mul_add, Int.add_assoc, Int.mul_comm (256 ^ l.length) 256, Int.mul_assoc]
    rw [e]
    have e1 : (x + 256 * (valB l + 256 ^ l.length * c)) % 256 = x := by omega
    have e2 : (x + 256 * (valB l + 256 ^ l.length * c)) / 256 = valB l + 256 ^ l.length * c := by omega
    rw [e1, e2, ih h.tail]
theorem num_sgn (l : List Int) (h : AllB l) (hl : l.length = 8) : numB 8 (sgnF (valB l)) = l := by
  have h1 := numB_valB l h 0
  have h2 := numB_valB l h (-1)
  rw [hl] at h1 h2
  have : (256 : Int) ^ 8 = 18446744073709551616 := by decide
  rw [this] at h1 h2
  unfold sgnF
  split
  · rw [Int.mul_zero, Int.add_zero] at h1; exact h1
  · rw [show valB l - 18446744073709551616 = valB l + 18446744073709551616 * (-1) by omega]; exact h2

/-- The numbers of a round's operations are numbers of 64 bits. -/
def N64 (o : Op5) : Prop := -9223372036854775808 ≤ o.n ∧ o.n < 9223372036854775808
def D64 (d : List Op5) : Prop := ∀ o ∈ d, N64 o
def R64 (r : List (List Op5)) : Prop := ∀ d ∈ r, D64 d

theorem partF_zero {p l : Int} (h : partF p l = 0) : (l = 0 ∧ p = 0) ∨ (l ≠ 0 ∧ 0 ≤ p ∧ p < l) := by
  unfold partF at h
  split at h
  · split at h
    · exact .inl ⟨by assumption, by assumption⟩
    · exact absurd h (by decide)
  · split at h
    · exact absurd h (by decide)
    · exact .inr ⟨by assumption, by omega, by omega⟩

/-- What is known of the parts of an operation without a fault of its own. -/
theorem alone_partsC {o : Op5} (h : aloneF o = 0) : 1 ≤ o.k ∧ o.k ≤ 9 ∧ 0 ≤ o.a ∧ o.a < 10 ∧ 0 ≤ o.b ∧ o.b < 14 ∧ 0 ≤ o.c ∧ o.c < 4 ∧ (o.k = 1 → o.a < 4 ∧ o.b = 0 ∧ o.c = 0) ∧ (o.k ≠ 1 → o.n = 0) := by
  unfold aloneF at h
  split at h
  · exact absurd h (by decide)
  rename_i hk
  split at h
  · contradiction
  rename_i ha
  split at h
  · contradiction
  rename_i hb
  split at h
  · contradiction
  rename_i hc
  split at h
  · exact absurd h (by decide)
  rename_i hn
  replace ha := partF_zero (Decidable.not_not.1 ha)
  replace hb := partF_zero (Decidable.not_not.1 hb)
  replace hc := partF_zero (Decidable.not_not.1 hc)
  obtain ⟨k, a, b, c, n⟩ := o
  simp only at *
  have hk' : k = 1 ∨ k = 2 ∨ k = 3 ∨ k = 4 ∨ k = 5 ∨ k = 6 ∨ k = 7 ∨ k = 8 ∨ k = 9 := by omega
  rcases hk' with rfl | rfl | rfl | rfl | rfl | rfl | rfl | rfl | rfl
  all_goals simp only [limF] at ha hb hc
  all_goals omega

theorem opB_all {o : Op5} (h : aloneF o = 0) : AllB (opB o) := by
  obtain ⟨h1, h2, h3, h4, h5, h6, h7, h8, h9, h10⟩ := alone_partsC h
  unfold opB
  split
  · intro x hx
    rcases List.mem_cons.1 hx with rfl | hx
    · unfold IsB; omega
    rcases List.mem_cons.1 hx with rfl | hx
    · unfold IsB; omega
    · exact numB_all _ _ x hx
  · intro x hx
    simp only [List.mem_cons, List.not_mem_nil, or_false] at hx
    rcases hx with rfl | rfl | rfl
    all_goals unfold IsB; omega
theorem opB_length (o : Op5) : (opB o).length ≤ 10 := by
  unfold opB
  split
  · simp [numB_length]
  · simp
theorem opsB_length (d : List Op5) : (opsB d).length ≤ 10 * d.length := by
  induction d with
  | nil => simp [opsB]
  | cons o r ih => have := opB_length o; simp only [opsB, List.length_append, List.length_cons]; omega
theorem opsB_all {d : List Op5} (h : ∀ o ∈ d, aloneF o = 0) : AllB (opsB d) := by
  induction d with
  | nil => intro x hx; simp [opsB] at hx
  | cons o r ih => exact (opB_all (h o List.mem_cons_self)).append (ih fun o ho => h o (List.mem_cons_of_mem _ ho))
theorem checkF_len {d : List Op5} (h : (checkF d).1 = 0) : d.length ≤ 14 := by
  unfold checkF at h
  split at h
  · exact absurd h (by decide)
  · omega
theorem deedB_all {d : List Op5} (h : (checkF d).1 = 0) : AllB (deedB d) := by
  intro x hx
  have := checkF_len h
  rcases List.mem_cons.1 hx with rfl | hx
  · unfold IsB; omega
  · exact opsB_all (checkF_alone h) x hx
theorem deedsB_length {r : List (List Op5)} (h : ∀ d ∈ r, (checkF d).1 = 0) : (deedsB r).length ≤ 141 * r.length := by
  induction r with
  | nil => simp [deedsB]
  | cons d r ih =>
    have h1 := opsB_length d
    have h2 := checkF_len (h d List.mem_cons_self)
    have h3 := ih fun o ho => h o (List.mem_cons_of_mem _ ho)
    simp only [deedsB, deedB, List.length_append, List.length_cons]; omega
theorem deedsB_all {r : List (List Op5)} (h : ∀ d ∈ r, (checkF d).1 = 0) : AllB (deedsB r) := by
  induction r with
  | nil => intro x hx; simp [deedsB] at hx
  | cons o r ih => exact (deedB_all (h o List.mem_cons_self)).append (ih fun o ho => h o (List.mem_cons_of_mem _ ho))
theorem bodyB_length {r : List (List Op5)} (h : roundF r = 0) : (bodyB r).length ≤ 1129 := by
  obtain ⟨h1, h2⟩ := roundF_zero.1 h
  have := deedsB_length h2
  simp only [bodyB, List.length_cons]; omega
theorem bodyB_all {r : List (List Op5)} (h : roundF r = 0) : AllB (bodyB r) := by
  obtain ⟨h1, h2⟩ := roundF_zero.1 h
  intro x hx
  rcases List.mem_cons.1 hx with rfl | hx
  · unfold IsB; omega
  · exact deedsB_all h2 x hx
theorem encB_length {r : List (List Op5)} : (encB r).length = (bodyB r).length + 2 := rfl
theorem encB_all {r : List (List Op5)} (h : roundF r = 0) : AllB (encB r) := by
  have := bodyB_length h
  intro x hx
  rcases List.mem_cons.1 hx with rfl | hx
  · unfold IsB; omega
  rcases List.mem_cons.1 hx with rfl | hx
  · unfold IsB; omega
  · exact bodyB_all h x hx

theorem opsB_append (d e : List Op5) : opsB (d ++ e) = opsB d ++ opsB e := by
  induction d with
  | nil => rfl
  | cons o d ih => simp only [List.cons_append, opsB, ih, List.append_assoc]
theorem deedsB_append (d e : List (List Op5)) : deedsB (d ++ e) = deedsB d ++ deedsB e := by
  induction d with
  | nil => rfl
  | cons o d ih => simp only [List.cons_append, deedsB, ih, List.append_assoc]
theorem opsB_take {d : List Op5} {j : Nat} (h : j < d.length) : opsB (d.take (j + 1)) = opsB (d.take j) ++ opB d[j] := by
  rw [List.take_succ_eq_append_getElem h, opsB_append]; simp [opsB]
theorem deedsB_take {r : List (List Op5)} {j : Nat} (h : j < r.length) : deedsB (r.take (j + 1)) = deedsB (r.take j) ++ deedB r[j] := by
  rw [List.take_succ_eq_append_getElem h, deedsB_append]; simp [deedsB]

theorem readOp_opB {o : Op5} (h : aloneF o = 0) (hn : N64 o) (l : List Int) : readOp (opB o ++ l) = some (o, l) := by
  obtain ⟨h1, h2, h3, h4, h5, h6, h7, h8, h9, h10⟩ := alone_partsC h
  obtain ⟨k, a, b, c, n⟩ := o
  simp only at *
  unfold opB
  by_cases hk : k = 1
  · subst hk
    obtain ⟨h11, rfl, rfl⟩ := h9 rfl
    have hl : ((numB 8 n ++ l).take 8) = numB 8 n := by rw [List.take_append_of_le_length (by simp [numB_length]), List.take_of_length_le (by simp [numB_length])]
    have hd : ((numB 8 n ++ l).drop 8) = l := by rw [List.drop_append_of_le_length (by simp [numB_length]), List.drop_of_length_le (by simp [numB_length])]; rfl
    simp only [if_true, List.cons_append, readOp, hl, hd, sgn_num n hn.1 hn.2]
    rw [if_neg (by simp [numB_length])]
  · simp only [if_neg hk, List.cons_append, List.nil_append, readOp]
    rw [show (a + 16 * b) % 16 = a by omega, show (a + 16 * b) / 16 = b by omega, h10 hk]
theorem readOps_opsB {d : List Op5} (h : ∀ o ∈ d, aloneF o = 0) (hn : D64 d) (l : List Int) : readOps d.length (opsB d ++ l) = some (d, l) := by
  induction d with
  | nil => rfl
  | cons o r ih =>
    simp only [List.length_cons, readOps, opsB, List.append_assoc, readOp_opB (h o List.mem_cons_self) (hn o List.mem_cons_self), ih (fun o ho => h o (List.mem_cons_of_mem _ ho)) (fun o ho => hn o (List.mem_cons_of_mem _ ho))]
theorem readDeed_deedB {d : List Op5} (h : (checkF d).1 = 0) (hn : D64 d) (l : List Int) : readDeed (deedB d ++ l) = some (d, l) := by
  simp only [deedB, List.cons_append, readDeed, Int.toNat_natCast]
  exact readOps_opsB (checkF_alone h) hn l
theorem readDeeds_deedsB {r : List (List Op5)} (h : ∀ d ∈ r, (checkF d).1 = 0) (hn : R64 r) (l : List Int) : readDeeds r.length (deedsB r ++ l) = some (r, l) := by
  induction r with
  | nil => rfl
  | cons o r ih =>
    simp only [List.length_cons, readDeeds, deedsB, List.append_assoc, readDeed_deedB (h o List.mem_cons_self) (hn o List.mem_cons_self), ih (fun o ho => h o (List.mem_cons_of_mem _ ho)) (fun o ho => hn o (List.mem_cons_of_mem _ ho))]
theorem readAll_bodyB {r : List (List Op5)} (h : roundF r = 0) (hn : R64 r) : readAll (bodyB r) = some r := by
  have := readDeeds_deedsB (roundF_zero.1 h).2 hn []
  rw [List.append_nil] at this
  simp only [readAll, bodyB, readRound, Int.toNat_natCast, this]

theorem dec_enc {r : List (List Op5)} (h : roundF r = 0) (hn : R64 r) (l : List Int) : decF (encB r ++ l) = (r, ((encB r).length : Int), 0) := by
  have e : ((bodyB r).length : Int) % 256 + 256 * (((bodyB r).length : Int) / 256) = ((bodyB r).length : Int) := by omega
  have e2 : (2 : Int) + ((bodyB r).length : Int) % 256 + 256 * (((bodyB r).length : Int) / 256) = ((encB r).length : Int) := by simp only [encB_length]; omega
  simp only [encB, List.cons_append, decF]
  rw [if_neg (by rw [e, List.length_append]; omega), e, Int.toNat_natCast, List.take_append_of_le_length (Nat.le_refl _), List.take_length, readAll_bodyB h hn]
  simp only [h]
  rw [if_neg (by simp), e2]
  rfl

theorem opB_readOp {l : List Int} (hl : AllB l) {o : Op5} {l' : List Int} (h : readOp l = some (o, l')) : opB o ++ l' = l := by
  match l with
  | [] => simp [readOp] at h
  | [_] => simp [readOp] at h
  | k :: a :: l2 =>
    simp only [readOp] at h
    by_cases hk : k = 1
    · subst hk
      rw [if_pos rfl] at h
      by_cases h8 : l2.length < 8
      · rw [if_pos h8] at h; simp at h
      · rw [if_neg h8] at h
        simp only [Option.some.injEq, Prod.mk.injEq] at h
        obtain ⟨rfl, rfl⟩ := h
        simp only [opB, if_true, List.cons_append]
        rw [num_sgn _ ((hl.tail.tail).take 8) (by rw [List.length_take]; omega), List.take_append_drop]
    · rw [if_neg hk] at h
      cases l2 with
      | nil => simp at h
      | cons c l3 =>
        simp only [Option.some.injEq, Prod.mk.injEq] at h
        obtain ⟨rfl, rfl⟩ := h
        simp only [opB, if_neg hk, List.cons_append, List.nil_append]
        rw [show a % 16 + 16 * (a / 16) = a by omega]
theorem opsB_readOps {n : Nat} {l : List Int} (hl : AllB l) {d : List Op5} {l' : List Int} (h : readOps n l = some (d, l')) : d.length = n ∧ opsB d ++ l' = l := by
  induction n generalizing l d l' with
  | zero => simp only [readOps, Option.some.injEq, Prod.mk.injEq] at h; obtain ⟨rfl, rfl⟩ := h; exact ⟨rfl, rfl⟩
  | succ n ih =>
    simp only [readOps] at h
    cases h1 : readOp l with
    | none => rw [h1] at h; simp at h
    | some x =>
      obtain ⟨o, l1⟩ := x
      rw [h1] at h
      simp only at h
      have e1 := opB_readOp hl h1
      have hl1 : AllB l1 := fun x hx => hl x (by rw [← e1]; exact List.mem_append_right _ hx)
      cases h2 : readOps n l1 with
      | none => rw [h2] at h; simp at h
      | some y =>
        obtain ⟨d2, l2⟩ := y
        rw [h2] at h
        simp only [Option.some.injEq, Prod.mk.injEq] at h
        obtain ⟨rfl, rfl⟩ := h
        obtain ⟨e2, e3⟩ := ih hl1 h2
        exact ⟨by simp [e2], by simp only [opsB, List.append_assoc]; rw [e3, e1]⟩
theorem deedB_readDeed {l : List Int} (hl : AllB l) {d : List Op5} {l' : List Int} (h : readDeed l = some (d, l')) : deedB d ++ l' = l := by
  cases l with
  | nil => simp [readDeed] at h
  | cons n l =>
    have hn := hl.head
    unfold IsB at hn
    obtain ⟨e1, e2⟩ := opsB_readOps hl.tail h
    simp only [deedB, List.cons_append, e2, e1]
    congr 1
    omega
theorem deedsB_readDeeds {n : Nat} {l : List Int} (hl : AllB l) {d : List (List Op5)} {l' : List Int} (h : readDeeds n l = some (d, l')) : d.length = n ∧ deedsB d ++ l' = l := by
  induction n generalizing l d l' with
  | zero => simp only [readDeeds, Option.some.injEq, Prod.mk.injEq] at h; obtain ⟨rfl, rfl⟩ := h; exact ⟨rfl, rfl⟩
  | succ n ih =>
    simp only [readDeeds] at h
    cases h1 : readDeed l with
    | none => rw [h1] at h; simp at h
    | some x =>
      obtain ⟨o, l1⟩ := x
      rw [h1] at h
      simp only at h
      have e1 := deedB_readDeed hl h1
      have hl1 : AllB l1 := fun x hx => hl x (by rw [← e1]; exact List.mem_append_right _ hx)
      cases h2 : readDeeds n l1 with
      | none => rw [h2] at h; simp at h
      | some y =>
        obtain ⟨d2, l2⟩ := y
        rw [h2] at h
        simp only [Option.some.injEq, Prod.mk.injEq] at h
        obtain ⟨rfl, rfl⟩ := h
        obtain ⟨e2, e3⟩ := ih hl1 h2
        exact ⟨by simp [e2], by simp only [deedsB, List.append_assoc]; rw [e3, e1]⟩
theorem bodyB_readAll {l : List Int} (hl : AllB l) {r : List (List Op5)} (h : readAll l = some r) : bodyB r = l := by
  cases l with
  | nil => simp [readAll, readRound] at h
  | cons n l =>
    have hn := hl.head
    unfold IsB at hn
    simp only [readAll, readRound] at h
    cases h1 : readDeeds n.toNat l with
    | none => rw [h1] at h; simp at h
    | some x =>
      obtain ⟨d, l1⟩ := x
      rw [h1] at h
      cases l1 with
      | cons y l1 => simp at h
      | nil =>
        simp only [Option.some.injEq] at h
        subst h
        obtain ⟨e1, e2⟩ := deedsB_readDeeds hl.tail h1
        rw [List.append_nil] at e2
        simp only [bodyB, e1, e2]
        congr 1
        omega

theorem deedsB_mem {r : List (List Op5)} {d : List Op5} (h : d ∈ r) : (d.length : Int) ∈ deedsB r := by
  induction r with
  | nil => cases h
  | cons e r ih =>
    rcases List.mem_cons.1 h with rfl | h
    · exact List.mem_append_left _ List.mem_cons_self
    · exact List.mem_append_right _ (ih h)
/-- What is read is no longer than bytes can tell. -/
theorem readAll_fits {l : List Int} (hl : AllB l) {r : List (List Op5)} (h : readAll l = some r) : r.length < 256 ∧ ∀ d ∈ r, d.length < 256 := by
  have e := bodyB_readAll hl h
  rw [← e] at hl
  have h0 := hl.head
  unfold IsB at h0
  refine ⟨by omega, fun d hd => ?_⟩
  have h1 := hl.tail _ (deedsB_mem hd)
  unfold IsB at h1
  omega

/-- A code: nothing is told. -/
theorem dec_bad {b : List Int} (h : (decF b).2.2 ≠ 0) : decF b = ([], 0, (decF b).2.2) := by
  match b, h with
  | [], _ => rfl
  | [_], _ => rfl
  | x :: y :: l, h =>
    by_cases h1 : (l.length : Int) < x + 256 * y
    · simp only [decF, if_pos h1]
    · simp only [decF, if_neg h1] at h ⊢
      cases h2 : readAll (l.take (x + 256 * y).toNat) with
      | none => rfl
      | some r =>
        simp only [h2] at h ⊢
        by_cases h3 : roundF r = 0
        · rw [if_neg (by simp [h3])] at h; exact absurd rfl h
        · rw [if_pos h3]

/-- BYTES THAT BEGIN WITH A ROUND BEGIN WITH ITS BYTES. -/
theorem enc_dec {b : List Int} (hb : AllB b) (h : (decF b).2.2 = 0) : roundF (decF b).1 = 0 ∧ (decF b).2.1 = ((encB (decF b).1).length : Int) ∧ ∃ l, b = encB (decF b).1 ++ l := by
  match b, hb, h with
  | [], _, h => simp [decF] at h
  | [_], _, h => simp [decF] at h
  | x :: y :: l, hb, h =>
    have hx := hb.head
    have hy := hb.tail.head
    unfold IsB at hx hy
    by_cases h1 : (l.length : Int) < x + 256 * y
    · simp only [decF, if_pos h1] at h; exact absurd h (by decide)
    · simp only [decF, if_neg h1] at h ⊢
      cases h2 : readAll (l.take (x + 256 * y).toNat) with
      | none => simp only [h2] at h; exact absurd h (by decide)
      | some r =>
        simp only [h2] at h ⊢
        by_cases h3 : roundF r = 0
        · rw [if_neg (by simp [h3])]
          have e := bodyB_readAll (hb.tail.tail.take _) h2
          have el : ((bodyB r).length : Int) = x + 256 * y := by rw [e, List.length_take]; omega
          refine ⟨h3, by simp only [encB_length]; omega, l.drop (x + 256 * y).toNat, ?_⟩
          simp only [encB, el, List.cons_append]
          rw [e, List.take_append_drop]
          congr 1
          · omega
          · congr 1; omega
        · rw [if_pos h3] at h; exact absurd h h3

/-- WHAT IS CUT IS NONE. -/
theorem dec_cut {r : List (List Op5)} {m : Nat} (hm : m < (encB r).length) : decF ((encB r).take m) = ([], 0, 6) := by
  match m, hm with
  | 0, _ => rfl
  | 1, _ => rfl
  | m + 2, hm =>
    have e : ((bodyB r).length : Int) % 256 + 256 * (((bodyB r).length : Int) / 256) = ((bodyB r).length : Int) := by omega
    rw [encB_length] at hm
    simp only [encB, List.take_succ_cons, decF]
    rw [if_pos (by rw [e, List.length_take]; omega)]

/-- Two rounds with the same bytes are the same. -/
theorem enc_inj {r q : List (List Op5)} (h : roundF r = 0) (k : roundF q = 0) (hr : R64 r) (hq : R64 q) (e : encB r = encB q) : r = q := by
  have h1 := dec_enc h hr []
  have h2 := dec_enc k hq []
  rw [e, h2] at h1
  exact (congrArg Prod.fst h1).symm

end Go.Proofs.YtokjigebjcgdjacDoor
