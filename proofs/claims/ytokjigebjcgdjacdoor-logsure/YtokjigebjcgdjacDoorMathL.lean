/-
  A log's rounds as bytes, one behind the other; what a crash leaves of them; what bytes begin with: on lists. Nothing of the program's text is imported here.
-/
import Derived.Test.YtokjigebjcgdjacDoorMathC
namespace Go.Proofs.YtokjigebjcgdjacDoor

/-- A round that may be done, and that its bytes tell. -/
def Good (r : List (List Op5)) : Prop := roundF r = 0 ∧ readAll (bodyB r) = some r
theorem good_of {r : List (List Op5)} (h : roundF r = 0) (hn : R64 r) : Good r := ⟨h, readAll_bodyB h hn⟩
theorem Good.dec {r : List (List Op5)} (h : Good r) (l : List Int) : decF (encB r ++ l) = (r, ((encB r).length : Int), 0) := by
  have e : ((bodyB r).length : Int) % 256 + 256 * (((bodyB r).length : Int) / 256) = ((bodyB r).length : Int) := by omega
  have e2 : (2 : Int) + ((bodyB r).length : Int) % 256 + 256 * (((bodyB r).length : Int) / 256) = ((encB r).length : Int) := by simp only [encB_length]; omega
  simp only [encB, List.cons_append, decF]
  rw [if_neg (by rw [e, List.length_append]; omega), e, Int.toNat_natCast, List.take_append_of_le_length (Nat.le_refl _), List.take_length, h.2]
  simp only [h.1]
  rw [if_neg (by simp), e2]
  rfl
theorem dec_good {b : List Int} (hb : AllB b) (h : (decF b).2.2 = 0) : ∃ r l, decF b = (r, ((encB r).length : Int), 0) ∧ Good r ∧ b = encB r ++ l := by
  obtain ⟨h1, h2, l, h3⟩ := enc_dec hb h
  refine ⟨(decF b).1, l, by rw [← h2, ← h], ⟨h1, ?_⟩, h3⟩
  match b, hb, h with
  | [], _, h => simp [decF] at h
  | [_], _, h => simp [decF] at h
  | x :: y :: l, hb, h =>
    by_cases k1 : (l.length : Int) < x + 256 * y
    · simp only [decF, if_pos k1] at h; exact absurd h (by decide)
    · simp only [decF, if_neg k1] at h ⊢
      cases k2 : readAll (l.take (x + 256 * y).toNat) with
      | none => simp only [k2] at h; exact absurd h (by decide)
      | some r =>
        simp only [k2] at h ⊢
        by_cases k3 : roundF r = 0
        · rw [if_neg (by simp [k3])]
          rw [bodyB_readAll (hb.tail.tail.take _) k2]
          exact k2
        · rw [if_pos k3] at h; exact absurd h k3
theorem enc_pos (r : List (List Op5)) : 3 ≤ (encB r).length := by rw [encB_length]; simp [bodyB]
theorem Good.len {r : List (List Op5)} (h : Good r) : (encB r).length ≤ 1131 := by rw [encB_length]; have := bodyB_length h.1; omega

/-- The bytes of rounds, one behind the other. -/
def allB : List (List (List Op5)) → List Int
  | [] => []
  | r :: l => encB r ++ allB l
theorem allB_append (l m : List (List (List Op5))) : allB (l ++ m) = allB l ++ allB m := by
  induction l with
  | nil => rfl
  | cons r l ih => simp only [List.cons_append, allB, ih, List.append_assoc]
theorem allB_snoc (l : List (List (List Op5))) (r : List (List Op5)) : allB (l ++ [r]) = allB l ++ encB r := by rw [allB_append]; simp [allB]
theorem allB_all {l : List (List (List Op5))} (h : ∀ r ∈ l, Good r) : AllB (allB l) := by
  induction l with
  | nil => intro x hx; simp [allB] at hx
  | cons r l ih => exact (encB_all (h r List.mem_cons_self).1).append (ih fun q hq => h q (List.mem_cons_of_mem _ hq))

/-- How many bytes the first i rounds have. -/
def endB (l : List (List (List Op5))) (i : Nat) : Nat := (allB (l.take i)).length
theorem endB_zero (l : List (List (List Op5))) : endB l 0 = 0 := by simp [endB, allB]
theorem endB_all (l : List (List (List Op5))) : endB l l.length = (allB l).length := by simp [endB]
theorem endB_succ {l : List (List (List Op5))} {i : Nat} (h : i < l.length) : endB l (i + 1) = endB l i + (encB l[i]).length := by
  unfold endB
  rw [List.take_succ_eq_append_getElem h, allB_snoc, List.length_append]
theorem endB_mono {l : List (List (List Op5))} {i j : Nat} (h : i ≤ j) (hj : j ≤ l.length) : endB l i ≤ endB l j := by
  induction j with
  | zero => obtain rfl : i = 0 := by omega
            exact Nat.le_refl _
  | succ j ih =>
    by_cases e : i = j + 1
    · subst e; exact Nat.le_refl _
    · have := ih (by omega) (by omega)
      rw [endB_succ (by omega)]; omega
theorem endB_lt {l : List (List (List Op5))} {i j : Nat} (h : i < j) (hj : j ≤ l.length) : endB l i < endB l j := by
  have h1 := endB_mono (l := l) (i := i + 1) (j := j) (by omega) hj
  have h2 := endB_succ (l := l) (i := i) (by omega)
  have := enc_pos l[i]
  omega
theorem endB_le {l : List (List (List Op5))} {i : Nat} (hi : i ≤ l.length) : endB l i ≤ (allB l).length := by rw [← endB_all]; exact endB_mono hi (Nat.le_refl _)
theorem endB_le_iff {l : List (List (List Op5))} {i j : Nat} (hi : i ≤ l.length) (hj : j ≤ l.length) : endB l i ≤ endB l j ↔ i ≤ j := by
  constructor
  · intro h
    by_cases e : i ≤ j
    · exact e
    · have := endB_lt (l := l) (i := j) (j := i) (by omega) hi
      omega
  · intro h; exact endB_mono h hj
theorem endB_take (l : List (List (List Op5))) {i n : Nat} (h : i ≤ n) : endB (l.take n) i = endB l i := by
  unfold endB; rw [List.take_take, Nat.min_eq_left h]
theorem endB_append (l m : List (List (List Op5))) {i : Nat} (h : i ≤ l.length) : endB (l ++ m) i = endB l i := by
  unfold endB; rw [List.take_append_of_le_length h]
theorem allB_take_drop (l : List (List (List Op5))) (i : Nat) : allB l = allB (l.take i) ++ allB (l.drop i) := by rw [← allB_append, List.take_append_drop]
theorem allB_take (l : List (List (List Op5))) (i : Nat) : (allB l).take (endB l i) = allB (l.take i) := by
  rw [allB_take_drop l i]; unfold endB; exact List.take_left
theorem allB_drop (l : List (List (List Op5))) (i : Nat) : (allB l).drop (endB l i) = allB (l.drop i) := by
  rw [allB_take_drop l i]; unfold endB; exact List.drop_left
theorem allB_at {l : List (List (List Op5))} {i : Nat} (h : i < l.length) : allB (l.drop i) = encB l[i] ++ allB (l.drop (i + 1)) := by
  rw [List.drop_eq_getElem_cons h]; rfl

/-- Of each round, where it ends. -/
def endsB (l : List (List (List Op5))) : List Int := (List.range l.length).map fun i => (endB l (i + 1) : Int)
theorem endsB_length (l : List (List (List Op5))) : (endsB l).length = l.length := by simp [endsB]
theorem endsB_get (l : List (List (List Op5))) {i : Nat} (h : i < (endsB l).length) : (endsB l)[i] = (endB l (i + 1) : Int) := by simp [endsB]
theorem endsB_snoc (l : List (List (List Op5))) (r : List (List Op5)) : endsB (l ++ [r]) = endsB l ++ [((allB (l ++ [r])).length : Int)] := by
  unfold endsB
  rw [List.length_append, List.length_singleton, List.range_succ, List.map_append]
  congr 1
  · apply List.map_congr_left
    intro i hi
    have : i < l.length := by simpa using hi
    rw [endB_append _ _ (by omega)]
  · simp only [List.map_cons, List.map_nil]
    rw [← endB_all, List.length_append, List.length_singleton]
theorem endsB_take (l : List (List (List Op5))) {n : Nat} (h : n ≤ l.length) : (endsB l).take n = endsB (l.take n) := by
  apply List.ext_getElem
  · simp [endsB]
  · intro i h1 h2
    rw [List.getElem_take, endsB_get, endsB_get, endB_take]
    simp [endsB] at h1; omega

/-- What a log is. -/
structure LogOk (l : List (List (List Op5))) (k : Nat) : Prop where
  good : ∀ r ∈ l, Good r
  few : l.length ≤ 25
  short : (allB l).length ≤ 4000
  sure : k ≤ l.length
theorem LogOk.nil : LogOk [] 0 := ⟨fun r hr => (by cases hr), by simp, by simp [allB], by simp⟩
theorem LogOk.all {l : List (List (List Op5))} {k : Nat} (h : LogOk l k) : AllB (allB l) := allB_all h.good
theorem LogOk.sync {l : List (List (List Op5))} {k : Nat} (h : LogOk l k) : LogOk l l.length := ⟨h.good, h.few, h.short, Nat.le_refl _⟩
theorem LogOk.cut {l : List (List (List Op5))} {k n : Nat} (h : LogOk l k) (hn : n ≤ l.length) : LogOk (l.take n) n :=
  ⟨fun r hr => h.good r (List.mem_of_mem_take hr), by have := h.few; simp; omega, by have := endB_le (l := l) hn; have := h.short; unfold endB at *; omega, by simp; omega⟩
theorem LogOk.endk {l : List (List (List Op5))} {k : Nat} (h : LogOk l k) : endB l k ≤ 4000 := Nat.le_trans (endB_le h.sure) h.short
/-- Is there room for so many bytes more? -/
def roomF (l : List (List (List Op5))) (n : Nat) : Bool := decide (l.length < 25) && decide ((allB l).length + n ≤ 4000)
theorem LogOk.put {l : List (List (List Op5))} {k : Nat} (h : LogOk l k) {r : List (List Op5)} (hr : Good r) (hroom : roomF l (encB r).length = true) : LogOk (l ++ [r]) k := by
  simp only [roomF, Bool.and_eq_true, decide_eq_true_eq] at hroom
  refine ⟨fun q hq => ?_, by simp; omega, by rw [allB_snoc, List.length_append]; omega, by have := h.sure; simp; omega⟩
  rcases List.mem_append.1 hq with hq | hq
  · exact h.good q hq
  · obtain rfl : q = r := by simpa using hq
    exact hr

/-- How many of the first n have a property. -/
theorem count_down (p : Nat → Bool) (n : Nat) (hp : ∀ i j, i < j → j < n → p j = true → p i = true) :
    ∃ c, ((List.range n).map p).countP id = c ∧ c ≤ n ∧ ∀ i, i < n → (p i = true ↔ i < c) := by
  induction n with
  | zero => exact ⟨0, rfl, Nat.le_refl _, fun i hi => by omega⟩
  | succ n ih =>
    obtain ⟨c, hc, hcn, hci⟩ := ih fun i j h1 h2 h3 => hp i j h1 (by omega) h3
    rw [List.range_succ, List.map_append, List.countP_append, hc]
    cases e : p n with
    | true =>
      refine ⟨n + 1, ?_, Nat.le_refl _, fun i hi => ⟨fun _ => hi, fun _ => ?_⟩⟩
      · have : c = n := by
          by_cases h : c = n
          · exact h
          · have h1 := hp c n (by omega) (by omega) e
            have := (hci c (by omega)).1 h1
            omega
        simp [this, e]
      · by_cases h : i = n
        · subst h; exact e
        · exact hp i n (by omega) (by omega) e
    | false =>
      refine ⟨c, by simp [e], by omega, fun i hi => ?_⟩
      by_cases h : i = n
      · subst h; simp [e]; omega
      · exact hci i (by omega)
/-- How many ends are as asked for. -/
def countF (p : Int → Bool) (l : List Int) : Nat := l.countP p
theorem countF_take {p : Int → Bool} {l : List Int} {j : Nat} (h : j < l.length) : countF p (l.take (j + 1)) = countF p (l.take j) + (if p l[j] then 1 else 0) := by
  unfold countF
  rw [List.take_succ_eq_append_getElem h, List.countP_append]
  simp [List.countP_cons]
theorem countF_le (p : Int → Bool) (l : List Int) : countF p l ≤ l.length := List.countP_le_length
theorem count_ends (p : Int → Bool) (l : List (List (List Op5))) (hp : ∀ x y : Int, x ≤ y → p y = true → p x = true) :
    countF p (endsB l) ≤ l.length ∧ ∀ i, i < l.length → (p (endB l (i + 1)) = true ↔ i < countF p (endsB l)) := by
  obtain ⟨c, h1, h2, h3⟩ := count_down (fun i => p (endB l (i + 1) : Int)) l.length (fun i j hij hj hpj => hp _ _ (by have := endB_mono (l := l) (i := i + 1) (j := j + 1) (by omega) (by omega); omega) hpj)
  have e : countF p (endsB l) = c := by
    rw [← h1]; unfold countF endsB
    rw [List.countP_map, List.countP_map]; rfl
  rw [e]; exact ⟨h2, h3⟩

/-- How many rounds are made sure of. -/
theorem count_sure {l : List (List (List Op5))} {k : Nat} (hk : k ≤ l.length) : countF (fun x => decide (x ≤ (endB l k : Int))) (endsB l) = k := by
  obtain ⟨h1, h2⟩ := count_ends (fun x => decide (x ≤ (endB l k : Int))) l (fun x y h hy => by simp at hy ⊢; omega)
  generalize countF (fun x => decide (x ≤ (endB l k : Int))) (endsB l) = c at *
  have key : ∀ i, i < l.length → (i < k ↔ i < c) := fun i hi => by
    rw [← h2 i hi, decide_eq_true_eq]
    have := endB_le_iff (l := l) (i := i + 1) (j := k) (by omega) hk
    omega
  have a := key c
  have b := key k
  omega

/-- How many rounds a crash leaves. -/
def wholeF (l : List (List (List Op5))) (k : Nat) (m : Int) : Nat := countF (fun x => decide (x - (endB l k : Int) ≤ m)) (endsB l)
theorem whole_le (l : List (List (List Op5))) (k : Nat) (m : Int) : wholeF l k m ≤ l.length := by
  have := countF_le (fun x => decide (x - (endB l k : Int) ≤ m)) (endsB l)
  rw [endsB_length] at this; exact this
theorem whole_iff {l : List (List (List Op5))} {k : Nat} {m : Int} {i : Nat} (hi : i < l.length) : (endB l (i + 1) : Int) - (endB l k : Int) ≤ m ↔ i < wholeF l k m := by
  have := (count_ends (fun x => decide (x - (endB l k : Int) ≤ m)) l (fun x y h hy => by simp at hy ⊢; omega)).2 i hi
  rw [decide_eq_true_eq] at this
  exact this
theorem whole_ge {l : List (List (List Op5))} {k : Nat} {m : Int} (hk : k ≤ l.length) (hm : 0 ≤ m) : k ≤ wholeF l k m := by
  by_cases h : k = 0
  · omega
  · have := (whole_iff (l := l) (k := k) (m := m) (i := k - 1) (by omega)).1 (by rw [show k - 1 + 1 = k by omega]; omega)
    omega
theorem whole_none {l : List (List (List Op5))} {k : Nat} (hk : k ≤ l.length) : wholeF l k 0 = k := by
  have h1 := whole_ge (l := l) (m := 0) hk (by omega)
  have h2 := whole_le l k 0
  by_cases h : wholeF l k 0 = k
  · exact h
  · have h3 := (whole_iff (l := l) (k := k) (m := 0) (i := k) (by omega)).2 (by omega)
    have := endB_lt (l := l) (i := k) (j := k + 1) (by omega) (by omega)
    omega
theorem whole_all {l : List (List (List Op5))} {k : Nat} {m : Int} (hm : ((allB l).length : Int) ≤ m) : wholeF l k m = l.length := by
  have h2 := whole_le l k m
  by_cases h : wholeF l k m = l.length
  · exact h
  · have h3 := (whole_iff (l := l) (k := k) (m := m) (i := wholeF l k m) (by omega)).1 (by have := endB_le (l := l) (i := wholeF l k m + 1) (by omega); omega)
    omega
theorem whole_sure {l : List (List (List Op5))} {m : Int} (hm : 0 ≤ m) : wholeF l l.length m = l.length := by
  have := whole_ge (l := l) (k := l.length) (Nat.le_refl _) hm
  have := whole_le l l.length m
  omega

/-- Of two rows of rounds whose bytes begin alike, one begins with the other one. -/
theorem all_prefix {x r : List (List (List Op5))} {s t : List Int} (hx : ∀ q ∈ x, Good q) (hr : ∀ q ∈ r, Good q) (e : allB x ++ s = allB r ++ t) :
    (∃ y, x = r ++ y ∧ t = allB y ++ s) ∨ (∃ q y, r = x ++ q :: y ∧ s = allB (q :: y) ++ t) := by
  induction x generalizing r with
  | nil =>
    cases r with
    | nil => exact .inl ⟨[], rfl, by simpa [allB] using e.symm⟩
    | cons q r => exact .inr ⟨q, r, rfl, by simpa [allB] using e⟩
  | cons q x ih =>
    cases r with
    | nil => exact .inl ⟨q :: x, rfl, by simpa [allB] using e.symm⟩
    | cons p r =>
      simp only [allB, List.append_assoc] at e
      have h1 := (hx q List.mem_cons_self).dec (allB x ++ s)
      have h2 := (hr p List.mem_cons_self).dec (allB r ++ t)
      rw [e, h2] at h1
      obtain rfl : p = q := congrArg Prod.fst h1
      have e' := List.append_cancel_left e
      rcases ih (fun a ha => hx a (List.mem_cons_of_mem _ ha)) (fun a ha => hr a (List.mem_cons_of_mem _ ha)) e' with ⟨y, rfl, h⟩ | ⟨q', y, rfl, h⟩
      · exact .inl ⟨y, rfl, h⟩
      · exact .inr ⟨q', y, rfl, h⟩

/-- No round more, of these bytes, comes behind these. -/
def Stops (l : List (List (List Op5))) (s : List Int) : Prop := ∀ r t, Good r → s = encB r ++ t → roomF l (encB r).length = false
theorem stops_bad {l : List (List (List Op5))} {s : List Int} (h : (decF s).2.2 ≠ 0) : Stops l s := fun r t hr e => by rw [e, hr.dec] at h; exact absurd rfl h
theorem stops_full {l : List (List (List Op5))} {s t : List Int} {r : List (List Op5)} (hr : Good r) (e : s = encB r ++ t) (h : roomF l (encB r).length = false) : Stops l s := fun q u hq e' => by
  have h1 := hr.dec t
  have h2 := hq.dec u
  rw [← e] at h1
  rw [← e', h1] at h2
  obtain rfl : r = q := congrArg Prod.fst h2
  exact h
theorem room_part {l y : List (List (List Op5))} {r : List (List Op5)} {k : Nat} (h : LogOk (l ++ r :: y) k) : roomF l (encB r).length = true := by
  have h1 := h.few
  have h2 := h.short
  rw [allB_append, List.length_append] at h2
  simp only [allB, List.length_append, List.length_cons] at h1 h2
  simp only [roomF, Bool.and_eq_true, decide_eq_true_eq]
  omega

/-- ITS BYTES ARE ITS ROUNDS: what is opened of some with which a log's bytes begin. -/
theorem opens_cut {x r : List (List (List Op5))} {s : List Int} {k c n : Nat} (hx : LogOk x c) (hr : LogOk r k) (hn : n ≤ (allB r).length) (e : (allB r).take n = allB x ++ s) (hs : Stops x s) :
    ∃ y, r = x ++ y ∧ (allB x).length ≤ n ∧ (x.length < r.length → n < endB r (x.length + 1)) := by
  have e' : allB x ++ (s ++ (allB r).drop n) = allB r ++ [] := by rw [← List.append_assoc, ← e, List.take_append_drop, List.append_nil]
  have hle : (allB x).length ≤ n := by have := congrArg List.length e; simp at this; omega
  rcases all_prefix hx.good hr.good e' with ⟨y, rfl, h⟩ | ⟨q, y, rfl, h⟩
  · have h0 := congrArg List.length h
    cases y with
    | nil => exact ⟨[], by simp, hle, fun h => by simp at h⟩
    | cons q y => have := enc_pos q; simp only [allB, List.length_nil, List.length_append] at h0; omega
  · refine ⟨q :: y, rfl, hle, fun _ => ?_⟩
    by_cases h1 : n < endB (x ++ q :: y) (x.length + 1)
    · exact h1
    · exfalso
      have h2 : endB (x ++ q :: y) (x.length + 1) = (allB x).length + (encB q).length := by
        unfold endB
        rw [show (x ++ q :: y).take (x.length + 1) = x ++ [q] by rw [List.take_append, List.take_of_length_le (by omega)]; simp, allB_snoc, List.length_append]
      have h3 : s = encB q ++ (allB y).take (n - (allB x).length - (encB q).length) := by
        have := e
        rw [allB_append, List.take_append, List.take_of_length_le hle] at this
        have := (List.append_cancel_left this).symm
        rw [this]
        simp only [allB]
        rw [List.take_append, List.take_of_length_le (by omega)]
      have h4 := hs q _ (hr.good q (by simp)) h3
      rw [room_part hr] at h4
      cases h4
/-- With more behind them there are as many at least. -/
theorem opens_more {x r : List (List (List Op5))} {s t : List Int} {k c : Nat} (hx : LogOk x c) (hr : LogOk r k) (e : allB r ++ t = allB x ++ s) (hs : Stops x s) : (allB r).length ≤ (allB x).length ∧ r.length ≤ x.length := by
  rcases all_prefix hx.good hr.good e.symm with ⟨y, rfl, h⟩ | ⟨q, y, rfl, h⟩
  · rw [allB_append]; simp
  · exfalso
    simp only [allB, List.append_assoc] at h
    have h4 := hs q _ (hr.good q (by simp)) h
    rw [room_part hr] at h4
    cases h4
end Go.Proofs.YtokjigebjcgdjacDoor
