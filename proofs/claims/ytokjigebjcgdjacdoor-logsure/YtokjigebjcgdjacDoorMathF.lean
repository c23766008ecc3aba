/-
  FILLED, IT IS THE STATE, on plain functions; and what the reference's own look at a round has to do with the program's.
-/
import Derived.Test.YtokjigebjcgdjacDoorMathT
namespace Go.Proofs.YtokjigebjcgdjacDoor

/-- What deed i came to, of the deeds one behind the other. -/
def outAt (s : Nat → Int) (r : List (List Op5)) (i : Nat) : Out := (allOut s r)[i]?.getD ⟨s, 0, fun _ => 0⟩

/-- What a deed makes of a key, in the end. -/
def endSlot (s : Nat → Int) (r : List (List Op5)) (i k : Nat) : Slot4 :=
  if (outAt s r i).code = 0 then ⟨(i : Int), false, false, (outAt s r i).st k⟩ else ⟨(i : Int), false, true, 0⟩

/-- The slot of deed i, filled or not. -/
def slotF (s : Nat → Int) (r : List (List Op5)) (F : Nat → Nat → Bool) (k i : Nat) : Slot4 := if F i k then endSlot s r i k else ⟨(i : Int), true, false, 0⟩

/-- Those that have a slot of a key. -/
def storers (r : List (List Op5)) (k : Nat) : List Nat := (List.range r.length).filter fun i => storesF (r[i]?.getD []) k
def fillF (s : Nat → Int) (r : List (List Op5)) (F : Nat → Nat → Bool) : Nat → List Slot4 := fun k => ⟨-1, false, false, s k⟩ :: (storers r k).map (slotF s r F k)

theorem slotsF_storers (k : Nat) (r : List (List Op5)) : slotsF k 0 r = (storers r k).map fun i => ⟨(i : Int), true, false, 0⟩ := by
  have key : ∀ m, m ≤ r.length → slotsF k 0 (r.take m) = ((List.range m).filter fun i => storesF (r[i]?.getD []) k).map fun i => ⟨(i : Int), true, false, 0⟩ := by
    intro m
    induction m with
    | zero => intro _; simp [slotsF]
    | succ m ih =>
      intro hm
      have hlt : m < r.length := by omega
      rw [List.take_succ_eq_append_getElem hlt, slotsF_append, ih (by omega), List.range_succ, List.filter_append, List.map_append]
      congr 1
      simp only [slotsF, Nat.zero_add, List.length_take, Nat.min_eq_left (show m ≤ r.length by omega), List.filter_cons, List.filter_nil, List.getElem?_eq_getElem hlt, Option.getD_some]
      split <;> simp
  have := key r.length (Nat.le_refl _)
  rw [List.take_length] at this
  exact this
theorem newF_fill (s : Nat → Int) (r : List (List Op5)) : newF s r = fillF s r (fun _ _ => false) := by
  funext k
  unfold newF fillF slotF
  rw [slotsF_storers]
  simp

theorem endSlot_b (s : Nat → Int) (r : List (List Op5)) (i k : Nat) : (endSlot s r i k).b = (i : Int) ∧ (endSlot s r i k).op = false := by
  unfold endSlot; split <;> exact ⟨rfl, rfl⟩
theorem slotF_b (s : Nat → Int) (r : List (List Op5)) (F : Nat → Nat → Bool) (k i : Nat) : (slotF s r F k i).b = (i : Int) := by
  unfold slotF; split
  · exact (endSlot_b s r i k).1
  · rfl
theorem storers_rise (r : List (List Op5)) (k : Nat) : (storers r k).Pairwise (· < ·) := List.Pairwise.filter _ List.pairwise_lt_range

theorem fillF_fine (s : Nat → Int) (r : List (List Op5)) (F : Nat → Nat → Bool) (k : Nat) : Fine (fillF s r F k) := by
  have hp : (fillF s r F k).Pairwise (fun s t => s.b < t.b) := by
    refine List.Pairwise.cons (fun t ht => ?_) ?_
    · obtain ⟨i, -, rfl⟩ := List.mem_map.1 ht
      rw [slotF_b]; show (-1 : Int) < i; omega
    · refine List.pairwise_map.2 ((storers_rise r k).imp fun h => ?_)
      rw [slotF_b, slotF_b]; omega
  have hm : ∀ t ∈ fillF s r F k, -1 ≤ t.b ∧ (t.op = true → 0 ≤ t.b ∧ t.vo = false) := fun t ht => by
    rcases List.mem_cons.1 ht with rfl | ht
    · exact ⟨by simp, by simp⟩
    · obtain ⟨i, -, rfl⟩ := List.mem_map.1 ht
      refine ⟨by rw [slotF_b]; omega, fun ho => ⟨by rw [slotF_b]; omega, ?_⟩⟩
      unfold slotF at ho ⊢
      split at ho
      · rw [(endSlot_b s r i k).2] at ho; cases ho
      · rename_i h; rw [if_neg h]
  refine ⟨fun i j hij hj => ?_, fun i hi => ?_, fun i hi ho => ?_⟩
  · rw [slotAt_get hj, slotAt_get (Nat.lt_trans hij hj)]
    exact List.pairwise_iff_getElem.1 hp i j _ _ hij
  · rw [slotAt_get hi]; exact (hm _ (List.getElem_mem _)).1
  · rw [slotAt_get hi] at ho ⊢; exact (hm _ (List.getElem_mem _)).2 ho

/-- Where each deed has one slot, to settle is to put one in its place. -/
theorem settleF_map {l : List Slot4} (hl : Fine l) (x : Slot4) : settleF l x = l.map fun t => if openP x.b t = true then x else t := by
  apply List.ext_getElem
  · rw [settleF_length, List.length_map]
  · intro j h1 h2
    rw [settleF_length] at h1
    have := settleF_at (x := x) hl j h1
    rw [slotAt_get (by rw [settleF_length]; exact h1), slotAt_get h1] at this
    rw [this, List.getElem_map]

def markF (F : Nat → Nat → Bool) (i k : Nat) : Nat → Nat → Bool := fun a b => if a = i ∧ b = k then true else F a b

/-- A slot is filled. -/
theorem settle_fill (s : Nat → Int) (r : List (List Op5)) (F : Nat → Nat → Bool) (i k : Nat) : settleF (fillF s r F k) (endSlot s r i k) = fillF s r (markF F i k) k := by
  rw [settleF_map (fillF_fine s r F k)]
  unfold fillF
  rw [List.map_cons, List.map_map]
  congr 1
  apply List.map_congr_left
  intro a _
  simp only [Function.comp]
  have hb := (endSlot_b s r i k).1
  by_cases ha : a = i
  · subst ha
    have hm : slotF s r (markF F a k) k a = endSlot s r a k := by unfold slotF markF; simp
    rw [hm]
    by_cases hf : F a k = true
    · have : slotF s r F k a = endSlot s r a k := by unfold slotF; rw [if_pos hf]
      rw [this]; split <;> rfl
    · have : slotF s r F k a = ⟨(a : Int), true, false, 0⟩ := by unfold slotF; rw [if_neg hf]
      rw [this, if_pos (by unfold openP; simp [hb])]
  · have hm : slotF s r (markF F i k) k a = slotF s r F k a := by unfold slotF markF; simp [ha]
    rw [hm, if_neg]
    unfold openP
    rw [slotF_b, hb]
    simp
    intro _; omega
theorem fill_other (s : Nat → Int) (r : List (List Op5)) (F : Nat → Nat → Bool) (i k j : Nat) (h : j ≠ k) : fillF s r (markF F i k) j = fillF s r F j := by
  unfold fillF
  congr 1
  apply List.map_congr_left
  intro a _
  unfold slotF markF
  simp [h]

/-- All is filled. -/
theorem fill_full {s : Nat → Int} {r : List (List Op5)} {F : Nat → Nat → Bool} {k : Nat} (hF : ∀ i, i < r.length → F i k = true) : fillF s r F k = ⟨-1, false, false, s k⟩ :: (storers r k).map (fun i => endSlot s r i k) := by
  unfold fillF
  congr 1
  apply List.map_congr_left
  intro a ha
  have : a < r.length := by have := (List.mem_filter.1 ha).1; simpa using this
  unfold slotF
  rw [if_pos (hF a this)]

/-- The last known slot's number, by going over all. -/
theorem last_fold (p : Slot4 → Bool) : ∀ (l : List Slot4) (z : Int), (match lastF p l with | none => z | some i => (slotAt l i).n) = l.foldl (fun acc t => if p t then t.n else acc) z
  | [], z => rfl
  | t :: l, z => by
    have ih := last_fold p l (if p t then t.n else z)
    rw [List.foldl_cons, ← ih]
    simp only [lastF]
    cases h : lastF p l with
    | none =>
      by_cases ht : p t = true
      · simp [ht, slotAt]
      · simp [ht]
    | some i => simp [slotAt]

theorem allOut_get {s : Nat → Int} {r : List (List Op5)} {i : Nat} (h : i < r.length) : outAt s r i = doF (allSt s (r.take i)) r[i] := by
  unfold outAt
  have e : r = r.take i ++ r[i] :: r.drop (i + 1) := by rw [List.getElem_cons_drop, List.take_append_drop]
  have hg : (allOut s r)[i]? = some (doF (allSt s (r.take i)) r[i]) := by
    conv => lhs; rw [e]
    rw [allOut_append, List.getElem?_append_right (by rw [allOut_length, List.length_take]; omega), allOut_length, List.length_take, Nat.min_eq_left (by omega), Nat.sub_self]
    rfl
  rw [hg]; rfl
theorem allSt_take {s : Nat → Int} {r : List (List Op5)} {i : Nat} (h : i < r.length) : allSt s (r.take (i + 1)) = (outAt s r i).st := by
  rw [allOut_get h, List.take_succ_eq_append_getElem h, allSt_append]; rfl

/-- FILLED, IT IS THE STATE. -/
theorem fill_state {s : Nat → Int} {r : List (List Op5)} {F : Nat → Nat → Bool} {k : Nat} (hk : ∀ d ∈ r, ∀ o ∈ d, o.k = 7 → 0 ≤ o.a) (hF : ∀ i, i < r.length → F i k = true) : (fillF s r F k).foldl (fun acc t => if (!t.op && !t.vo) = true then t.n else acc) 0 = allSt s r k := by
  rw [fill_full hF, List.foldl_cons]
  simp only [Bool.not_false, Bool.and_self, if_true]
  have key : ∀ m, m ≤ r.length → (((List.range m).filter fun i => storesF (r[i]?.getD []) k).map (fun i => endSlot s r i k)).foldl (fun acc t => if (!t.op && !t.vo) = true then t.n else acc) (s k) = allSt s (r.take m) k := by
    intro m
    induction m with
    | zero => intro _; simp [allSt]
    | succ m ih =>
      intro hm
      have hlt : m < r.length := by omega
      rw [List.range_succ, List.filter_append, List.map_append, List.foldl_append, ih (by omega), allSt_take hlt]
      simp only [List.filter_cons, List.filter_nil, List.getElem?_eq_getElem hlt, Option.getD_some]
      have hst := doF_stops (allSt s (r.take m)) r[m]
      rw [← allOut_get hlt] at hst
      by_cases hs : storesF r[m] k = true
      · rw [if_pos hs]
        simp only [List.map_cons, List.map_nil, List.foldl_cons, List.foldl_nil]
        unfold endSlot
        by_cases hc : (outAt s r m).code = 0
        · rw [if_pos hc]; simp
        · rw [if_neg hc]
          rcases hst with ⟨-, h⟩ | ⟨h, -⟩
          · simp [h]
          · exact absurd h hc
      · rw [if_neg hs]
        simp only [List.map_nil, List.foldl_nil]
        rcases hst with ⟨-, h⟩ | ⟨-, h⟩
        · rw [h]
        · by_cases he : (outAt s r m).st k = allSt s (r.take m) k
          · exact he.symm
          · obtain ⟨o, ho, h7, ha⟩ := h k he
            exfalso; apply hs
            unfold storesF
            rw [List.any_eq_true]
            refine ⟨o, ho, ?_⟩
            have := hk r[m] (List.getElem_mem hlt) o ho h7
            simp [h7]; omega
  have := key r.length (Nat.le_refl _)
  rw [List.take_length] at this
  exact this
end Go.Proofs.YtokjigebjcgdjacDoor
