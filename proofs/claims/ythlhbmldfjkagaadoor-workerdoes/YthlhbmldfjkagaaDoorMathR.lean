/-
  IN WHATEVER ORDER THEY RUN, THEY CAME ONE BEHIND THE OTHER, on plain functions.
-/
import Derived.Test.YthlhbmldfjkagaaDoorMathA
namespace Go.Proofs.YthlhbmldfjkagaaDoor

/-- The slot of deed i, by what its worker is. -/
def slW (X : Nat → Wk) (k i : Nat) : Slot4 := if (X i).over then endOf (X i) (i : Int) k else ⟨(i : Int), true, false, 0⟩
/-- The slots of a key, of the first m deeds. -/
def slotsW (s : Nat → Int) (r : List (List Op5)) (X : Nat → Wk) (k m : Nat) : List Slot4 := ⟨-1, false, false, s k⟩ :: ((List.range m).filter fun i => storesF (r[i]?.getD []) k).map (slW X k)
def tabF (s : Nat → Int) (r : List (List Op5)) (X : Nat → Wk) : Nat → List Slot4 := fun k => slotsW s r X k r.length

theorem newF_tabF (s : Nat → Int) (r : List (List Op5)) : newF s r = tabF s r (fun _ => wk0) := by
  funext k
  unfold newF tabF slotsW
  rw [slotsF_storers]
  rfl
theorem slW_b (X : Nat → Wk) (k i : Nat) : (slW X k i).b = (i : Int) := by
  unfold slW
  split
  · exact (endOf_b _ _ _).1
  · rfl

theorem tabF_done {s : Nat → Int} {r : List (List Op5)} {X : Nat → Wk} {T : Nat → List Slot4} {i k : Nat} {c : Int} (hT : FineT T) (hk : k < 10) (hTk : T k = tabF s r X k) (hi : i < r.length) (hX : (X i).over = false) :
    endTo T (X i) (i : Int) (keysF r[i]) k = tabF s r (putW X i (overW (X i) c)) k := by
  have hks : ∀ q ∈ keysF r[i], q < 10 := fun q hq => (mem_keysF.1 hq).1
  obtain ⟨hl, hs⟩ := endTo_at (x := X i) (b := (i : Int)) (keysF r[i]) hT hks hk
  rw [hTk] at hl hs
  have hlen : (tabF s r (putW X i (overW (X i) c)) k).length = (tabF s r X k).length := by simp [tabF, slotsW]
  apply List.ext_getElem
  · rw [hl, hlen]
  · intro j h1 h2
    have hj : j < (tabF s r X k).length := by rw [← hl]; exact h1
    have := hs j hj
    rw [slotAt_get h1, slotAt_get hj] at this
    rw [this]
    cases j with
    | zero => simp [tabF, slotsW, openP]
    | succ j =>
      have hj' : j < (storers r k).length := by simpa [tabF, slotsW, storers] using hj
      have e1 : (tabF s r X k)[j + 1] = slW X k (storers r k)[j] := by simp [tabF, slotsW, storers]
      have e2 : (tabF s r (putW X i (overW (X i) c)) k)[j + 1] = slW (putW X i (overW (X i) c)) k (storers r k)[j] := by simp [tabF, slotsW, storers]
      rw [e1, e2]
      have hm := List.mem_filter.1 (List.getElem_mem hj' : (storers r k)[j] ∈ storers r k)
      generalize (storers r k)[j] = a at hm
      by_cases ha : a = i
      · subst ha
        have hst : storesF r[a] k = true := by
          have := hm.2
          rw [List.getElem?_eq_getElem hi] at this
          simpa using this
        have hsl : slW X k a = ⟨(a : Int), true, false, 0⟩ := by unfold slW; rw [if_neg (by simp [hX])]
        rw [if_pos ⟨mem_keysF.2 ⟨hk, hst⟩, by rw [hsl]; simp [openP]⟩]
        unfold slW putW
        rw [if_pos rfl]
        rfl
      · rw [if_neg (fun h => ha (by have := h.2; unfold openP at this; rw [slW_b] at this; simp at this; omega))]
        unfold slW putW
        rw [if_neg ha]
theorem tabF_same {s : Nat → Int} {r : List (List Op5)} {X : Nat → Wk} {i : Nat} {y : Wk} (hX : (X i).over = false) (hy : y.over = false) (k : Nat) : tabF s r (putW X i y) k = tabF s r X k := by
  unfold tabF slotsW
  congr 1
  apply List.map_congr_left
  intro a _
  unfold slW putW
  by_cases e : a = i
  · subst e; rw [if_pos rfl]; simp [hX, hy]
  · rw [if_neg e]
theorem putW_own (X : Nat → Wk) (i : Nat) : putW X i (X i) = X := by
  funext q; unfold putW; split
  · rename_i e; rw [e]
  · rfl

theorem lastF_snoc (p : Slot4 → Bool) (l : List Slot4) (t : Slot4) : lastF p (l ++ [t]) = if p t then some l.length else lastF p l := by
  induction l with
  | nil => simp [lastF]
  | cons a l ih =>
    simp only [List.cons_append, lastF, ih, List.length_cons]
    by_cases hp : p t = true
    · simp [hp]
    · simp [hp]
theorem lastF_front (p : Slot4 → Bool) (l m : List Slot4) (hm : ∀ t ∈ m, p t = false) : lastF p (l ++ m) = lastF p l := by
  induction l with
  | nil => rw [List.nil_append, lastF_none.2 hm]; rfl
  | cons a l ih => simp only [List.cons_append, lastF, ih]
theorem lastF_congr {p q : Slot4 → Bool} {l : List Slot4} (h : ∀ t ∈ l, p t = q t) : lastF p l = lastF q l := by
  induction l with
  | nil => rfl
  | cons a l ih =>
    simp only [lastF]
    rw [ih (fun t ht => h t (by simp [ht])), h a (by simp)]
theorem slotAt_front {l m : List Slot4} {i : Nat} (h : i < l.length) : slotAt (l ++ m) i = slotAt l i := by
  unfold slotAt; rw [List.getElem?_append_left h]

/-- What the last slot that is not void has. -/
def seenF (l : List Slot4) (o : Option Nat) : Int × Int :=
  match o with
  | none => (0, -1)
  | some i => if (slotAt l i).op then (0, (slotAt l i).b) else ((slotAt l i).n, -1)
def backF (l : List Slot4) : Int × Int := seenF l (lastF (fun t => !t.vo) l)
theorem backF_snoc (l : List Slot4) (t : Slot4) : backF (l ++ [t]) = if t.vo then backF l else if t.op then (0, t.b) else (t.n, -1) := by
  unfold backF
  rw [lastF_snoc]
  cases hv : t.vo with
  | true =>
    simp only [Bool.not_true, Bool.false_eq_true, if_false, if_true]
    cases h : lastF (fun t => !t.vo) l with
    | none => rfl
    | some i => unfold seenF; dsimp only; rw [slotAt_front (lastF_some.1 h).1]
  | false =>
    simp only [Bool.not_false, if_true, Bool.false_eq_true, if_false]
    unfold seenF
    have : slotAt (l ++ [t]) l.length = t := by simp [slotAt]
    dsimp only
    rw [this]

theorem slotsW_low (s : Nat → Int) (r : List (List Op5)) (X : Nat → Wk) (k m : Nat) : ∀ t ∈ slotsW s r X k m, t.b < (m : Int) := by
  intro t ht
  rcases List.mem_cons.1 ht with rfl | ht
  · show (-1 : Int) < m; omega
  · obtain ⟨a, ha, rfl⟩ := List.mem_map.1 ht
    have := (List.mem_filter.1 ha).1
    rw [slW_b]
    have : a < m := by simpa using this
    omega
theorem slotsW_split (s : Nat → Int) (r : List (List Op5)) (X : Nat → Wk) (k m c : Nat) : ∃ rest, slotsW s r X k (m + c) = slotsW s r X k m ++ rest ∧ ∀ t ∈ rest, (m : Int) ≤ t.b := by
  refine ⟨(((List.range c).map (m + ·)).filter fun i => storesF (r[i]?.getD []) k).map (slW X k), ?_, fun t ht => ?_⟩
  · unfold slotsW
    rw [List.range_add, List.filter_append, List.map_append, List.cons_append]
  · obtain ⟨a, ha, rfl⟩ := List.mem_map.1 ht
    obtain ⟨q, -, rfl⟩ := List.mem_map.1 (List.mem_filter.1 ha).1
    rw [slW_b]; omega
theorem before_back (s : Nat → Int) (r : List (List Op5)) (X : Nat → Wk) (k : Nat) {m : Nat} (hm : m ≤ r.length) : beforeF (tabF s r X k) (m : Int) = backF (slotsW s r X k m) := by
  obtain ⟨c, hc⟩ : ∃ c, r.length = m + c := ⟨r.length - m, by omega⟩
  obtain ⟨rest, he, hr⟩ := slotsW_split s r X k m c
  unfold tabF
  rw [hc, he]
  unfold beforeF backF
  rw [lastF_front _ _ _ (fun t ht => by have := hr t ht; unfold aheadP; simp; intro h; omega)]
  rw [lastF_congr (q := fun t => !t.vo) (fun t ht => by have := slotsW_low s r X k m t ht; unfold aheadP; simp [this])]
  unfold seenF
  cases h : lastF (fun t => !t.vo) (slotsW s r X k m) with
  | none => rfl
  | some i =>
    dsimp only
    rw [slotAt_front (lastF_some.1 h).1]

/-- What is known of a round under way: each deed that is not over goes on to what it comes to, and each that is over came to it. -/
structure InOrder (s : Nat → Int) (r : List (List Op5)) (X : Nat → Wk) (T : Nat → List Slot4) : Prop where
  ok : CrewOk r X T
  tab : ∀ k, k < 10 → T k = tabF s r X k
  runs : ∀ i (h : i < r.length), (X i).over = false → runF (allSt s (r.take i)) r[i] (asRun (allSt s (r.take i)) (X i)) = outAt s r i
  ends : ∀ i, i < r.length → (X i).over = true → outAt s r i = ⟨ovl (allSt s (r.take i)) (X i), (X i).code, (X i).regs⟩

theorem inOrder_new (s : Nat → Int) (r : List (List Op5)) : InOrder s r (fun _ => wk0) (newF s r) :=
  ⟨newF_opens s r, fun k _ => by rw [newF_tabF], fun i h _ => by rw [asRun_wk0, allOut_get h]; rfl, fun i _ h => by simp [wk0] at h⟩

theorem allSt_next {s : Nat → Int} {r : List (List Op5)} (hck : ∀ d ∈ r, (checkF d).1 = 0) {m : Nat} (hm : m < r.length) {k : Nat} (hs : storesF r[m] k = false) : allSt s (r.take (m + 1)) k = allSt s (r.take m) k := by
  rw [allSt_take hm]
  have hst := doF_stops (allSt s (r.take m)) r[m]
  rw [← allOut_get hm] at hst
  rcases hst with ⟨-, h⟩ | ⟨-, h⟩
  · rw [h]
  · by_cases he : (outAt s r m).st k = allSt s (r.take m) k
    · exact he
    · obtain ⟨o, ho, h7, ha⟩ := h k he
      exfalso
      have hp := alone_parts (checkF_alone (hck r[m] (List.getElem_mem hm)) o ho)
      have : storesF r[m] k = true := by
        unfold storesF
        rw [List.any_eq_true]
        exact ⟨o, ho, by simp [h7]; omega⟩
      rw [hs] at this; cases this

/-- What is known is what the deeds ahead made. -/
theorem back_value {s : Nat → Int} {r : List (List Op5)} {X : Nat → Wk} (hck : ∀ d ∈ r, (checkF d).1 = 0) (he : ∀ i, i < r.length → (X i).over = true → outAt s r i = ⟨ovl (allSt s (r.take i)) (X i), (X i).code, (X i).regs⟩) (k : Nat) :
    ∀ m, m ≤ r.length → ¬ 0 ≤ (backF (slotsW s r X k m)).2 → (backF (slotsW s r X k m)).1 = allSt s (r.take m) k := by
  intro m
  induction m with
  | zero => intro _ _; simp [slotsW, backF, lastF, seenF, slotAt, allSt]
  | succ m ih =>
    intro hm
    have hlt : m < r.length := by omega
    have hsp : slotsW s r X k (m + 1) = slotsW s r X k m ++ (if storesF r[m] k then [slW X k m] else []) := by
      unfold slotsW
      rw [List.range_succ, List.filter_append, List.map_append, List.cons_append]
      congr 2
      simp only [List.filter_cons, List.filter_nil, List.getElem?_eq_getElem hlt, Option.getD_some]
      split <;> simp
    rw [hsp]
    by_cases hs : storesF r[m] k = true
    · rw [if_pos hs, backF_snoc]
      cases ho : (X m).over with
      | false =>
        have : slW X k m = ⟨(m : Int), true, false, 0⟩ := by unfold slW; rw [if_neg (by simp [ho])]
        rw [this]
        simp
      | true =>
        have : slW X k m = endOf (X m) (m : Int) k := by unfold slW; rw [if_pos ho]
        rw [this, allSt_take hlt, he m hlt ho]
        unfold endOf
        cases hi : (X m).is k with
        | true => simp [ovl, hi]
        | false =>
          simp only [Bool.false_eq_true, if_false, if_true]
          intro h
          rw [ih (by omega) h]
          simp [ovl, hi]
    · rw [if_neg hs, List.append_nil]
      intro h
      rw [ih (by omega) h, allSt_next hck hlt (by simpa using hs)]

/-- A step that neither ends nor stops. -/
theorem step_goes {T : Nat → List Slot4} {d : List Op5} {b : Int} {t : Nat → Int} {x : Wk} (ho : x.over = false) (hc : (checkF d).1 = 0) (hlt : x.nx < d.length) (h8 : ¬ (d[x.nx].k = 8 ∧ x.regs d[x.nx].a.toNat ≠ 0))
    (hb : d[x.nx].k = 2 → ¬ 0 ≤ (beforeT T d[x.nx].b b).2 → (beforeT T d[x.nx].b b).1 = t d[x.nx].b.toNat) :
    stepW T d b x = ⟨2, (beforeT T d[x.nx].b b).2, x, T⟩ ∨ ∃ y, stepW T d b x = ⟨1, -1, y, T⟩ ∧ y.over = false ∧ asRun t y = stepF d[x.nx] (asRun t x) ∧ x.nx < y.nx := by
  have hp := alone_parts (checkF_alone hc _ (List.getElem_mem hlt))
  by_cases h2 : d[x.nx].k = 2
  · have hst : stepF d[x.nx] (asRun t x) = ⟨putAt x.regs d[x.nx].a.toNat (ovl t x d[x.nx].b.toNat), ovl t x, x.nx + 1⟩ := by
      unfold stepF asRun; rw [if_neg (by omega), if_pos h2]
    cases hi : x.is d[x.nx].b.toNat with
    | true =>
      refine .inr ⟨_, stepW_own ho hlt h2 hi, ho, ?_, Nat.lt_succ_self _⟩
      rw [hst]
      have : ovl t x d[x.nx].b.toNat = x.n d[x.nx].b.toNat := by unfold ovl; rw [if_pos hi]
      rw [this]; rfl
    | false =>
      by_cases hw : 0 ≤ (beforeT T d[x.nx].b b).2
      · exact .inl (stepW_waits ho hlt h2 hi hw)
      · refine .inr ⟨_, stepW_load ho hlt h2 hi hw, ho, ?_, Nat.lt_succ_self _⟩
        rw [hst, hb h2 hw]
        have : ovl t x d[x.nx].b.toNat = t d[x.nx].b.toNat := by unfold ovl; rw [if_neg (by simp [hi])]
        rw [this]; rfl
  · refine .inr ⟨_, stepW_run ho hlt h8 h2, ?_, ?_, ?_⟩
    · unfold runW
      repeat' split
      all_goals exact ho
    · unfold runW stepF asRun
      by_cases k1 : d[x.nx].k = 1
      · rw [if_pos k1, if_pos k1]; rfl
      rw [if_neg k1, if_neg k1, if_neg h2]
      by_cases k7 : d[x.nx].k = 7
      · rw [if_pos k7, if_pos k7]
        have : (fun k => if (fun i => if i = d[x.nx].a.toNat then true else x.is i) k = true then putAt x.n d[x.nx].a.toNat (x.regs d[x.nx].b.toNat) k else t k) = putAt (ovl t x) d[x.nx].a.toNat (x.regs d[x.nx].b.toNat) := by
          funext k
          unfold putAt ovl
          by_cases e : k = d[x.nx].a.toNat
          · simp [e]
          · simp [e]
        unfold ovl
        unfold ovl at this
        dsimp only at this ⊢
        rw [this]
      rw [if_neg k7, if_neg k7]
      by_cases k9 : d[x.nx].k = 9
      · rw [if_pos k9, if_pos k9]; rfl
      rw [if_neg k9, if_neg k9]
      by_cases k3 : d[x.nx].k = 3 ∨ d[x.nx].k = 4 ∨ d[x.nx].k = 5 ∨ d[x.nx].k = 6
      · rw [if_pos k3, if_pos k3]; rfl
      · rw [if_neg k3, if_neg k3]; rfl
    · unfold runW
      repeat' split
      all_goals (dsimp only; try split)
      all_goals omega

/-- What a step of deed i can come to. -/
theorem InOrder.cases {s : Nat → Int} {r : List (List Op5)} {X : Nat → Wk} {T : Nat → List Slot4} (h : InOrder s r X T) (hck : ∀ d ∈ r, (checkF d).1 = 0) {i : Nat} (hi : i < r.length) :
    ((X i).over = true ∧ stepW T r[i] (i : Int) (X i) = ⟨3, -1, X i, T⟩) ∨
    ((X i).over = false ∧ ∃ c, stepW T r[i] (i : Int) (X i) = ⟨3, -1, overW (X i) c, endTo T (X i) (i : Int) (keysF r[i])⟩ ∧ outAt s r i = ⟨ovl (allSt s (r.take i)) (X i), c, (X i).regs⟩) ∨
    ((X i).over = false ∧ ∃ y, stepW T r[i] (i : Int) (X i) = ⟨1, -1, y, T⟩ ∧ y.over = false ∧ runF (allSt s (r.take i)) r[i] (asRun (allSt s (r.take i)) y) = outAt s r i ∧ (X i).nx < y.nx) ∨
    ((X i).over = false ∧ ∃ q : Nat, q < i ∧ stepW T r[i] (i : Int) (X i) = ⟨2, (q : Int), X i, T⟩ ∧ (X q).over = false) := by
  have hc := hck r[i] (List.getElem_mem hi)
  cases ho : (X i).over with
  | true => exact .inl ⟨rfl, stepW_over ho⟩
  | false =>
    right
    have hr := h.runs i hi ho
    by_cases hlt : (X i).nx < r[i].length
    · by_cases h8 : r[i][(X i).nx].k = 8 ∧ (X i).regs r[i][(X i).nx].a.toNat ≠ 0
      · refine .inl ⟨rfl, 9, stepW_stop ho hlt h8.1 h8.2, ?_⟩
        rw [← hr, runF_stop (r := asRun (allSt s (r.take i)) (X i)) hlt h8.1 h8.2]
        have : ovl (allSt s (r.take i)) (X i) = allSt s (r.take i) := by
          funext k
          unfold ovl
          rw [if_neg (by simp [(h.ok.well i hi).stop hc hlt h8.1 k])]
        rw [this]; rfl
      · right
        have hp := alone_parts (checkF_alone hc _ (List.getElem_mem hlt))
        have hb : r[i][(X i).nx].k = 2 → ¬ 0 ≤ (beforeT T r[i][(X i).nx].b (i : Int)).2 → (beforeT T r[i][(X i).nx].b (i : Int)).1 = allSt s (r.take i) r[i][(X i).nx].b.toNat := fun h2 => by
          unfold beforeT
          rw [if_pos (by omega), h.tab _ (by omega), before_back s r X _ (by omega)]
          exact back_value hck h.ends _ i (by omega)
        rcases step_goes (t := allSt s (r.take i)) ho hc hlt h8 hb with hw | ⟨y, h1, h2, h3, h4⟩
        · right
          have := h.ok.waits hi
          rw [hw] at this
          rcases this with ⟨e, -⟩ | ⟨-, q, hq, e, h3, -⟩
          · exact absurd rfl e
          · refine ⟨rfl, q, hq, ?_, h3⟩
            rw [hw]
            dsimp only at e
            rw [e]
        · refine .inl ⟨rfl, y, h1, h2, ?_, h4⟩
          rw [h3]
          exact (runF_step (r := asRun (allSt s (r.take i)) (X i)) hlt h8).trans hr
    · refine .inl ⟨rfl, 0, stepW_end ho hlt, ?_⟩
      rw [← hr, runF_end (r := asRun (allSt s (r.take i)) (X i)) hlt]; rfl

theorem InOrder.step {s : Nat → Int} {r : List (List Op5)} {X : Nat → Wk} {T : Nat → List Slot4} (h : InOrder s r X T) (hck : ∀ d ∈ r, (checkF d).1 = 0) {i : Nat} (hi : i < r.length) : InOrder s r (putW X i (stepW T r[i] (i : Int) (X i)).x) (stepW T r[i] (i : Int) (X i)).T := by
  have hok := h.ok.step hi (hck r[i] (List.getElem_mem hi))
  rcases h.cases hck hi with ⟨-, e⟩ | ⟨ho, c, e, hout⟩ | ⟨ho, y, e, hy, hr, -⟩ | ⟨-, q, -, e, -⟩
  · rw [e]; dsimp only; rw [putW_own]; exact h
  · rw [e] at hok ⊢
    dsimp only at hok ⊢
    refine ⟨hok, fun k hk => tabF_done h.ok.fine hk (h.tab k hk) hi ho, fun q hq hqo => ?_, fun q hq hqo => ?_⟩
    · by_cases e : q = i
      · subst e; simp [putW, overW] at hqo
      · have e' : putW X i (overW (X i) c) q = X q := by unfold putW; rw [if_neg e]
        rw [e'] at hqo ⊢; exact h.runs q hq hqo
    · by_cases e : q = i
      · subst e
        have e' : putW X q (overW (X q) c) q = overW (X q) c := by unfold putW; rw [if_pos rfl]
        rw [e', hout]; rfl
      · have e' : putW X i (overW (X i) c) q = X q := by unfold putW; rw [if_neg e]
        rw [e'] at hqo ⊢; exact h.ends q hq hqo
  · rw [e] at hok ⊢
    dsimp only at hok ⊢
    refine ⟨hok, fun k hk => by rw [tabF_same ho hy]; exact h.tab k hk, fun q hq hqo => ?_, fun q hq hqo => ?_⟩
    · by_cases e : q = i
      · subst e
        have e' : putW X q y q = y := by unfold putW; rw [if_pos rfl]
        rw [e']; exact hr
      · have e' : putW X i y q = X q := by unfold putW; rw [if_neg e]
        rw [e'] at hqo ⊢; exact h.runs q hq hqo
    · by_cases e : q = i
      · subst e
        have e' : putW X q y q = y := by unfold putW; rw [if_pos rfl]
        rw [e', hy] at hqo; cases hqo
      · have e' : putW X i y q = X q := by unfold putW; rw [if_neg e]
        rw [e'] at hqo ⊢; exact h.ends q hq hqo
  · rw [e]; dsimp only; rw [putW_own]; exact h

/-- How many steps are left, at most, of the first n deeds. -/
def todoW (d : List Op5) (x : Wk) : Nat := if x.over then 0 else d.length - x.nx + 1
def todoF (r : List (List Op5)) (X : Nat → Wk) : Nat → Nat
  | 0 => 0
  | n + 1 => todoF r X n + todoW (r[n]?.getD []) (X n)
def mostF (r : List (List Op5)) : Nat → Nat
  | 0 => 0
  | n + 1 => mostF r n + ((r[n]?.getD []).length + 1)
theorem todo_most (r : List (List Op5)) (X : Nat → Wk) (n : Nat) : todoF r X n ≤ mostF r n := by
  induction n with
  | zero => exact Nat.le_refl _
  | succ n ih =>
    simp only [todoF, mostF]
    have : todoW (r[n]?.getD []) (X n) ≤ (r[n]?.getD []).length + 1 := by unfold todoW; split <;> omega
    omega
theorem todo_put (r : List (List Op5)) (X : Nat → Wk) (i : Nat) (y : Wk) (n : Nat) : (n ≤ i → todoF r (putW X i y) n = todoF r X n) ∧ (i < n → todoF r (putW X i y) n + todoW (r[i]?.getD []) (X i) = todoF r X n + todoW (r[i]?.getD []) y) := by
  induction n with
  | zero => exact ⟨fun _ => rfl, fun h => by omega⟩
  | succ n ih =>
    simp only [todoF]
    refine ⟨fun h => ?_, fun h => ?_⟩
    · rw [ih.1 (by omega)]
      unfold putW; rw [if_neg (by omega)]
    · by_cases e : n = i
      · subst e
        rw [ih.1 (Nat.le_refl _)]
        have : putW X n y n = y := by unfold putW; rw [if_pos rfl]
        rw [this]; omega
      · have := ih.2 (by omega)
        have e' : putW X i y n = X n := by unfold putW; rw [if_neg e]
        rw [e']; omega
theorem todo_over {r : List (List Op5)} {X : Nat → Wk} {n : Nat} (h : todoF r X n = 0) : ∀ i, i < n → (X i).over = true := by
  induction n with
  | zero => intro i hi; omega
  | succ n ih =>
    simp only [todoF] at h
    intro i hi
    by_cases e : i = n
    · subst e
      have : todoW (r[i]?.getD []) (X i) = 0 := by omega
      unfold todoW at this
      split at this
      · assumption
      · omega
    · exact ih (by omega) i (by omega)

/-- SOME ONE CAN ALWAYS GO ON: one all ahead of which are over does not wait, and comes nearer to its end. -/
theorem InOrder.goes {s : Nat → Int} {r : List (List Op5)} {X : Nat → Wk} {T : Nat → List Slot4} (h : InOrder s r X T) (hck : ∀ d ∈ r, (checkF d).1 = 0) {i : Nat} (hi : i < r.length) (ha : ∀ q, q < i → (X q).over = true) (ho : (X i).over = false) :
    (((stepW T r[i] (i : Int) (X i)).what = 1 ∧ (stepW T r[i] (i : Int) (X i)).x.over = false) ∨ ((stepW T r[i] (i : Int) (X i)).what = 3 ∧ (stepW T r[i] (i : Int) (X i)).x.over = true)) ∧ todoW r[i] (stepW T r[i] (i : Int) (X i)).x < todoW r[i] (X i) := by
  have hw := (h.ok.well i hi).step (hck r[i] (List.getElem_mem hi)) T (i : Int)
  rcases h.cases hck hi with ⟨e, -⟩ | ⟨-, c, e, -⟩ | ⟨-, y, e, hy, -, hn⟩ | ⟨-, q, hq, -, e⟩
  · rw [ho] at e; cases e
  · rw [e]
    refine ⟨.inr ⟨rfl, rfl⟩, ?_⟩
    unfold todoW
    rw [if_pos (by rfl), if_neg (by simp [ho])]
    omega
  · rw [e] at hw ⊢
    refine ⟨.inl ⟨rfl, hy⟩, ?_⟩
    have := hw.nx
    unfold todoW
    dsimp only at this ⊢
    rw [if_neg (by simp [hy]), if_neg (by simp [ho])]
    omega
  · rw [ha q hq] at e; cases e
end Go.Proofs.YthlhbmldfjkagaaDoor
