/-
  ALONE IT DOES WHAT IT SAYS, on plain functions.
-/
import Derived.Test.YthlhbmldfjkagaaDoorMathW
namespace Go.Proofs.YthlhbmldfjkagaaDoor

/-- The state as a worker sees it: what it stored itself, on the state ahead. -/
def ovl (s : Nat → Int) (x : Wk) : Nat → Int := fun k => if x.is k then x.n k else s k
def asRun (s : Nat → Int) (x : Wk) : Run := ⟨x.regs, ovl s x, x.nx⟩
theorem asRun_wk0 (s : Nat → Int) : asRun s wk0 = ⟨fun _ => 0, s, 0⟩ := rfl

theorem newF_one (s : Nat → Int) (d : List Op5) (k : Nat) : newF s [d] k = ⟨-1, false, false, s k⟩ :: (if storesF d k then [⟨0, true, false, 0⟩] else []) := by
  simp only [newF, slotsF]
  split <;> rfl
theorem before_alone (s : Nat → Int) (d : List Op5) {k : Int} (hk : 0 ≤ k ∧ k < 10) : beforeT (newF s [d]) k 0 = (s k.toNat, -1) := by
  unfold beforeT
  rw [if_pos hk, newF_one]
  by_cases h : storesF d k.toNat = true
  · rw [if_pos h]; rfl
  · rw [if_neg h]; rfl

theorem stepF_one {o : Op5} {r : Run} (h : o.k = 1) : stepF o r = ⟨putAt r.regs o.a.toNat o.n, r.st, r.next + 1⟩ := by unfold stepF; rw [if_pos h]
theorem alone_step {s : Nat → Int} {d : List Op5} {x : Wk} (ho : x.over = false) (hc : (checkF d).1 = 0) (hlt : x.nx < d.length) (h8 : ¬ (d[x.nx].k = 8 ∧ x.regs d[x.nx].a.toNat ≠ 0)) :
    ∃ y, stepW (newF s [d]) d 0 x = ⟨1, -1, y, newF s [d]⟩ ∧ y.over = false ∧ asRun s y = stepF d[x.nx] (asRun s x) ∧ x.nx < y.nx := by
  have hp := alone_parts (checkF_alone hc _ (List.getElem_mem hlt))
  by_cases h2 : d[x.nx].k = 2
  · have hst : stepF d[x.nx] (asRun s x) = ⟨putAt x.regs d[x.nx].a.toNat (ovl s x d[x.nx].b.toNat), ovl s x, x.nx + 1⟩ := by
      unfold stepF asRun; rw [if_neg (by omega), if_pos h2]
    cases hi : x.is d[x.nx].b.toNat with
    | true =>
      refine ⟨_, stepW_own ho hlt h2 hi, ho, ?_, Nat.lt_succ_self _⟩
      rw [hst]
      have : ovl s x d[x.nx].b.toNat = x.n d[x.nx].b.toNat := by unfold ovl; rw [if_pos hi]
      rw [this]; rfl
    | false =>
      have hb := before_alone s d (k := d[x.nx].b) (by omega)
      refine ⟨_, stepW_load ho hlt h2 hi (by rw [hb]; simp), ho, ?_, Nat.lt_succ_self _⟩
      rw [hst, hb]
      have : ovl s x d[x.nx].b.toNat = s d[x.nx].b.toNat := by unfold ovl; rw [if_neg (by simp [hi])]
      rw [this]; rfl
  · refine ⟨_, stepW_run ho hlt h8 h2, ?_, ?_, ?_⟩
    · unfold runW
      repeat' split
      all_goals exact ho
    · unfold runW stepF asRun
      by_cases k1 : d[x.nx].k = 1
      · rw [if_pos k1, if_pos k1]; rfl
      rw [if_neg k1, if_neg k1, if_neg h2]
      by_cases k7 : d[x.nx].k = 7
      · rw [if_pos k7, if_pos k7]
        have : (fun k => if (fun i => if i = d[x.nx].a.toNat then true else x.is i) k = true then putAt x.n d[x.nx].a.toNat (x.regs d[x.nx].b.toNat) k else s k) = putAt (ovl s x) d[x.nx].a.toNat (x.regs d[x.nx].b.toNat) := by
          funext k
          unfold putAt ovl
          by_cases e : k = d[x.nx].a.toNat
          · simp [e]
          · simp [e]
        unfold ovl
        unfold ovl at this
        dsimp only at this ⊢
        rw [this]
      rw [if_neg k7, if_neg k7]
      by_cases k9 : d[x.nx].k = 9
      · rw [if_pos k9, if_pos k9]; rfl
      rw [if_neg k9, if_neg k9]
      by_cases k3 : d[x.nx].k = 3 ∨ d[x.nx].k = 4 ∨ d[x.nx].k = 5 ∨ d[x.nx].k = 6
      · rw [if_pos k3, if_pos k3]; rfl
      · rw [if_neg k3, if_neg k3]; rfl
    · unfold runW
      repeat' split
      all_goals (dsimp only; try split)
      all_goals omega

/-- The table of a round of one deed that is over. -/
theorem alone_table {s : Nat → Int} {d : List Op5} (x : Wk) {k : Nat} (hk : k < 10) : endTo (newF s [d]) x 0 (keysF d) k = ⟨-1, false, false, s k⟩ :: (if storesF d k then [endOf x 0 k] else []) := by
  have hks : ∀ q ∈ keysF d, q < 10 := fun q hq => (mem_keysF.1 hq).1
  obtain ⟨hl, hs⟩ := endTo_at (x := x) (b := 0) (keysF d) (T := newF s [d]) (fun q _ => newF_fine s [d] q) hks hk
  have h1 := newF_one s d k
  rw [h1] at hl hs
  generalize endTo (newF s [d]) x 0 (keysF d) k = L at hl hs
  by_cases h : storesF d k = true
  · rw [if_pos h] at hl hs ⊢
    simp only [List.length_cons, List.length_nil] at hl
    have s0 := hs 0 (by simp)
    have s1 := hs 1 (by simp)
    rw [slotAt_get (by omega)] at s0 s1
    rw [if_neg (by simp [slotAt, openP])] at s0
    rw [if_pos ⟨mem_keysF.2 ⟨hk, h⟩, by simp [slotAt, openP]⟩] at s1
    match L, hl with
    | [a, b], _ =>
      simp only [List.getElem_cons_zero, List.getElem_cons_succ] at s0 s1
      rw [s0, s1]; rfl
  · rw [if_neg h] at hl hs ⊢
    simp only [List.length_cons, List.length_nil] at hl
    have s0 := hs 0 (by simp)
    rw [slotAt_get (by omega)] at s0
    rw [if_neg (by simp [slotAt, openP])] at s0
    match L, hl with
    | [a], _ =>
      simp only [List.getElem_cons_zero] at s0
      rw [s0]; rfl

theorem alone_cases {s : Nat → Int} {d : List Op5} {x : Wk} (ho : x.over = false) (hc : (checkF d).1 = 0) (hw : WellW d x) (hr : runF s d (asRun s x) = doF s d) :
    (∃ c, stepW (newF s [d]) d 0 x = ⟨3, -1, overW x c, endTo (newF s [d]) x 0 (keysF d)⟩ ∧ doF s d = ⟨ovl s x, c, x.regs⟩) ∨
    (∃ y, stepW (newF s [d]) d 0 x = ⟨1, -1, y, newF s [d]⟩ ∧ y.over = false ∧ runF s d (asRun s y) = doF s d ∧ x.nx < y.nx ∧ WellW d y) := by
  by_cases hlt : x.nx < d.length
  · by_cases h8 : d[x.nx].k = 8 ∧ x.regs d[x.nx].a.toNat ≠ 0
    · refine .inl ⟨9, stepW_stop ho hlt h8.1 h8.2, ?_⟩
      rw [← hr, runF_stop (r := asRun s x) hlt h8.1 h8.2]
      have : ovl s x = s := by
        funext k
        unfold ovl
        rw [if_neg (by simp [hw.stop hc hlt h8.1 k])]
      rw [this]; rfl
    · obtain ⟨y, h1, h2, h3, h4⟩ := alone_step (s := s) ho hc hlt h8
      refine .inr ⟨y, h1, h2, ?_, h4, ?_⟩
      · rw [h3]; exact (runF_step (r := asRun s x) hlt h8).trans hr
      · have := hw.step hc (newF s [d]) 0
        rw [h1] at this; exact this
  · refine .inl ⟨0, stepW_end ho hlt, ?_⟩
    rw [← hr, runF_end (r := asRun s x) hlt]; rfl
end Go.Proofs.YthlhbmldfjkagaaDoor
