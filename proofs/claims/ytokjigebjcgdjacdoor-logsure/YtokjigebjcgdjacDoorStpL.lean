/-
  A log and the reference's, side by side; the walk of a law's logStep.
-/
import Derived.Test.YtokjigebjcgdjacDoorScrC
import Derived.Test.YtokjigebjcgdjacDoorOpenL
namespace Go.Proofs.YtokjigebjcgdjacDoor
open Go.RowKit

/-- The log and the reference's have the same rounds, and as many made sure of; in memory apart, of the law's own. -/
def Both (N : Nat) (w : World) (C D : Nat) (l : List (List (List Op5))) (k : Nat) : Prop :=
  ∃ P Q : Nat → Prop, LogAt P w C l k ∧ ScAt Q w D l k ∧ (∀ b, P b → ¬ Q b) ∧ (∀ b, P b → N ≤ b ∧ b < w.heap.size) ∧ (∀ b, Q b → N ≤ b ∧ b < w.heap.size)
theorem Both.mk' {P Q : Nat → Prop} {N : Nat} {w : World} {C D : Nat} {l : List (List (List Op5))} {k : Nat} (h1 : LogAt P w C l k) (h2 : ScAt Q w D l k) (hd : ∀ b, b < w.heap.size → P b → ¬ Q b) (hP : ∀ b, P b → N ≤ b) (hQ : ∀ b, Q b → N ≤ b) : Both N w C D l k :=
  ⟨fun b => P b ∧ b < w.heap.size, fun b => Q b ∧ b < w.heap.size, h1.mono fun _ hb hp => ⟨hp, hb⟩, h2.mono fun _ hb hp => ⟨hp, hb⟩, fun b hp hq => hd b hp.2 hp.1 hq.1, fun b hp => ⟨hP b hp.1, hp.2⟩, fun b hq => ⟨hQ b hq.1, hq.2⟩⟩
theorem Both.later {N : Nat} {w w' : World} {C D : Nat} {l : List (List (List Op5))} {k : Nat} (h : Both N w C D l k) (hb : Below w.heap.size w w') : Both N w' C D l k := by
  obtain ⟨P, Q, h1, h2, h3, h4, h5⟩ := h
  have := hb.size
  exact ⟨P, Q, h1.later hb, h2.later hb, h3, fun b hp => ⟨(h4 b hp).1, by have := (h4 b hp).2; omega⟩, fun b hp => ⟨(h5 b hp).1, by have := (h5 b hp).2; omega⟩⟩
/-- Behind a change of the log's and one of the reference's. -/
theorem both_next {P Q : Nat → Prop} {N : Nat} {w1 w2 w3 : World} {C D : Nat} {l : List (List (List Op5))} {k : Nat} (h1 : LogAt (fun b => P b ∨ w1.heap.size ≤ b) w2 C l k) (h2 : ScAt (fun b => Q b ∨ w2.heap.size ≤ b) w3 D l k) (hG : Grew Q w2 w3) (hd : ∀ b, P b → ¬ Q b) (hP : ∀ b, P b → N ≤ b ∧ b < w1.heap.size) (hQ : ∀ b, Q b → N ≤ b ∧ b < w1.heap.size) (hN : N ≤ w1.heap.size) (h12 : w1.heap.size ≤ w2.heap.size) : Both N w3 C D l k := by
  have h1' : LogAt (fun b => (P b ∨ w1.heap.size ≤ b) ∧ b < w2.heap.size) w2 C l k := h1.mono fun b hb hp => ⟨hp, hb⟩
  have hpq : ∀ b, (P b ∨ w1.heap.size ≤ b) → ¬ Q b := fun b hp hq => by
    rcases hp with hp | hp
    · exact hd b hp hq
    · have := (hQ b hq).2; omega
  refine Both.mk' (h1'.grew hG fun b hp => hpq b hp.1) h2 (fun b _ hp hq => ?_) (fun b hp => ?_) (fun b hq => ?_)
  · rcases hq with hq | hq
    · exact hpq b hp.1 hq
    · omega
  · rcases hp.1 with hp | hp
    · exact (hP b hp).1
    · omega
  · rcases hq with hq | hq
    · exact (hQ b hq).1
    · omega

section
variable {w0 w : World} {C D : Nat} {l : List (List (List Op5))} {k : Nat}

set_option maxRecDepth 100000 in
set_option maxHeartbeats 2000000 in
theorem step_any {rv : Value} {x : LStep} (h : Both w0.heap.size w C D l k) (hr : RoundAt w0 rv x.r) (fr : Fits x.r) (nr : R64 x.r) (hL : Lim w0) (hB : Below w0.heap.size w0 w) :
    Calls Tryd.prog 16 #[.pointer (some ⟨C, 0, none⟩), .pointer (some ⟨D, 0, none⟩), .agg #[.int .i64 x.d, .int .i64 x.keep, rv]] w fun e w' => IsBool e ∧ (∃ l' k', Both w0.heap.size w' C D l' k') ∧ Below w0.heap.size w0 w' := by
  obtain ⟨d, keep, r⟩ := x
  dsimp only at *
  obtain ⟨P, Q, h1, h2, hd, hP, hQ⟩ := h
  obtain ⟨ra, rcap, rfl, -⟩ := id hr
  have hs := hB.size
  have hbA : Below w.heap.size w (w.alloc (.cells #[.int .i64 d, .int .i64 keep, .slice ra r.length rcap] 42)) := (Below.refl _ _).alloc (Nat.le_refl _) _
  have hB1 : Below w0.heap.size w0 (w.alloc (.cells #[.int .i64 d, .int .i64 keep, .slice ra r.length rcap] 42)) := hB.alloc hs _
  have x0 : (w.alloc (.cells #[.int .i64 d, .int .i64 keep, .slice ra r.length rcap] 42)).cell? ⟨w.heap.size, 0, none⟩ = some (.int .i64 d) := by go_simp
  have x1 : (w.alloc (.cells #[.int .i64 d, .int .i64 keep, .slice ra r.length rcap] 42)).cell? ⟨w.heap.size, 1, none⟩ = some (.int .i64 keep) := by go_simp
  have x2 : (w.alloc (.cells #[.int .i64 d, .int .i64 keep, .slice ra r.length rcap] 42)).cell? ⟨w.heap.size, 2, none⟩ = some (.slice ra r.length rcap) := by go_simp
  have hP1 : ∀ b, P b → w0.heap.size ≤ b ∧ b < (w.alloc (.cells #[.int .i64 d, .int .i64 keep, .slice ra r.length rcap] 42)).heap.size := fun b hb => ⟨(hP b hb).1, by have := (hP b hb).2; simp; omega⟩
  have hQ1 : ∀ b, Q b → w0.heap.size ≤ b ∧ b < (w.alloc (.cells #[.int .i64 d, .int .i64 keep, .slice ra r.length rcap] 42)).heap.size := fun b hb => ⟨(hQ b hb).1, by have := (hQ b hb).2; simp; omega⟩
  have hPx : ¬ P w.heap.size := fun e => by have := (hP _ e).2; omega
  replace h1 := h1.later hbA
  replace h2 := h2.later hbA
  obtain ⟨W, eW⟩ : ∃ W, W = w.alloc (.cells #[.int .i64 d, .int .i64 keep, .slice ra r.length rcap] 42) := ⟨_, rfl⟩
  rw [← eW] at h1 h2 hB1 x0 x1 x2 hP1 hQ1
  have HW : Hid (w.alloc (.cells #[.int .i64 d, .int .i64 keep, .slice ra r.length rcap] 42) = W) := eW.symm
  have hs1 := hB1.size
  clear eW hbA hP hQ hB hs
  by_cases hd0 : d = 0
  · subst hd0
    go_enter Tryd.func16, Tryd.ntmps16
    go_wp2_with fail
    rw [HW.out]
    refine (logPut_any h1 (hr.later hB1) fr nr (hL.later hB1)).mono ?_
    rintro e w2 ⟨hO2, hG2⟩
    have hs2 := hG2.size
    have hB2 : Below w0.heap.size w0 w2 := hG2.below hB1 hs1 fun b hb => (hP1 b hb).1
    replace x2 := hG2.cell x2 hPx
    replace h2 := h2.grew hG2 fun b hq hp => hd b hp hq
    have hput := scPut_any h2 (hr.later hB2) fr nr
    clear h1 x0 x1 hG2 HW
    have hfin : ∀ w3 l' e3, ScOut (fun b => Q b ∨ w2.heap.size ≤ b) w3 D e3 l k r → Grew Q w2 w3 → (okP l r = true → LogAt (fun b => P b ∨ W.heap.size ≤ b) w2 C (l ++ [r]) k ∧ l' = l ++ [r]) → (okP l r = false → LogAt (fun b => P b ∨ W.heap.size ≤ b) w2 C l k ∧ l' = l) → Both w0.heap.size w3 C D l' k ∧ Below w0.heap.size w0 w3 ∧ ∃ a c : Int, e3 = .returned (.tuple #[.int .i64 a, .int .i64 c]) := fun w3 l' e3 hO3 hG3 ht hf => by
      have hB3 : Below w0.heap.size w0 w3 := hG3.below hB2 (by omega) fun b hb => (hQ1 b hb).1
      rcases hO3 with ⟨hk, rfl, h3⟩ | ⟨hk, c, -, rfl, h3⟩
      · obtain ⟨hl, rfl⟩ := ht hk
        exact ⟨both_next hl h3 hG3 hd hP1 hQ1 hs1 hs2, hB3, _, _, rfl⟩
      · obtain ⟨hl, rfl⟩ := hf hk
        exact ⟨both_next hl h3 hG3 hd hP1 hQ1 hs1 hs2, hB3, _, _, rfl⟩
    rcases hO2 with ⟨hk, rfl, h1⟩ | ⟨hk, c, -, rfl, h1⟩
    · have hfin' := fun w3 e3 hO3 hG3 => hfin w3 (l ++ [r]) e3 hO3 hG3 (fun _ => ⟨h1, rfl⟩) (fun h => by rw [hk] at h; cases h)
      have HF : Hid (∀ w3 e3, ScOut (fun b => Q b ∨ w2.heap.size ≤ b) w3 D e3 l k r → Grew Q w2 w3 → Both w0.heap.size w3 C D (l ++ [r]) k ∧ Below w0.heap.size w0 w3 ∧ ∃ a c : Int, e3 = .returned (.tuple #[.int .i64 a, .int .i64 c])) := hfin'
      clear hfin hfin' h1 h2 hk
      go_wp2_with fail
      refine hput.mono ?_
      rintro e w3 ⟨hO3, hG3⟩
      obtain ⟨hb3, hB3, a3, c3, rfl⟩ := HF.out w3 e hO3 hG3
      clear hput hO3 hG3 HF x2
      go_wp2_with fail
      all_goals go_ret
      all_goals exact ⟨⟨_, rfl⟩, ⟨_, _, hb3⟩, hB3⟩
    · have hfin' := fun w3 e3 hO3 hG3 => hfin w3 l e3 hO3 hG3 (fun h => by rw [hk] at h; cases h) (fun _ => ⟨h1, rfl⟩)
      have HF : Hid (∀ w3 e3, ScOut (fun b => Q b ∨ w2.heap.size ≤ b) w3 D e3 l k r → Grew Q w2 w3 → Both w0.heap.size w3 C D l k ∧ Below w0.heap.size w0 w3 ∧ ∃ a c : Int, e3 = .returned (.tuple #[.int .i64 a, .int .i64 c])) := hfin'
      clear hfin hfin' h1 h2 hk
      go_wp2_with fail
      refine hput.mono ?_
      rintro e w3 ⟨hO3, hG3⟩
      obtain ⟨hb3, hB3, a3, c3, rfl⟩ := HF.out w3 e hO3 hG3
      clear hput hO3 hG3 HF x2
      go_wp2_with fail
      all_goals go_ret
      all_goals exact ⟨⟨_, rfl⟩, ⟨_, _, hb3⟩, hB3⟩
  · have t0 : (d == 0) = false := by simp [hd0]
    by_cases hd1 : d = 1
    · subst hd1
      go_enter Tryd.func16, Tryd.ntmps16
      go_wp2_with fail
      rw [HW.out]
      refine (logSync_any h1).mono ?_
      rintro e w2 ⟨rfl, h1', hG2⟩
      have hs2 := hG2.size
      have hB2 : Below w0.heap.size w0 w2 := hG2.below hB1 hs1 fun b hb => (hP1 b hb).1
      replace h2 := h2.grew hG2 fun b hq hp => hd b hp hq
      obtain ⟨ho, vl, xs, hS⟩ := h2
      obtain ⟨la, lcap, rfl, -⟩ := hS.row.slice
      have hl := hS.len
      have hS2 := hS.sure (l.length : Int)
      have s0 := hS.c0
      rw [hl] at s0
      have s1 := hS.c1
      have s2 := hS.fr
      have hBoth : Hid (Both w0.heap.size (w2.setCell ⟨D, 1, none⟩ (.int .i64 (l.length : Int))) C D l l.length) :=
        both_next (h1'.mono fun b _ hb => .inl hb) (ScAt.mono ⟨ho.sync, _, _, hS2⟩ fun b _ hb => .inl hb) (grew_set w2 hS.qD _ _) hd hP1 hQ1 hs1 hs2
      have hB3 : Below w0.heap.size w0 (w2.setCell ⟨D, 1, none⟩ (.int .i64 (l.length : Int))) := hB2.setCell (p := ⟨D, 1, none⟩) (hQ1 D hS.qD).1 _
      clear hS hS2 h1' hG2 h1 HW x0 x1 x2 hl ho
      go_wp2_with fail
      go_ret
      exact ⟨⟨_, rfl⟩, ⟨_, _, hBoth.out⟩, hB3⟩
    · have t1 : (d == 1) = false := by simp [hd1]
      by_cases hd2 : d = 2
      · subst hd2
        go_enter Tryd.func16, Tryd.ntmps16
        go_wp2_with fail
        rw [HW.out]
        refine (logCrash_any h1 keep).mono ?_
        rintro e w2 ⟨rfl, h1', hG2⟩
        have hs2 := hG2.size
        have hB2 : Below w0.heap.size w0 w2 := hG2.below hB1 hs1 fun b hb => (hP1 b hb).1
        replace x1 := hG2.cell x1 hPx
        replace h2 := h2.grew hG2 fun b hq hp => hd b hp hq
        have hcr := scCrash_any h2 keep
        clear h1 h2 x0 x2 HW hG2
        go_wp2_with fail
        refine hcr.mono ?_
        rintro e w3 ⟨rfl, h3, hG3⟩
        have hB3 : Below w0.heap.size w0 w3 := hG3.below hB2 (by omega) fun b hb => (hQ1 b hb).1
        have hb3 := both_next (h1'.mono fun b _ hb => .inl hb) (h3.mono fun b _ hb => .inl hb) hG3 hd hP1 hQ1 hs1 hs2
        clear hcr h3 hG3 h1' x1
        go_wp2_with fail
        go_ret
        exact ⟨⟨_, rfl⟩, ⟨_, _, hb3⟩, hB3⟩
      · have t2 : (d == 2) = false := by simp [hd2]
        have hb3 : Hid (Both w0.heap.size W C D l k) := ⟨P, Q, h1, h2, hd, hP1, hQ1⟩
        clear h1 h2
        go_enter Tryd.func16, Tryd.ntmps16
        go_wp2_with fail
        rw [HW.out]
        go_ret
        exact ⟨⟨_, rfl⟩, ⟨_, _, hb3.out⟩, hB1⟩
end
end Go.Proofs.YtokjigebjcgdjacDoor
