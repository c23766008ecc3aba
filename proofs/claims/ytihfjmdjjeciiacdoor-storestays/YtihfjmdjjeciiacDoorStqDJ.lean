/-
  The walk of a store's Do.
-/
import Derived.Test.YtihfjmdjjeciiacDoorStqCJ
namespace Go.Proofs.YtihfjmdjjeciiacDoor
open Go.RowKit Go.Shelf

section
variable {P : Nat → Prop} {w : World} {S : Nat} {l : List (List (List Op5))} {k m : Nat}

set_option maxRecDepth 100000 in
set_option maxHeartbeats 2000000 in
theorem stDo_any {rv pv : Value} {x : QStep} (h : StAt P w S l k m) (hr : RoundAt w rv x.r) (fr : Fits x.r) (nr : R64 x.r) (hp : NumsAt w pv x.p) (hL : Lim w) (h0 : ¬ P 0) :
    Calls Tryd.prog 36 #[.pointer (some ⟨S, 0, none⟩), .agg #[.int .i64 x.k, rv, pv, .int .i64 x.keep]] w fun e w' => e = .returned (.int .i64 (stepQ l k m x).c) ∧ StAt (fun b => P b ∨ w.heap.size ≤ b) w' S (stepQ l k m x).l (stepQ l k m x).k (stepQ l k m x).m ∧ Grew P w w' := by
  obtain ⟨kd, r, p, keep⟩ := x
  dsimp only at *
  obtain ⟨ra, rcap, rfl, -⟩ := id hr
  obtain ⟨pa, pcap, rfl, -⟩ := id hp
  have hbA : Below w.heap.size w (w.alloc (.cells #[.int .i64 kd, .slice ra r.length rcap, .slice pa p.length pcap, .int .i64 keep] 78)) := (Below.refl _ _).alloc (Nat.le_refl _) _
  have x0 : (w.alloc (.cells #[.int .i64 kd, .slice ra r.length rcap, .slice pa p.length pcap, .int .i64 keep] 78)).cell? ⟨w.heap.size, 0, none⟩ = some (.int .i64 kd) := by go_simp
  have x1 : (w.alloc (.cells #[.int .i64 kd, .slice ra r.length rcap, .slice pa p.length pcap, .int .i64 keep] 78)).cell? ⟨w.heap.size, 1, none⟩ = some (.slice ra r.length rcap) := by go_simp
  have x2 : (w.alloc (.cells #[.int .i64 kd, .slice ra r.length rcap, .slice pa p.length pcap, .int .i64 keep] 78)).cell? ⟨w.heap.size, 2, none⟩ = some (.slice pa p.length pcap) := by go_simp
  have x3 : (w.alloc (.cells #[.int .i64 kd, .slice ra r.length rcap, .slice pa p.length pcap, .int .i64 keep] 78)).cell? ⟨w.heap.size, 3, none⟩ = some (.int .i64 keep) := by go_simp
  obtain ⟨C, vl, h⟩ := h
  have hlt := h.lt
  have c0 := h.c0
  replace h := h.later hbA
  replace hr := hr.later hbA
  replace hp := hp.later hbA
  replace hL := hL.later hbA
  obtain ⟨W, eW⟩ : ∃ W, W = w.alloc (.cells #[.int .i64 kd, .slice ra r.length rcap, .slice pa p.length pcap, .int .i64 keep] 78) := ⟨_, rfl⟩
  rw [← eW] at h hr hp hL x0 x1 x2 x3 hbA
  have HW : Hid (w.alloc (.cells #[.int .i64 kd, .slice ra r.length rcap, .slice pa p.length pcap, .int .i64 keep] 78) = W) := eW.symm
  clear eW
  have hsz := hbA.size
  have ho := h.log.ok
  have hle := h.le
  have d0 := h.c0
  have hfin : ∀ {w' : World} {l' : List (List (List Op5))} {k' m' : Nat}, StAt (fun b => P b ∨ W.heap.size ≤ b) w' S l' k' m' → Grew P W w' → StAt (fun b => P b ∨ w.heap.size ≤ b) w' S l' k' m' ∧ Grew P w w' := fun h1 h2 =>
    ⟨h1.mono fun b _ hb => hb.imp id fun hb => by omega, (Grew.of_below hbA).trans h2⟩
  have HF : Hid (∀ {w' : World} {l' : List (List (List Op5))} {k' m' : Nat}, StAt (fun b => P b ∨ W.heap.size ≤ b) w' S l' k' m' → Grew P W w' → StAt (fun b => P b ∨ w.heap.size ≤ b) w' S l' k' m' ∧ Grew P w w') := hfin
  clear hfin hbA
  by_cases hk1 : kd = 1
  · subst hk1
    have hput := logPut_any (h.log.later (Below.refl _ _).drew) (hr.later (Below.refl _ _).drew) fr nr (hL.later (Below.refl _ _).drew)
    have HK : Hid (∀ e w2, PutOut (fun b => (P b ∧ b ≠ S ∧ vl.ownBlock ≠ some b) ∨ W.drew.heap.size ≤ b) w2 C e l k r → Grew (fun b => P b ∧ b ≠ S ∧ vl.ownBlock ≠ some b) W.drew w2 → ∃ a c : Int, e = .returned (.tuple #[.int .i64 a, .int .i64 c]) ∧ c = (stepQ l k m ⟨1, r, p, keep⟩).c ∧ StAt (fun b => P b ∨ w.heap.size ≤ b) w2 S (stepQ l k m ⟨1, r, p, keep⟩).l (stepQ l k m ⟨1, r, p, keep⟩).k (stepQ l k m ⟨1, r, p, keep⟩).m ∧ Grew P w w2) := fun e w2 hO2 hG2 => by
      have hG : Grew (fun b => P b ∧ b ≠ S ∧ vl.ownBlock ≠ some b) W w2 := (Grew.of_below (Below.refl _ _).drew).trans hG2
      have hGP : Grew P W w2 := hG.mono fun b hb => hb.1
      cases hok : okP l r with
      | true =>
        obtain ⟨rfl, h2⟩ := hO2.yes hok
        have hS := HF.out ⟨C, vl, h.logged hG h2 (alike_append (by have := ho.sure; omega)) hle⟩ hGP
        rw [show stepQ l k m ⟨1, r, p, keep⟩ = ⟨0, l ++ [r], k, m⟩ by simp [stepQ, hok]]
        exact ⟨_, _, rfl, rfl, hS⟩
      | false =>
        obtain ⟨rfl, h2⟩ := hO2.told hok
        have hS := HF.out ⟨C, vl, h.logged hG h2 (fun _ _ => rfl) hle⟩ hGP
        rw [show stepQ l k m ⟨1, r, p, keep⟩ = ⟨codeP r, l, k, m⟩ by simp [stepQ, hok]]
        exact ⟨_, _, rfl, rfl, hS⟩
    clear h
    go_enter Tryd.func36, Tryd.ntmps36
    go_wp2_with fail
    rw [HW.out]
    go_region_with (go_at_call 32; refine hput.mono ?_; rintro e w2 ⟨hO2, hG2⟩; obtain ⟨a2, c2, rfl, hc2, hS2⟩ := HK.out e w2 hO2 hG2; have HC2 : Hid (c2 = (stepQ l k m ⟨1, r, p, keep⟩).c) := hc2; clear hc2 hO2 hG2)
    all_goals go_wp2_with fail
    all_goals go_ret
    all_goals exact ⟨by rw [← HC2.out]; rfl, hS2⟩
  · have t1 : (kd == 1) = false := by simp [hk1]
    by_cases hk2 : kd = 2
    · subst hk2
      have hsy := logSync_any h.log
      have e1 : Hid (stepQ l k m ⟨2, r, p, keep⟩ = ⟨0, l, l.length, m⟩) := by show _ = _; simp [stepQ]
      go_enter Tryd.func36, Tryd.ntmps36
      go_wp2_with fail
      rw [HW.out]
      refine hsy.mono ?_
      rintro e w2 ⟨rfl, h2, hG2⟩
      have hS := HF.out ⟨C, vl, h.logged hG2 (h2.mono fun b _ hb => .inl hb) (fun _ _ => rfl) (by have := ho.sure; omega)⟩ (hG2.mono fun b hb => hb.1)
      clear hsy h h2 hG2 c0 d0 x0 x1 x2 x3
      go_wp2_with fail
      go_ret
      rw [e1.out]
      exact ⟨rfl, hS⟩
    · have t2 : (kd == 2) = false := by simp [hk2]
      by_cases hk3 : kd = 3
      · subst hk3
        have hnx := stNext_any ⟨C, vl, h⟩ hp hL
        have e1 : Hid (stepQ l k m ⟨3, r, p, keep⟩ = if k ≤ m then ⟨7, l, k, m⟩ else if 300 < p.length then ⟨4, l, k, m⟩ else ⟨0, l, k, m + 1⟩) := by show _ = _; simp [stepQ]
        go_enter Tryd.func36, Tryd.ntmps36
        go_wp2_with fail
        rw [HW.out]
        refine hnx.mono ?_
        rintro e w2 hO
        clear hnx x0 x1 x2 x3
        unfold nextOut at hO
        by_cases a1 : k ≤ m
        · rw [if_pos a1] at hO
          obtain ⟨rfl, hb⟩ := hO
          have hS := HF.out ⟨C, vl, (h.later hb).mono fun b _ hb => .inl hb⟩ (Grew.of_below hb)
          go_wp2_with fail
          go_ret
          rw [e1.out, if_pos a1]
          exact ⟨rfl, hS⟩
        · by_cases a2 : 300 < p.length
          · rw [if_neg a1, if_pos a2] at hO
            obtain ⟨rfl, hb⟩ := hO
            have hS := HF.out ⟨C, vl, (h.later hb).mono fun b _ hb => .inl hb⟩ (Grew.of_below hb)
            go_wp2_with fail
            go_ret
            rw [e1.out, if_neg a1, if_pos a2]
            exact ⟨rfl, hS⟩
          · rw [if_neg a1, if_neg a2] at hO
            obtain ⟨rfl, h2, hG⟩ := hO
            have hS := HF.out h2 hG
            go_wp2_with fail
            go_ret
            rw [e1.out, if_neg a1, if_neg a2]
            exact ⟨rfl, hS⟩
      · have t3 : (kd == 3) = false := by simp [hk3]
        by_cases hk4 : kd = 4
        · subst hk4
          have hcr := stCrash_any ⟨C, vl, h⟩ keep hL h0
          have e1 : Hid (stepQ l k m ⟨4, r, p, keep⟩ = ⟨0, l.take (wholeF l k (max keep 0)), wholeF l k (max keep 0), wholeF l k (max keep 0)⟩) := by show _ = _; simp [stepQ]
          generalize wholeF l k (max keep 0) = n at *
          go_enter Tryd.func36, Tryd.ntmps36
          go_wp2_with fail
          rw [HW.out]
          refine hcr.mono ?_
          rintro e w2 ⟨rfl, h2, hG⟩
          have hS := HF.out h2 hG
          clear hcr h h2 hG x0 x1 x2 x3
          go_wp2_with fail
          go_ret
          rw [e1.out]
          exact ⟨rfl, hS⟩
        · have t4 : (kd == 4) = false := by simp [hk4]
          have hS := HF.out ⟨C, vl, h.mono fun b _ hb => .inl hb⟩ (Grew.refl _ _)
          have e1 : Hid (stepQ l k m ⟨kd, r, p, keep⟩ = ⟨2, l, k, m⟩) := by show _ = _; simp [stepQ, hk1, hk2, hk3, hk4]
          clear h
          go_enter Tryd.func36, Tryd.ntmps36
          go_wp2_with fail
          rw [HW.out]
          go_ret
          rw [e1.out]
          exact ⟨rfl, hS⟩
end
end Go.Proofs.YtihfjmdjjeciiacDoor
