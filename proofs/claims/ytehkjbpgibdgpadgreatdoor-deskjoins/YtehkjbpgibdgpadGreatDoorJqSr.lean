/-
  The walk of a store's Crash. The walk of a store's Do. The walk of serial.All at a round that may be done. The walk of a store's Then.
-/
import Derived.Test.YtehkjbpgibdgpadGreatDoorStqBJ
import Derived.Test.YtehkjbpgibdgpadGreatDoorJqRn
import Derived.Test.YtehkjbpgibdgpadGreatDoorJqSe
import Derived.Laws.OwnMore
import Derived.Laws.MakeOwn
import Derived.Test.YtehkjbpgibdgpadGreatDoorJqSq
namespace Go.Proofs.YtehkjbpgibdgpadGreatDoor
open Go.RowKit Go.Shelf

theorem grew_more {P : Nat → Prop} {w a c : World} (h : Grew P w a) (k : Grew (fun b => P b ∨ w.heap.size ≤ b) a c) : Grew P w c :=
  ⟨k.os.trans h.os, k.tape.trans h.tape, k.output.trans h.output, Nat.le_trans h.size k.size, fun i hi hn => (k.block i (Nat.lt_of_lt_of_le hi h.size) (fun e => e.elim hn (fun e => by omega))).trans (h.block i hi hn)⟩
theorem Lim.grew {P : Nat → Prop} {w w' : World} (h : Lim w) (hg : Grew P w w') (h0 : ¬ P 4) : Lim w' := fun k j hk hj => hg.cell (h k j hk hj) h0
theorem nums_nil (w : World) : NumsAt w (.slice none 0 0) [] := ⟨none, 0, rfl, fun i hi => by simp at hi⟩

section
variable {P : Nat → Prop} {w : World} {S : Nat} {l : List (List (List Op5))} {k m : Nat}

set_option maxRecDepth 100000 in
set_option maxHeartbeats 2000000 in
theorem stCrash_any (h : StAt P w S l k m) (keep : Int) (hL : Lim w) (h0 : ¬ P 4) :
    Calls Tryz.prog 114 #[.pointer (some ⟨S, 0, none⟩), .int .i64 keep] w fun e w' => e = .returned (.tuple #[]) ∧ StAt (fun b => P b ∨ w.heap.size ≤ b) w' S (l.take (wholeF l k (max keep 0))) (wholeF l k (max keep 0)) (wholeF l k (max keep 0)) ∧ Grew P w w' := by
  have HL : Hid (∀ w', Grew P w w' → Lim w') := fun w' hg => hL.grew hg h0
  clear h0
  have ho := h.ok
  have hw := whole_ge (l := l) (k := k) (m := max keep 0) ho.sure (by omega)
  have hwl := whole_le l k (max keep 0)
  obtain ⟨C, vl, h⟩ := h
  have hcr := logCrash_any h.log keep
  have c0 := h.c0
  have hm := h.le
  generalize wholeF l k (max keep 0) = n at *
  go_enter Tryz.func114, Tryz.ntmps114
  go_wp2_with fail
  refine hcr.mono ?_
  rintro e w1 ⟨rfl, h1, hG1⟩
  clear hcr c0
  have r1 := h.logged (l' := l.take n) (k' := n) hG1 (h1.mono fun b _ hb => .inl hb) (alike_take (by omega)) (by omega)
  have hGP : Grew P w w1 := hG1.mono fun b hb => hb.1
  have HR : Hid (StRaw (fun b => P b ∨ w.heap.size ≤ b) w1 S C (l.take n) n m vl) := r1
  have hz1 := hG1.size
  have hd := r1.done (m' := 0) (vn := .slice none 0 0) (Below.refl _ _) r1.log ⟨none, 0, rfl, Nat.le_refl _, fun h => absurd h (by simp [lastR])⟩ (fun b e => by cases e) (Nat.zero_le _)
  have HD : Hid (StAt (fun b => P b ∨ w.heap.size ≤ b) ((((((((((((w1.setCell ⟨S, 1, none⟩ (.int .i64 0)).setCell ⟨S, 2, none⟩ (.int .i64 0)).setCell ⟨S, 3, none⟩ (.int .i64 0)).setCell ⟨S, 4, none⟩ (.int .i64 0)).setCell ⟨S, 5, none⟩ (.int .i64 0)).setCell ⟨S, 6, none⟩ (.int .i64 0)).setCell ⟨S, 7, none⟩ (.int .i64 0)).setCell ⟨S, 8, none⟩ (.int .i64 0)).setCell ⟨S, 9, none⟩ (.int .i64 0)).setCell ⟨S, 10, none⟩ (.int .i64 0)).setCell ⟨S, 11, none⟩ (.int .i64 0)).setCell ⟨S, 12, none⟩ (.slice none 0 0)) S (l.take n) n 0) :=
    StAt.mono ⟨C, _, hd⟩ fun b _ hb => hb.elim id fun hb => .inr (by omega)
  have hGT : Grew P w ((((((((((((w1.setCell ⟨S, 1, none⟩ (.int .i64 0)).setCell ⟨S, 2, none⟩ (.int .i64 0)).setCell ⟨S, 3, none⟩ (.int .i64 0)).setCell ⟨S, 4, none⟩ (.int .i64 0)).setCell ⟨S, 5, none⟩ (.int .i64 0)).setCell ⟨S, 6, none⟩ (.int .i64 0)).setCell ⟨S, 7, none⟩ (.int .i64 0)).setCell ⟨S, 8, none⟩ (.int .i64 0)).setCell ⟨S, 9, none⟩ (.int .i64 0)).setCell ⟨S, 10, none⟩ (.int .i64 0)).setCell ⟨S, 11, none⟩ (.int .i64 0)).setCell ⟨S, 12, none⟩ (.slice none 0 0)) := grew_twelve hGP h.pS _ _ _ _ _ _ _ _ _ _ _ _
  clear hd
  have c1 := r1.c1
  obtain ⟨z0, z1, z2, z3, z4, z5, z6, z7, z8, z9⟩ := r1.ten
  have c12 := r1.c12
  have fr := r1.fr
  clear h r1 h1 hG1 HR hGP
  go_wp2_with fail
  obtain ⟨W, eW⟩ : ∃ W, W = ((((((((((((w1.setCell ⟨S, 1, none⟩ (.int .i64 0)).setCell ⟨S, 2, none⟩ (.int .i64 0)).setCell ⟨S, 3, none⟩ (.int .i64 0)).setCell ⟨S, 4, none⟩ (.int .i64 0)).setCell ⟨S, 5, none⟩ (.int .i64 0)).setCell ⟨S, 6, none⟩ (.int .i64 0)).setCell ⟨S, 7, none⟩ (.int .i64 0)).setCell ⟨S, 8, none⟩ (.int .i64 0)).setCell ⟨S, 9, none⟩ (.int .i64 0)).setCell ⟨S, 10, none⟩ (.int .i64 0)).setCell ⟨S, 11, none⟩ (.int .i64 0)).setCell ⟨S, 12, none⟩ (.slice none 0 0)) := ⟨_, rfl⟩
  have h0 : StAt (fun b => P b ∨ w.heap.size ≤ b) W S (l.take n) n 0 := by rw [eW]; exact HD.out
  rw [← eW] at hGT ⊢
  clear HD eW c1 z0 z1 z2 z3 z4 z5 z6 z7 z8 z9 c12 fr
  go_loopg [22] n (fun g x wr => ∃ j : Nat, j ≤ n ∧ g = n - j ∧ StAt (fun b => P b ∨ w.heap.size ≤ b) wr S (l.take n) n j ∧ Grew P w wr)
  case atStart => exact ⟨0, by omega, by omega, h0, hGT⟩
  case round =>
    clear h0 hGT
    obtain ⟨j, hj, hg, h2, hG2⟩ := hrel
    have hz2 := hG2.size
    by_cases hlt : j < n
    · have hnx := stNext_good h2 hlt (nums_nil wr) (by simp) (HL.out _ hG2)
      go_wp2_with fail
      refine hnx.mono ?_
      clear hnx
      rintro e w3 ⟨rfl, h3, hG3⟩
      clear h2
      have h3' : StAt (fun b => P b ∨ w.heap.size ≤ b) w3 S (l.take n) n (j + 1) := h3.mono fun b _ hb => hb.elim id fun hb => .inr (by omega)
      have hG3' : Grew P w w3 := grew_more hG2 hG3
      clear h3 hG3 hG2
      go_wp2_with fail
      go_roundg (n - (j + 1))
      case measure => omega
      case rel => exact ⟨j + 1, by omega, rfl, h3', hG3'⟩
    · obtain rfl : j = n := by omega
      have hnx := stNext_none (a := none) (n := 0) (cap := 0) h2 (Nat.le_refl _)
      go_wp2_with fail
      refine hnx.mono ?_
      clear hnx
      rintro e w3 ⟨rfl, hb3⟩
      have h3 := h2.later hb3
      have hG3 := hG2.trans (Grew.of_below hb3)
      clear h2 hG2 hb3
      go_wp2_with fail
      go_end0
      exact ⟨rfl, h3, hG3⟩
end
end Go.Proofs.YtehkjbpgibdgpadGreatDoor
namespace Go.Proofs.YtehkjbpgibdgpadGreatDoor
open Go.RowKit Go.Shelf

section
variable {P : Nat → Prop} {w : World} {S : Nat} {l : List (List (List Op5))} {k m : Nat}

set_option maxRecDepth 100000 in
set_option maxHeartbeats 2000000 in
theorem stDo_any {rv pv : Value} {x : QStep} (h : StAt P w S l k m) (hr : RoundAt w rv x.r) (fr : Fits x.r) (nr : R64 x.r) (hp : NumsAt w pv x.p) (hL : Lim w) (h0 : ¬ P 4) :
    Calls Tryz.prog 81 #[.pointer (some ⟨S, 0, none⟩), .agg #[.int .i64 x.k, rv, pv, .int .i64 x.keep]] w fun e w' => e = .returned (.int .i64 (stepQ l k m x).c) ∧ StAt (fun b => P b ∨ w.heap.size ≤ b) w' S (stepQ l k m x).l (stepQ l k m x).k (stepQ l k m x).m ∧ Grew P w w' := by
  obtain ⟨kd, r, p, keep⟩ := x
  dsimp only at *
  obtain ⟨ra, rcap, rfl, -⟩ := id hr
  obtain ⟨pa, pcap, rfl, -⟩ := id hp
  have hbA : Below w.heap.size w (w.alloc (.cells #[.int .i64 kd, .slice ra r.length rcap, .slice pa p.length pcap, .int .i64 keep] 96)) := (Below.refl _ _).alloc (Nat.le_refl _) _
  have x0 : (w.alloc (.cells #[.int .i64 kd, .slice ra r.length rcap, .slice pa p.length pcap, .int .i64 keep] 96)).cell? ⟨w.heap.size, 0, none⟩ = some (.int .i64 kd) := by go_simp
  have x1 : (w.alloc (.cells #[.int .i64 kd, .slice ra r.length rcap, .slice pa p.length pcap, .int .i64 keep] 96)).cell? ⟨w.heap.size, 1, none⟩ = some (.slice ra r.length rcap) := by go_simp
  have x2 : (w.alloc (.cells #[.int .i64 kd, .slice ra r.length rcap, .slice pa p.length pcap, .int .i64 keep] 96)).cell? ⟨w.heap.size, 2, none⟩ = some (.slice pa p.length pcap) := by go_simp
  have x3 : (w.alloc (.cells #[.int .i64 kd, .slice ra r.length rcap, .slice pa p.length pcap, .int .i64 keep] 96)).cell? ⟨w.heap.size, 3, none⟩ = some (.int .i64 keep) := by go_simp
  obtain ⟨C, vl, h⟩ := h
  have hlt := h.lt
  have c0 := h.c0
  replace h := h.later hbA
  replace hr := hr.later hbA
  replace hp := hp.later hbA
  replace hL := hL.later hbA
  obtain ⟨W, eW⟩ : ∃ W, W = w.alloc (.cells #[.int .i64 kd, .slice ra r.length rcap, .slice pa p.length pcap, .int .i64 keep] 96) := ⟨_, rfl⟩
  rw [← eW] at h hr hp hL x0 x1 x2 x3 hbA
  have HW : Hid (w.alloc (.cells #[.int .i64 kd, .slice ra r.length rcap, .slice pa p.length pcap, .int .i64 keep] 96) = W) := eW.symm
  clear eW
  have hsz := hbA.size
  have ho := h.log.ok
  have hle := h.le
  have d0 := h.c0
  have hfin : ∀ {w' : World} {l' : List (List (List Op5))} {k' m' : Nat}, StAt (fun b => P b ∨ W.heap.size ≤ b) w' S l' k' m' → Grew P W w' → StAt (fun b => P b ∨ w.heap.size ≤ b) w' S l' k' m' ∧ Grew P w w' := fun h1 h2 =>
    ⟨h1.mono fun b _ hb => hb.imp id fun hb => by omega, (Grew.of_below hbA).trans h2⟩
  have HF : Hid (∀ {w' : World} {l' : List (List (List Op5))} {k' m' : Nat}, StAt (fun b => P b ∨ W.heap.size ≤ b) w' S l' k' m' → Grew P W w' → StAt (fun b => P b ∨ w.heap.size ≤ b) w' S l' k' m' ∧ Grew P w w') := hfin
  clear hfin hbA
  by_cases hk1 : kd = 1
  · subst hk1
    have hput := logPut_any (h.log.later (Below.refl _ _).drew) (hr.later (Below.refl _ _).drew) fr nr (hL.later (Below.refl _ _).drew)
    have HK : Hid (∀ e w2, PutOut (fun b => (P b ∧ b ≠ S ∧ vl.ownBlock ≠ some b) ∨ W.drew.heap.size ≤ b) w2 C e l k r → Grew (fun b => P b ∧ b ≠ S ∧ vl.ownBlock ≠ some b) W.drew w2 → ∃ a c : Int, e = .returned (.tuple #[.int .i64 a, .int .i64 c]) ∧ c = (stepQ l k m ⟨1, r, p, keep⟩).c ∧ StAt (fun b => P b ∨ w.heap.size ≤ b) w2 S (stepQ l k m ⟨1, r, p, keep⟩).l (stepQ l k m ⟨1, r, p, keep⟩).k (stepQ l k m ⟨1, r, p, keep⟩).m ∧ Grew P w w2) := fun e w2 hO2 hG2 => by
      have hG : Grew (fun b => P b ∧ b ≠ S ∧ vl.ownBlock ≠ some b) W w2 := (Grew.of_below (Below.refl _ _).drew).trans hG2
      have hGP : Grew P W w2 := hG.mono fun b hb => hb.1
      cases hok : okP l r with
      | true =>
        obtain ⟨rfl, h2⟩ := hO2.yes hok
        have hS := HF.out ⟨C, vl, h.logged hG h2 (alike_append (by have := ho.sure; omega)) hle⟩ hGP
        rw [show stepQ l k m ⟨1, r, p, keep⟩ = ⟨0, l ++ [r], k, m⟩ by simp [stepQ, hok]]
        exact ⟨_, _, rfl, rfl, hS⟩
      | false =>
        obtain ⟨rfl, h2⟩ := hO2.told hok
        have hS := HF.out ⟨C, vl, h.logged hG h2 (fun _ _ => rfl) hle⟩ hGP
        rw [show stepQ l k m ⟨1, r, p, keep⟩ = ⟨codeP r, l, k, m⟩ by simp [stepQ, hok]]
        exact ⟨_, _, rfl, rfl, hS⟩
    clear h
    go_enter Tryz.func81, Tryz.ntmps81
    go_wp2_with fail
    rw [HW.out]
    go_region_with (go_at_call 111; refine hput.mono ?_; rintro e w2 ⟨hO2, hG2⟩; obtain ⟨a2, c2, rfl, hc2, hS2⟩ := HK.out e w2 hO2 hG2; have HC2 : Hid (c2 = (stepQ l k m ⟨1, r, p, keep⟩).c) := hc2; clear hc2 hO2 hG2)
    all_goals go_wp2_with fail
    all_goals go_ret
    all_goals exact ⟨by rw [← HC2.out]; rfl, hS2⟩
  · have t1 : (kd == 1) = false := by simp [hk1]
    by_cases hk2 : kd = 2
    · subst hk2
      have hsy := logSync_any h.log
      have e1 : Hid (stepQ l k m ⟨2, r, p, keep⟩ = ⟨0, l, l.length, m⟩) := by show _ = _; simp [stepQ]
      go_enter Tryz.func81, Tryz.ntmps81
      go_wp2_with fail
      rw [HW.out]
      refine hsy.mono ?_
      rintro e w2 ⟨rfl, h2, hG2⟩
      have hS := HF.out ⟨C, vl, h.logged hG2 (h2.mono fun b _ hb => .inl hb) (fun _ _ => rfl) (by have := ho.sure; omega)⟩ (hG2.mono fun b hb => hb.1)
      clear hsy h h2 hG2 c0 d0 x0 x1 x2 x3
      go_wp2_with fail
      go_ret
      rw [e1.out]
      exact ⟨rfl, hS⟩
    · have t2 : (kd == 2) = false := by simp [hk2]
      by_cases hk3 : kd = 3
      · subst hk3
        have hnx := stNext_any ⟨C, vl, h⟩ hp hL
        have e1 : Hid (stepQ l k m ⟨3, r, p, keep⟩ = if k ≤ m then ⟨7, l, k, m⟩ else if 300 < p.length then ⟨4, l, k, m⟩ else ⟨0, l, k, m + 1⟩) := by show _ = _; simp [stepQ]
        go_enter Tryz.func81, Tryz.ntmps81
        go_wp2_with fail
        rw [HW.out]
        refine hnx.mono ?_
        rintro e w2 hO
        clear hnx x0 x1 x2 x3
        unfold nextOut at hO
        by_cases a1 : k ≤ m
        · rw [if_pos a1] at hO
          obtain ⟨rfl, hb⟩ := hO
          have hS := HF.out ⟨C, vl, (h.later hb).mono fun b _ hb => .inl hb⟩ (Grew.of_below hb)
          go_wp2_with fail
          go_ret
          rw [e1.out, if_pos a1]
          exact ⟨rfl, hS⟩
        · by_cases a2 : 300 < p.length
          · rw [if_neg a1, if_pos a2] at hO
            obtain ⟨rfl, hb⟩ := hO
            have hS := HF.out ⟨C, vl, (h.later hb).mono fun b _ hb => .inl hb⟩ (Grew.of_below hb)
            go_wp2_with fail
            go_ret
            rw [e1.out, if_neg a1, if_pos a2]
            exact ⟨rfl, hS⟩
          · rw [if_neg a1, if_neg a2] at hO
            obtain ⟨rfl, h2, hG⟩ := hO
            have hS := HF.out h2 hG
            go_wp2_with fail
            go_ret
            rw [e1.out, if_neg a1, if_neg a2]
            exact ⟨rfl, hS⟩
      · have t3 : (kd == 3) = false := by simp [hk3]
        by_cases hk4 : kd = 4
        · subst hk4
          have hcr := stCrash_any ⟨C, vl, h⟩ keep hL h0
          have e1 : Hid (stepQ l k m ⟨4, r, p, keep⟩ = ⟨0, l.take (wholeF l k (max keep 0)), wholeF l k (max keep 0), wholeF l k (max keep 0)⟩) := by show _ = _; simp [stepQ]
          generalize wholeF l k (max keep 0) = n at *
          go_enter Tryz.func81, Tryz.ntmps81
          go_wp2_with fail
          rw [HW.out]
          refine hcr.mono ?_
          rintro e w2 ⟨rfl, h2, hG⟩
          have hS := HF.out h2 hG
          clear hcr h h2 hG x0 x1 x2 x3
          go_wp2_with fail
          go_ret
          rw [e1.out]
          exact ⟨rfl, hS⟩
        · have t4 : (kd == 4) = false := by simp [hk4]
          have hS := HF.out ⟨C, vl, h.mono fun b _ hb => .inl hb⟩ (Grew.refl _ _)
          have e1 : Hid (stepQ l k m ⟨kd, r, p, keep⟩ = ⟨2, l, k, m⟩) := by show _ = _; simp [stepQ, hk1, hk2, hk3, hk4]
          clear h
          go_enter Tryz.func81, Tryz.ntmps81
          go_wp2_with fail
          rw [HW.out]
          go_ret
          rw [e1.out]
          exact ⟨rfl, hS⟩
end
end Go.Proofs.YtehkjbpgibdgpadGreatDoor
namespace Go.Proofs.YtehkjbpgibdgpadGreatDoor
open Go.RowKit

/-- The variables of All: the state, the state that it will answer, the results. -/
structure SalAt (w : World) (B G n : Nat) (x : Nat → Int) : Prop where
  box : Box w B x
  free0 : ∀ o, w.frozen? ⟨B, o, none⟩ = false
  one : Box w (B + 1) (fun _ => 0)
  free1 : ∀ o, w.frozen? ⟨B + 1, o, none⟩ = false
  row : ∃ xs, w.ownsRow (B + 2) 102 5 (.slice (some ⟨G, 0, none⟩) n n) n xs

theorem box_lt {w : World} {B : Nat} {s : Nat → Int} (h : Box w B s) : B < w.heap.size := World.block_lt_of_cell? w _ (h 0 (by omega))
theorem SalAt.later {w w' : World} {B G n : Nat} {x : Nat → Int} (h : SalAt w B G n x) (hb : Below w.heap.size w w') : SalAt w' B G n x := by
  obtain ⟨xs, hr⟩ := h.row
  exact ⟨h.box.later hb, fun o => by rw [hb.frozen (p := ⟨B, o, none⟩) (box_lt h.box)]; exact h.free0 o, h.one.later hb, fun o => by rw [hb.frozen (p := ⟨B + 1, o, none⟩) (box_lt h.one)]; exact h.free1 o, xs, owns_below hr hb⟩
/-- A key of the state is set. -/
theorem SalAt.setKey {w : World} {B G n : Nat} {x : Nat → Int} (h : SalAt w B G n x) (_hG : B + 2 ≤ G) {m : Nat} (hm : m < 10) (y : Int) : SalAt (w.setCell ⟨B, m, none⟩ (.int .i64 y)) B G n (putAt x m y) := by
  obtain ⟨xs, hr⟩ := h.row
  exact ⟨h.box.set hm y, fun o => by rw [World.frozen?_setCell]; exact h.free0 o, h.one.apart (by omega) _ _, fun o => by rw [World.frozen?_setCell]; exact h.free1 o, xs, ownsRow_setCell_below hr (a := ⟨B, m, none⟩) (by simp) _⟩
/-- A cell of the results is set. -/
theorem SalAt.setRow {w : World} {B G n : Nat} {x : Nat → Int} (h : SalAt w B G n x) (hG : B + 2 ≤ G) (j : Nat) (v : Value) : SalAt (w.setCell ⟨G, j, none⟩ v) B G n x := by
  obtain ⟨xs, hr⟩ := h.row
  exact ⟨h.box.apart (by omega) _ _, fun o => by rw [World.frozen?_setCell]; exact h.free0 o, h.one.apart (by omega) _ _, fun o => by rw [World.frozen?_setCell]; exact h.free1 o, _, (hr.stored j v).1⟩
theorem SalAt.round {w : World} {B G n : Nat} {x : Nat → Int} (h : SalAt w B G n x) (hG : B + 2 ≤ G) (y : Nat → Int) (j : Nat) (v0 v1 v2 v3 v4 : Value) :
    SalAt (((((((((((((((w.setCell ⟨B, 0, none⟩ (.int .i64 (y 0))).setCell ⟨B, 1, none⟩ (.int .i64 (y 1))).setCell ⟨B, 2, none⟩ (.int .i64 (y 2))).setCell ⟨B, 3, none⟩ (.int .i64 (y 3))).setCell ⟨B, 4, none⟩ (.int .i64 (y 4))).setCell ⟨B, 5, none⟩ (.int .i64 (y 5))).setCell ⟨B, 6, none⟩ (.int .i64 (y 6))).setCell ⟨B, 7, none⟩ (.int .i64 (y 7))).setCell ⟨B, 8, none⟩ (.int .i64 (y 8))).setCell ⟨B, 9, none⟩ (.int .i64 (y 9))).setCell ⟨G, j * 5, none⟩ v0).setCell ⟨G, j * 5 + 1, none⟩ v1).setCell ⟨G, j * 5 + 2, none⟩ v2).setCell ⟨G, j * 5 + 3, none⟩ v3).setCell ⟨G, j * 5 + 4, none⟩ v4) B G n y := by
  have h1 := ((((((((((h.setKey hG (m := 0) (by omega) (y 0)).setKey hG (m := 1) (by omega) (y 1)).setKey hG (m := 2) (by omega) (y 2)).setKey hG (m := 3) (by omega) (y 3)).setKey hG (m := 4) (by omega) (y 4)).setKey hG (m := 5) (by omega) (y 5)).setKey hG (m := 6) (by omega) (y 6)).setKey hG (m := 7) (by omega) (y 7)).setKey hG (m := 8) (by omega) (y 8)).setKey hG (m := 9) (by omega) (y 9))
  have h2 := ((((h1.setRow hG (j * 5) v0).setRow hG (j * 5 + 1) v1).setRow hG (j * 5 + 2) v2).setRow hG (j * 5 + 3) v3).setRow hG (j * 5 + 4) v4
  exact ⟨h2.box.congr (lt10 rfl rfl rfl rfl rfl rfl rfl rfl rfl rfl), h2.free0, h2.one, h2.free1, h2.row⟩
theorem below_sal {B : Nat} {w W : World} (h : Below B w W) {b c : Nat} (h1 : B ≤ b) (h2 : B ≤ c) (j : Nat) (x0 x1 x2 x3 x4 x5 x6 x7 x8 x9 y0 y1 y2 y3 y4 : Value) : Below B w (((((((((((((((W.setCell ⟨b, 0, none⟩ x0).setCell ⟨b, 1, none⟩ x1).setCell ⟨b, 2, none⟩ x2).setCell ⟨b, 3, none⟩ x3).setCell ⟨b, 4, none⟩ x4).setCell ⟨b, 5, none⟩ x5).setCell ⟨b, 6, none⟩ x6).setCell ⟨b, 7, none⟩ x7).setCell ⟨b, 8, none⟩ x8).setCell ⟨b, 9, none⟩ x9).setCell ⟨c, j * 5, none⟩ y0).setCell ⟨c, j * 5 + 1, none⟩ y1).setCell ⟨c, j * 5 + 2, none⟩ y2).setCell ⟨c, j * 5 + 3, none⟩ y3).setCell ⟨c, j * 5 + 4, none⟩ y4) :=
  ((((((below_ten h h1 x0 x1 x2 x3 x4 x5 x6 x7 x8 x9).setCell (p := ⟨c, j * 5, none⟩) h2 y0).setCell (p := ⟨c, j * 5 + 1, none⟩) h2 y1).setCell (p := ⟨c, j * 5 + 2, none⟩) h2 y2).setCell (p := ⟨c, j * 5 + 3, none⟩) h2 y3).setCell (p := ⟨c, j * 5 + 4, none⟩) h2 y4)
theorem round_deed {w : World} {a : Option Addr} {cap : Nat} {r : List (List Op5)} (h : RoundAt w (.slice a r.length cap) r) {i : Nat} (hi : i < r.length) : ∃ b off, a = some ⟨b, off, none⟩ ∧ ∃ dv, w.cell? ⟨b, off + i, none⟩ = some dv ∧ DeedAt w dv r[i] := by
  obtain ⟨a', cap', e, h⟩ := h
  simp only [Value.slice.injEq, true_and] at e
  obtain ⟨rfl, rfl⟩ := e
  exact h i hi

set_option maxRecDepth 100000 in
set_option maxHeartbeats 2000000 in
theorem sal_good (v : Value) (r : List (List Op5)) (s : Nat → Int) (w : World) (hr : RoundAt w v r) (hf : Fits r) (h0 : roundF r = 0) (hL : Lim w) :
    Calls Tryz.prog 85 #[stV s, v] w fun e w' => (∃ G, e = .returned (.tuple #[stV (allSt s r), .slice (some ⟨G, 0, none⟩) r.length r.length, .int .i64 0])) ∧ Below w.heap.size w w' := by
  obtain ⟨h8, hck⟩ := roundF_zero.1 h0
  have H0 : Hid (roundF r = 0) := h0
  have HC : Hid (∀ j (h : j < r.length), (checkF r[j]).1 = 0) := fun j h => hck _ (List.getElem_mem h)
  clear h0 hck
  have HR := hr
  obtain ⟨a, cap, rfl, -⟩ := hr
  obtain ⟨cs, hcs, hmk⟩ := make_res r.length h8
  obtain ⟨W0, e0, hB0, hsz, hX0, hY0, hf1⟩ := run_open w s
  have hf0 : ∀ o, W0.frozen? ⟨w.heap.size, o, none⟩ = false := fun o => by rw [e0]; go_simp
  show Calls Tryz.prog 85 #[.agg #[.int .i64 (s 0), .int .i64 (s 1), .int .i64 (s 2), .int .i64 (s 3), .int .i64 (s 4), .int .i64 (s 5), .int .i64 (s 6), .int .i64 (s 7), .int .i64 (s 8), .int .i64 (s 9)], _] w _
  go_enter Tryz.func85, Tryz.ntmps85
  go_wp2_with fail
  rw [← e0]
  clear e0
  refine (round_any _ r _ (HR.later hB0) hf (hL.later hB0)).mono ?_
  rintro e w1 ⟨rfl, hb1⟩
  rw [H0.out]
  have hA1 : SalAt (w1.alloc (.cells cs 102)) w.heap.size w1.heap.size r.length s := by
    have hb1' : Below W0.heap.size W0 (w1.alloc (.cells cs 102)) := hb1.alloc hb1.size _
    exact ⟨hX0.later hb1', fun o => by rw [hb1'.frozen (p := ⟨w.heap.size, o, none⟩) (box_lt hX0)]; exact hf0 o, hY0.later hb1', fun o => by rw [hb1'.frozen (p := ⟨w.heap.size + 1, o, none⟩) (box_lt hY0)]; exact hf1 o,
      _, World.ownsRow_lit w1 cs r.length (by have := hb1.size; omega) (by unfold maxLen; omega) hcs⟩
  have hB1 : Below w.heap.size w (w1.alloc (.cells cs 102)) := (hB0.trans (hb1.mono (by omega))).alloc (by have := hb1.size; omega) _
  have hG : w.heap.size + 2 ≤ w1.heap.size := by have := hb1.size; omega
  clear hb1 hX0 hY0 hf0 hf1 hB0
  go_wp2_with fail
  go_loopg [22] r.length (fun g i wr => ∃ j : Nat, ∃ x : Nat → Int, j ≤ r.length ∧ g = r.length - j ∧ i = .int .i64 j ∧ SalAt wr w.heap.size w1.heap.size r.length x ∧ Hid (x = allSt s (r.take j)) ∧ Below w.heap.size w wr)
  case atStart => exact ⟨0, s, by omega, by omega, rfl, hA1, rfl, hB1⟩
  case round =>
    clear hA1 hB1
    obtain ⟨j, x, hj, hg, rfl, hA, hx, hB⟩ := hrel
    by_cases hlt : j < r.length
    · obtain ⟨b, off, rfl, dv, cd, hD⟩ := round_deed HR hlt
      replace cd := cell_later hB cd
      have hD' := hD.later hB
      have hck := HC.out j hlt
      have hrun := run_any dv r[j] x wr hD' (check_len hck) (checkF_alone hck)
      obtain ⟨o, ho⟩ : ∃ o, o = doF x r[j] := ⟨_, rfl⟩
      rw [← ho] at hrun
      have hx' : Hid (o.st = allSt s (r.take (j + 1))) := by show _ = _; rw [allSt_take hlt, allOut_get hlt, ← hx.out, ho]
      obtain ⟨k0, k1, k2, k3, k4, k5, k6, k7, k8, k9⟩ := hA.box.ten
      clear ho hck hx
      go_wp2_with fail
      refine hrun.mono ?_
      rintro e w2 ⟨he, hb2⟩
      simp only [stV, resV] at he
      subst he
      have hA2 := hA.later hb2
      have hB2 : Below w.heap.size w w2 := hB.trans (hb2.mono hB.size)
      obtain ⟨xs, hrow⟩ := hA2.row
      have hxl := hrow.1
      have q0 := hrow.cellAt (j * 5) (by omega)
      have q1 := hrow.cellAt (j * 5 + 1) (by omega)
      have q2 := hrow.cellAt (j * 5 + 2) (by omega)
      have q3 := hrow.cellAt (j * 5 + 3) (by omega)
      have q4 := hrow.cellAt (j * 5 + 4) (by omega)
      rw [List.getElem?_eq_getElem (by omega)] at q0 q1 q2 q3 q4
      have u0 := hA2.free0
      have u1 := hrow.frozenAt
      have hn0 : ¬ w.heap.size = w1.heap.size := by omega
      have hn1 : ¬ w1.heap.size = w.heap.size := by omega
      clear k0 k1 k2 k3 k4 k5 k6 k7 k8 k9 cd hrun hb2
      obtain ⟨k0, k1, k2, k3, k4, k5, k6, k7, k8, k9⟩ := hA2.box.ten
      have hA3 := hA2.round hG o.st j (.int .i64 o.code) (.int .i64 (o.regs 0)) (.int .i64 (o.regs 1)) (.int .i64 (o.regs 2)) (.int .i64 (o.regs 3))
      have HA3 : Hid _ := hA3
      clear hA3 hA hrow
      go_wp2_with fail
      go_roundg (r.length - (j + 1))
      case measure => omega
      case rel => exact ⟨j + 1, o.st, by omega, rfl, by go_num, HA3.out, hx', below_sal hB2 (Nat.le_refl _) (by omega) j _ _ _ _ _ _ _ _ _ _ _ _ _ _ _⟩
    · obtain rfl : j = r.length := by omega
      have hx' : Hid (x = allSt s r) := by have := hx.out; rw [List.take_length] at this; exact this
      obtain ⟨k0, k1, k2, k3, k4, k5, k6, k7, k8, k9⟩ := hA.box.ten
      obtain ⟨y0, y1, y2, y3, y4, y5, y6, y7, y8, y9⟩ := hA.one.ten
      have u1 := hA.free1
      have hn0 : ¬ w.heap.size = w.heap.size + 1 := by omega
      have hBz : Below w.heap.size w wr := hB
      clear hx hA
      go_wp2_with fail
      exact bodyPost_ret (v := .tuple #[stV x, .slice (some ⟨w1.heap.size, 0, none⟩) r.length r.length, .int .i64 0]) (by simp [results, Tryz.results85, go_sem, stV, y0, y1, y2, y3, y4, y5, y6, y7, y8, y9]) rfl ⟨⟨w1.heap.size, by rw [hx'.out]⟩, below_ten hBz (b := w.heap.size + 1) (by omega) _ _ _ _ _ _ _ _ _ _⟩
end Go.Proofs.YtehkjbpgibdgpadGreatDoor
namespace Go.Proofs.YtehkjbpgibdgpadGreatDoor
open Go.RowKit Go.Shelf

theorem box_ten {w : World} {B : Nat} {x : Nat → Int} (h : Box w B x) (y : Nat → Int) : Box ((((((((((w.setCell ⟨B, 0, none⟩ (.int .i64 (y 0))).setCell ⟨B, 1, none⟩ (.int .i64 (y 1))).setCell ⟨B, 2, none⟩ (.int .i64 (y 2))).setCell ⟨B, 3, none⟩ (.int .i64 (y 3))).setCell ⟨B, 4, none⟩ (.int .i64 (y 4))).setCell ⟨B, 5, none⟩ (.int .i64 (y 5))).setCell ⟨B, 6, none⟩ (.int .i64 (y 6))).setCell ⟨B, 7, none⟩ (.int .i64 (y 7))).setCell ⟨B, 8, none⟩ (.int .i64 (y 8))).setCell ⟨B, 9, none⟩ (.int .i64 (y 9))) B y :=
  ((((((((((h.set (m := 0) (by omega) (y 0)).set (m := 1) (by omega) (y 1)).set (m := 2) (by omega) (y 2)).set (m := 3) (by omega) (y 3)).set (m := 4) (by omega) (y 4)).set (m := 5) (by omega) (y 5)).set (m := 6) (by omega) (y 6)).set (m := 7) (by omega) (y 7)).set (m := 8) (by omega) (y 8)).set (m := 9) (by omega) (y 9)).congr (lt10 rfl rfl rfl rfl rfl rfl rfl rfl rfl rfl)
theorem box_ten_apart {w : World} {B C : Nat} {x : Nat → Int} (h : Box w C x) (hne : B ≠ C) (v0 v1 v2 v3 v4 v5 v6 v7 v8 v9 : Value) : Box ((((((((((w.setCell ⟨B, 0, none⟩ v0).setCell ⟨B, 1, none⟩ v1).setCell ⟨B, 2, none⟩ v2).setCell ⟨B, 3, none⟩ v3).setCell ⟨B, 4, none⟩ v4).setCell ⟨B, 5, none⟩ v5).setCell ⟨B, 6, none⟩ v6).setCell ⟨B, 7, none⟩ v7).setCell ⟨B, 8, none⟩ v8).setCell ⟨B, 9, none⟩ v9) C x :=
  (((((((((h.apart hne _ _).apart hne _ _).apart hne _ _).apart hne _ _).apart hne _ _).apart hne _ _).apart hne _ _).apart hne _ _).apart hne _ _).apart hne _ _

/-- The first world of Then: the state that it will answer, the state that it goes on with. -/
theorem then_open (w : World) : ∃ W0, W0 = ((w.alloc (.cells #[.int .i64 0, .int .i64 0, .int .i64 0, .int .i64 0, .int .i64 0, .int .i64 0, .int .i64 0, .int .i64 0, .int .i64 0, .int .i64 0] 32)).alloc (.cells #[.int .i64 0, .int .i64 0, .int .i64 0, .int .i64 0, .int .i64 0, .int .i64 0, .int .i64 0, .int .i64 0, .int .i64 0, .int .i64 0] 32)) ∧ Below w.heap.size w W0 ∧ W0.heap.size = w.heap.size + 2 ∧ Box W0 w.heap.size (fun _ => 0) ∧ Box W0 (w.heap.size + 1) (fun _ => 0) ∧ (∀ o, W0.frozen? ⟨w.heap.size, o, none⟩ = false) ∧ (∀ o, W0.frozen? ⟨w.heap.size + 1, o, none⟩ = false) := by
  refine ⟨_, rfl, ((Below.refl _ _).alloc (Nat.le_refl _) _).alloc (by simp) _, by simp, ?_, ?_, fun o => by go_simp, fun o => by go_simp⟩
  · exact lt10 (by go_simp) (by go_simp) (by go_simp) (by go_simp) (by go_simp) (by go_simp) (by go_simp) (by go_simp) (by go_simp) (by go_simp)
  · exact lt10 (by go_simp) (by go_simp) (by go_simp) (by go_simp) (by go_simp) (by go_simp) (by go_simp) (by go_simp) (by go_simp) (by go_simp)

section
variable {P : Nat → Prop} {w : World} {S : Nat} {l : List (List (List Op5))} {k m : Nat}

/-- What Then goes on with. -/
structure ThenAt (w0 w : World) (R : Nat) (x : Nat → Int) : Prop where
  one : Box w R (fun _ => 0)
  two : Box w (R + 1) x
  f1 : ∀ o, w.frozen? ⟨R, o, none⟩ = false
  f2 : ∀ o, w.frozen? ⟨R + 1, o, none⟩ = false
  bel : Below R w0 w
theorem ThenAt.later {w0 w w' : World} {R : Nat} {x : Nat → Int} (h : ThenAt w0 w R x) (hR : R ≤ w.heap.size) (hb : Below w.heap.size w w') : ThenAt w0 w' R x :=
  ⟨h.one.later hb, h.two.later hb, fun o => by rw [hb.frozen (p := ⟨R, o, none⟩) (box_lt h.one)]; exact h.f1 o, fun o => by rw [hb.frozen (p := ⟨R + 1, o, none⟩) (box_lt h.two)]; exact h.f2 o, h.bel.trans (hb.mono hR)⟩
theorem ThenAt.next {w0 w : World} {R : Nat} {x : Nat → Int} (h : ThenAt w0 w R x) (y : Nat → Int) : ThenAt w0 ((((((((((w.setCell ⟨R + 1, 0, none⟩ (.int .i64 (y 0))).setCell ⟨R + 1, 1, none⟩ (.int .i64 (y 1))).setCell ⟨R + 1, 2, none⟩ (.int .i64 (y 2))).setCell ⟨R + 1, 3, none⟩ (.int .i64 (y 3))).setCell ⟨R + 1, 4, none⟩ (.int .i64 (y 4))).setCell ⟨R + 1, 5, none⟩ (.int .i64 (y 5))).setCell ⟨R + 1, 6, none⟩ (.int .i64 (y 6))).setCell ⟨R + 1, 7, none⟩ (.int .i64 (y 7))).setCell ⟨R + 1, 8, none⟩ (.int .i64 (y 8))).setCell ⟨R + 1, 9, none⟩ (.int .i64 (y 9))) R y :=
  ⟨box_ten_apart h.one (by omega) _ _ _ _ _ _ _ _ _ _, box_ten h.two y, fun o => by simp only [World.frozen?_setCell]; exact h.f1 o, fun o => by simp only [World.frozen?_setCell]; exact h.f2 o, below_ten h.bel (by omega) _ _ _ _ _ _ _ _ _ _⟩

set_option maxRecDepth 100000 in
set_option maxHeartbeats 2000000 in
theorem stThen_any (h : StAt P w S l k m) {n : Nat} (hn : n ≤ l.length) (hL : Lim w) :
    Calls Tryz.prog 61 #[.pointer (some ⟨S, 0, none⟩), .int .i64 (n : Int)] w fun e w' => e = .returned (.tuple #[stV (stN l n), .bool true]) ∧ Below w.heap.size w w' := by
  have ho := h.ok
  have hf := ho.few
  obtain ⟨C, vl, h⟩ := h
  have hlt := h.lt
  have hlen := fun (w' : World) (hb : Below w.heap.size w w') => logLen_any (h.log.later hb)
  have hrd := fun (w' : World) (hb : Below w.heap.size w w') (j : Nat) => logRound_any (h.log.later hb) (j : Int) (hL.later hb)
  have c0 := h.c0
  have t0 : ¬ (n : Int) < 0 := by omega
  have t1 : ¬ (l.length : Int) < (n : Int) := by omega
  have t2 : decide (l.length < n) = false := by simp; omega
  obtain ⟨W0, e0, hB0, hsz, hX0, hY0, hf0, hf1⟩ := then_open w
  have hT0 : ThenAt w W0 w.heap.size (fun _ => 0) := ⟨hX0, hY0, hf0, hf1, hB0⟩
  go_enter Tryz.func61, Tryz.ntmps61
  go_wp2_with fail
  refine (hlen _ ((Below.refl _ _).alloc (Nat.le_refl _) _)).mono ?_
  rintro e w1 ⟨rfl, rfl⟩
  clear hlen
  go_wp2_with fail
  rw [← e0]
  clear e0 hX0 hY0 hf0 hf1 hB0 h
  go_loopg [23] n (fun g i wr => ∃ j : Nat, j ≤ n ∧ g = n - j ∧ i = .int .i64 j ∧ ThenAt w wr w.heap.size (stN l j))
  case atStart => exact ⟨0, by omega, by omega, rfl, hT0⟩
  case round =>
    clear hT0
    obtain ⟨j, hj, hg, rfl, hT⟩ := hrel
    have hz : w.heap.size ≤ wr.heap.size := hT.bel.size
    by_cases hlt' : j < n
    · have hji : (j : Int) < (n : Int) := by omega
      replace c0 := cell_later hT.bel c0
      have hr := hrd _ hT.bel j
      clear hrd
      go_wp2_with fail
      refine hr.mono ?_
      clear hr
      rintro e w2 ⟨hO, hb2⟩
      obtain ⟨u, rfl, hu⟩ := hO.yes (show j < l.length by omega)
      have hgood := ho.good _ (List.getElem_mem (show j < l.length by omega))
      have hT2 := hT.later hz hb2
      have hz2 : w.heap.size ≤ w2.heap.size := hT2.bel.size
      have hal := sal_good u l[j] (stN l j) w2 hu (roundF_fits hgood.1) hgood.1 (hL.later hT2.bel)
      have hx : Hid (allSt (stN l j) l[j] = stN l (j + 1)) := (stN_succ (by omega)).symm
      rw [hx.out] at hal
      obtain ⟨z0, z1, z2, z3, z4, z5, z6, z7, z8, z9⟩ := hT2.two.ten
      obtain ⟨ua, ucap, rfl, -⟩ := hu
      simp only [stV] at hal
      have HT : Hid (ThenAt w w2 w.heap.size (stN l j)) := hT2
      clear hT hT2 hO hb2 hgood hx c0
      have HN : Hid (∀ W, ThenAt w W w.heap.size (stN l j) → ThenAt w ((((((((((W.setCell ⟨w.heap.size + 1, 0, none⟩ (.int .i64 (stN l (j + 1) 0))).setCell ⟨w.heap.size + 1, 1, none⟩ (.int .i64 (stN l (j + 1) 1))).setCell ⟨w.heap.size + 1, 2, none⟩ (.int .i64 (stN l (j + 1) 2))).setCell ⟨w.heap.size + 1, 3, none⟩ (.int .i64 (stN l (j + 1) 3))).setCell ⟨w.heap.size + 1, 4, none⟩ (.int .i64 (stN l (j + 1) 4))).setCell ⟨w.heap.size + 1, 5, none⟩ (.int .i64 (stN l (j + 1) 5))).setCell ⟨w.heap.size + 1, 6, none⟩ (.int .i64 (stN l (j + 1) 6))).setCell ⟨w.heap.size + 1, 7, none⟩ (.int .i64 (stN l (j + 1) 7))).setCell ⟨w.heap.size + 1, 8, none⟩ (.int .i64 (stN l (j + 1) 8))).setCell ⟨w.heap.size + 1, 9, none⟩ (.int .i64 (stN l (j + 1) 9))) w.heap.size (stN l (j + 1))) := fun W hW => hW.next _
      obtain ⟨s1, es1⟩ : ∃ s1, s1 = stN l (j + 1) := ⟨_, rfl⟩
      rw [← es1] at hal HN
      have HS1 : Hid (s1 = stN l (j + 1)) := es1
      clear es1
      generalize stN l j = s0 at *
      go_wp2_with fail
      refine hal.mono ?_
      clear hal
      rintro e w3 ⟨⟨G, rfl⟩, hb3⟩
      have hT3 := HT.out.later hz2 hb3
      have u2 := hT3.f2
      obtain ⟨y0, y1, y2, y3, y4, y5, y6, y7, y8, y9⟩ := hT3.two.ten
      have HT3 : Hid _ := HN.out _ hT3
      clear z0 z1 z2 z3 z4 z5 z6 z7 z8 z9 HT HN hT3 hb3
      go_wp2_with fail
      go_roundg (n - (j + 1))
      case measure => omega
      case rel => exact ⟨j + 1, by omega, rfl, by go_num, by rw [← HS1.out]; exact HT3.out⟩
    · obtain rfl : j = n := by omega
      clear hrd
      obtain ⟨z0, z1, z2, z3, z4, z5, z6, z7, z8, z9⟩ := hT.two.ten
      obtain ⟨y0, y1, y2, y3, y4, y5, y6, y7, y8, y9⟩ := hT.one.ten
      have u1 := hT.f1
      have hBz := hT.bel
      have hn0 : ¬ w.heap.size = w.heap.size + 1 := by omega
      obtain ⟨s, es⟩ : ∃ s, s = stN l j := ⟨_, rfl⟩
      rw [← es] at z0 z1 z2 z3 z4 z5 z6 z7 z8 z9
      have HS : Hid (s = stN l j) := es
      clear hT es
      go_wp2_with fail
      exact bodyPost_ret (v := .tuple #[stV s, .bool true]) (by simp [results, Tryz.results61, go_sem, stV, y0, y1, y2, y3, y4, y5, y6, y7, y8, y9]) rfl ⟨by rw [HS.out], below_ten hBz (b := w.heap.size) (Nat.le_refl _) _ _ _ _ _ _ _ _ _ _⟩
end
end Go.Proofs.YtehkjbpgibdgpadGreatDoor
