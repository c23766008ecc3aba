/-
  The walk of a store's Crash.
-/
import Derived.Test.YtihfjmdjjeciiacDoorStqBJ
namespace Go.Proofs.YtihfjmdjjeciiacDoor
open Go.RowKit Go.Shelf

theorem grew_more {P : Nat → Prop} {w a c : World} (h : Grew P w a) (k : Grew (fun b => P b ∨ w.heap.size ≤ b) a c) : Grew P w c :=
  ⟨k.os.trans h.os, k.tape.trans h.tape, k.output.trans h.output, Nat.le_trans h.size k.size, fun i hi hn => (k.block i (Nat.lt_of_lt_of_le hi h.size) (fun e => e.elim hn (fun e => by omega))).trans (h.block i hi hn)⟩
theorem Lim.grew {P : Nat → Prop} {w w' : World} (h : Lim w) (hg : Grew P w w') (h0 : ¬ P 0) : Lim w' := fun k j hk hj => hg.cell (h k j hk hj) h0
theorem nums_nil (w : World) : NumsAt w (.slice none 0 0) [] := ⟨none, 0, rfl, fun i hi => by simp at hi⟩

section
variable {P : Nat → Prop} {w : World} {S : Nat} {l : List (List (List Op5))} {k m : Nat}

set_option maxRecDepth 100000 in
set_option maxHeartbeats 2000000 in
theorem stCrash_any (h : StAt P w S l k m) (keep : Int) (hL : Lim w) (h0 : ¬ P 0) :
    Calls Tryd.prog 62 #[.pointer (some ⟨S, 0, none⟩), .int .i64 keep] w fun e w' => e = .returned (.tuple #[]) ∧ StAt (fun b => P b ∨ w.heap.size ≤ b) w' S (l.take (wholeF l k (max keep 0))) (wholeF l k (max keep 0)) (wholeF l k (max keep 0)) ∧ Grew P w w' := by
  have HL : Hid (∀ w', Grew P w w' → Lim w') := fun w' hg => hL.grew hg h0
  clear h0
  have ho := h.ok
  have hw := whole_ge (l := l) (k := k) (m := max keep 0) ho.sure (by omega)
  have hwl := whole_le l k (max keep 0)
  obtain ⟨C, vl, h⟩ := h
  have hcr := logCrash_any h.log keep
  have c0 := h.c0
  have hm := h.le
  generalize wholeF l k (max keep 0) = n at *
  go_enter Tryd.func62, Tryd.ntmps62
  go_wp2_with fail
  refine hcr.mono ?_
  rintro e w1 ⟨rfl, h1, hG1⟩
  clear hcr c0
  have r1 := h.logged (l' := l.take n) (k' := n) hG1 (h1.mono fun b _ hb => .inl hb) (alike_take (by omega)) (by omega)
  have hGP : Grew P w w1 := hG1.mono fun b hb => hb.1
  have HR : Hid (StRaw (fun b => P b ∨ w.heap.size ≤ b) w1 S C (l.take n) n m vl) := r1
  have hz1 := hG1.size
  have hd := r1.done (m' := 0) (vn := .slice none 0 0) (Below.refl _ _) r1.log ⟨none, 0, rfl, Nat.le_refl _, fun h => absurd h (by simp [lastR])⟩ (fun b e => by cases e) (Nat.zero_le _)
  have HD : Hid (StAt (fun b => P b ∨ w.heap.size ≤ b) ((((((((((((w1.setCell ⟨S, 1, none⟩ (.int .i64 0)).setCell ⟨S, 2, none⟩ (.int .i64 0)).setCell ⟨S, 3, none⟩ (.int .i64 0)).setCell ⟨S, 4, none⟩ (.int .i64 0)).setCell ⟨S, 5, none⟩ (.int .i64 0)).setCell ⟨S, 6, none⟩ (.int .i64 0)).setCell ⟨S, 7, none⟩ (.int .i64 0)).setCell ⟨S, 8, none⟩ (.int .i64 0)).setCell ⟨S, 9, none⟩ (.int .i64 0)).setCell ⟨S, 10, none⟩ (.int .i64 0)).setCell ⟨S, 11, none⟩ (.int .i64 0)).setCell ⟨S, 12, none⟩ (.slice none 0 0)) S (l.take n) n 0) :=
    StAt.mono ⟨C, _, hd⟩ fun b _ hb => hb.elim id fun hb => .inr (by omega)
  have hGT : Grew P w ((((((((((((w1.setCell ⟨S, 1, none⟩ (.int .i64 0)).setCell ⟨S, 2, none⟩ (.int .i64 0)).setCell ⟨S, 3, none⟩ (.int .i64 0)).setCell ⟨S, 4, none⟩ (.int .i64 0)).setCell ⟨S, 5, none⟩ (.int .i64 0)).setCell ⟨S, 6, none⟩ (.int .i64 0)).setCell ⟨S, 7, none⟩ (.int .i64 0)).setCell ⟨S, 8, none⟩ (.int .i64 0)).setCell ⟨S, 9, none⟩ (.int .i64 0)).setCell ⟨S, 10, none⟩ (.int .i64 0)).setCell ⟨S, 11, none⟩ (.int .i64 0)).setCell ⟨S, 12, none⟩ (.slice none 0 0)) := grew_twelve hGP h.pS _ _ _ _ _ _ _ _ _ _ _ _
  clear hd
  have c1 := r1.c1
  obtain ⟨z0, z1, z2, z3, z4, z5, z6, z7, z8, z9⟩ := r1.ten
  have c12 := r1.c12
  have fr := r1.fr
  clear h r1 h1 hG1 HR hGP
  go_wp2_with fail
  obtain ⟨W, eW⟩ : ∃ W, W = ((((((((((((w1.setCell ⟨S, 1, none⟩ (.int .i64 0)).setCell ⟨S, 2, none⟩ (.int .i64 0)).setCell ⟨S, 3, none⟩ (.int .i64 0)).setCell ⟨S, 4, none⟩ (.int .i64 0)).setCell ⟨S, 5, none⟩ (.int .i64 0)).setCell ⟨S, 6, none⟩ (.int .i64 0)).setCell ⟨S, 7, none⟩ (.int .i64 0)).setCell ⟨S, 8, none⟩ (.int .i64 0)).setCell ⟨S, 9, none⟩ (.int .i64 0)).setCell ⟨S, 10, none⟩ (.int .i64 0)).setCell ⟨S, 11, none⟩ (.int .i64 0)).setCell ⟨S, 12, none⟩ (.slice none 0 0)) := ⟨_, rfl⟩
  have h0 : StAt (fun b => P b ∨ w.heap.size ≤ b) W S (l.take n) n 0 := by rw [eW]; exact HD.out
  rw [← eW] at hGT ⊢
  clear HD eW c1 z0 z1 z2 z3 z4 z5 z6 z7 z8 z9 c12 fr
  go_loopg [22] n (fun g x wr => ∃ j : Nat, j ≤ n ∧ g = n - j ∧ StAt (fun b => P b ∨ w.heap.size ≤ b) wr S (l.take n) n j ∧ Grew P w wr)
  case atStart => exact ⟨0, by omega, by omega, h0, hGT⟩
  case round =>
    clear h0 hGT
    obtain ⟨j, hj, hg, h2, hG2⟩ := hrel
    have hz2 := hG2.size
    by_cases hlt : j < n
    · have hnx := stNext_good h2 hlt (nums_nil wr) (by simp) (HL.out _ hG2)
      go_wp2_with fail
      refine hnx.mono ?_
      clear hnx
      rintro e w3 ⟨rfl, h3, hG3⟩
      clear h2
      have h3' : StAt (fun b => P b ∨ w.heap.size ≤ b) w3 S (l.take n) n (j + 1) := h3.mono fun b _ hb => hb.elim id fun hb => .inr (by omega)
      have hG3' : Grew P w w3 := grew_more hG2 hG3
      clear h3 hG3 hG2
      go_wp2_with fail
      go_roundg (n - (j + 1))
      case measure => omega
      case rel => exact ⟨j + 1, by omega, rfl, h3', hG3'⟩
    · obtain rfl : j = n := by omega
      have hnx := stNext_none (a := none) (n := 0) (cap := 0) h2 (Nat.le_refl _)
      go_wp2_with fail
      refine hnx.mono ?_
      clear hnx
      rintro e w3 ⟨rfl, hb3⟩
      have h3 := h2.later hb3
      have hG3 := hG2.trans (Grew.of_below hb3)
      clear h2 hG2 hb3
      go_wp2_with fail
      go_end0
      exact ⟨rfl, h3, hG3⟩
end
end Go.Proofs.YtihfjmdjjeciiacDoor
