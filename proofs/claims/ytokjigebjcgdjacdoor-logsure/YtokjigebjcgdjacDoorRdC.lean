/-
  The walk of a reader's op.
-/
import Derived.Test.YtokjigebjcgdjacDoorRdB
namespace Go.Proofs.YtokjigebjcgdjacDoor
open Go.RowKit

/-- An operation as a value. -/
def opV (o : Op5) : Value := .agg #[.int .i64 o.k, .int .i64 o.a, .int .i64 o.b, .int .i64 o.c, .int .i64 o.n]

/-- Five cells of a block that is no reader's. -/
structure Five (w : World) (B : Nat) (k a b c n : Int) : Prop where
  c0 : w.cell? ⟨B, 0, none⟩ = some (.int .i64 k)
  c1 : w.cell? ⟨B, 1, none⟩ = some (.int .i64 a)
  c2 : w.cell? ⟨B, 2, none⟩ = some (.int .i64 b)
  c3 : w.cell? ⟨B, 3, none⟩ = some (.int .i64 c)
  c4 : w.cell? ⟨B, 4, none⟩ = some (.int .i64 n)
  fr : ∀ o, w.frozen? ⟨B, o, none⟩ = false
theorem Five.lt {w : World} {B : Nat} {k a b c n : Int} (h : Five w B k a b c n) : B < w.heap.size := World.block_lt_of_cell? w _ h.c0
theorem Five.grew {S : Nat → Prop} {w w' : World} {B : Nat} {k a b c n : Int} (h : Five w B k a b c n) (hg : Grew S w w') (hn : ¬ S B) : Five w' B k a b c n :=
  ⟨hg.cell h.c0 hn, hg.cell h.c1 hn, hg.cell h.c2 hn, hg.cell h.c3 hn, hg.cell h.c4 hn, fun o => by rw [hg.frozen (p := ⟨B, o, none⟩) h.lt hn]; exact h.fr o⟩
theorem five_new (w : World) (k a b c n : Int) (t : TypeId) : Five (w.alloc (.cells #[.int .i64 k, .int .i64 a, .int .i64 b, .int .i64 c, .int .i64 n] t)) w.heap.size k a b c n :=
  ⟨by go_simp, by go_simp, by go_simp, by go_simp, by go_simp, fun o => by go_simp⟩
theorem grew_new (S : Nat → Prop) (w : World) (o : Obj) : Grew S w (w.alloc o) := Grew.of_below ((Below.refl _ _).alloc (Nat.le_refl _) _)
theorem int_byte {x : Int} (h : IsB x) : wrap64 x = x := by unfold IsB at h; unfold wrap64; omega
theorem rem_byte {x : Int} (h : IsB x) : x.tmod 16 = x % 16 := Int.tmod_eq_emod_of_nonneg h.1
theorem quo_byte {x : Int} (h : IsB x) : x.tdiv 16 = x / 16 := Int.tdiv_eq_ediv_of_nonneg h.1

theorem int_quo {x : Int} (h : IsB x) : wrap64 (x / 16) = x / 16 := by unfold IsB at h; unfold wrap64; omega
theorem cell_apart' {w : World} {C o m : Nat} (u : Value) (h : o ≠ m) : (w.setCell ⟨C, m, none⟩ u).cell? ⟨C, o, none⟩ = w.cell? ⟨C, o, none⟩ :=
  World.cell?_setCell_other _ _ _ _ (fun h => by simp only [Addr.mk.injEq] at h; omega)

set_option maxRecDepth 100000 in
set_option maxHeartbeats 400000 in
theorem op_nil {N C : Nat} {w : World} (h : ReadAt w N C []) :
    Calls Tryd.prog 56 #[.pointer (some ⟨C, 0, none⟩)] w fun e w' => e = .panicked gave ∧ Grew (fun b => b = C) w w' := by
  go_enter Tryd.func56, Tryd.ntmps56
  go_wp2_with fail
  refine (next_none (h.alloc _)).mono ?_
  rintro e w1 ⟨rfl, rfl⟩
  exact ⟨rfl, rfl, grew_new _ _ _⟩

set_option maxRecDepth 100000 in
set_option maxHeartbeats 400000 in
theorem op_one {N C : Nat} {x : Int} {w : World} (h : ReadAt w N C [x]) :
    Calls Tryd.prog 56 #[.pointer (some ⟨C, 0, none⟩)] w fun e w' => e = .panicked gave ∧ Grew (fun b => b = C) w w' := by
  have hx := int_byte h.all.head
  go_enter Tryd.func56, Tryd.ntmps56
  go_wp2_with fail
  refine (next_some (h.alloc _)).mono ?_
  rintro e w1 ⟨rfl, hR1, hG1, hS1⟩
  have hG := (grew_new (fun b => b = C) w _).trans hG1
  by_cases h1 : x = 1
  · subst h1
    go_wp2_with fail
    refine (next_none (hR1.alloc _)).mono ?_
    rintro e w2 ⟨rfl, rfl⟩
    exact ⟨rfl, rfl, hG.trans (grew_new _ _ _)⟩
  · have t1 : (x == 1) = false := by simp [h1]
    go_wp2_with fail
    refine (next_none (hR1.alloc _)).mono ?_
    rintro e w2 ⟨rfl, rfl⟩
    exact ⟨rfl, rfl, hG.trans (grew_new _ _ _)⟩

theorem Five.set0 {w : World} {B : Nat} {k a b c n : Int} (h : Five w B k a b c n) (x : Int) : Five (w.setCell ⟨B, 0, none⟩ (.int .i64 x)) B x a b c n :=
  ⟨World.cell?_setCell_same _ _ _ h.c0, by rw [cell_apart' _ (by omega)]; exact h.c1, by rw [cell_apart' _ (by omega)]; exact h.c2, by rw [cell_apart' _ (by omega)]; exact h.c3, by rw [cell_apart' _ (by omega)]; exact h.c4, fun o => by rw [World.frozen?_setCell]; exact h.fr o⟩
theorem Five.set1 {w : World} {B : Nat} {k a b c n : Int} (h : Five w B k a b c n) (x : Int) : Five (w.setCell ⟨B, 1, none⟩ (.int .i64 x)) B k x b c n :=
  ⟨by rw [cell_apart' _ (by omega)]; exact h.c0, World.cell?_setCell_same _ _ _ h.c1, by rw [cell_apart' _ (by omega)]; exact h.c2, by rw [cell_apart' _ (by omega)]; exact h.c3, by rw [cell_apart' _ (by omega)]; exact h.c4, fun o => by rw [World.frozen?_setCell]; exact h.fr o⟩
theorem Five.set2 {w : World} {B : Nat} {k a b c n : Int} (h : Five w B k a b c n) (x : Int) : Five (w.setCell ⟨B, 2, none⟩ (.int .i64 x)) B k a x c n :=
  ⟨by rw [cell_apart' _ (by omega)]; exact h.c0, by rw [cell_apart' _ (by omega)]; exact h.c1, World.cell?_setCell_same _ _ _ h.c2, by rw [cell_apart' _ (by omega)]; exact h.c3, by rw [cell_apart' _ (by omega)]; exact h.c4, fun o => by rw [World.frozen?_setCell]; exact h.fr o⟩
theorem Five.set3 {w : World} {B : Nat} {k a b c n : Int} (h : Five w B k a b c n) (x : Int) : Five (w.setCell ⟨B, 3, none⟩ (.int .i64 x)) B k a b x n :=
  ⟨by rw [cell_apart' _ (by omega)]; exact h.c0, by rw [cell_apart' _ (by omega)]; exact h.c1, by rw [cell_apart' _ (by omega)]; exact h.c2, World.cell?_setCell_same _ _ _ h.c3, by rw [cell_apart' _ (by omega)]; exact h.c4, fun o => by rw [World.frozen?_setCell]; exact h.fr o⟩
theorem Five.set4 {w : World} {B : Nat} {k a b c n : Int} (h : Five w B k a b c n) (x : Int) : Five (w.setCell ⟨B, 4, none⟩ (.int .i64 x)) B k a b c x :=
  ⟨by rw [cell_apart' _ (by omega)]; exact h.c0, by rw [cell_apart' _ (by omega)]; exact h.c1, by rw [cell_apart' _ (by omega)]; exact h.c2, by rw [cell_apart' _ (by omega)]; exact h.c3, World.cell?_setCell_same _ _ _ h.c4, fun o => by rw [World.frozen?_setCell]; exact h.fr o⟩
theorem Five.put {w : World} {B : Nat} {k a b c n : Int} (h : Five w B k a b c n) (k' a' b' c' n' : Int) : Five (((((w.setCell ⟨B, 0, none⟩ (.int .i64 k')).setCell ⟨B, 1, none⟩ (.int .i64 a')).setCell ⟨B, 2, none⟩ (.int .i64 b')).setCell ⟨B, 3, none⟩ (.int .i64 c')).setCell ⟨B, 4, none⟩ (.int .i64 n')) B k' a' b' c' n' := ((((h.set0 k').set1 a').set2 b').set3 c').set4 n'
/-- What a function answers whose result lies in five cells. -/
theorem op_results {w : World} {B : Nat} {o : Op5} (h : Five w B o.k o.a o.b o.c o.n) {ts : Array Value} (ht : ts[2]? = some (.pointer (some ⟨B, 0, none⟩))) : (results Tryd.f56 ts).run Tryd.prog w = .ok (opV o) w := by
  obtain ⟨c0, c1, c2, c3, c4, -⟩ := h
  simp [results, Tryd.results56, go_sem, opV, ht, c0, c1, c2, c3, c4]
theorem Five.other {w : World} {B g : Nat} {k a b c n : Int} (h : Five w B k a b c n) (hne : g ≠ B) (o : Nat) (u : Value) : Five (w.setCell ⟨g, o, none⟩ u) B k a b c n := h.grew (grew_cellC w g o u) (fun e => hne e.symm)

/-- The result is laid into its five cells. -/
theorem grew_five {C : Nat} {w W : World} (h : Grew (fun b => b = C) w W) {b : Nat} (hb : w.heap.size ≤ b) (x0 x1 x2 x3 x4 : Value) : Grew (fun b => b = C) w (((((W.setCell ⟨b, 0, none⟩ x0).setCell ⟨b, 1, none⟩ x1).setCell ⟨b, 2, none⟩ x2).setCell ⟨b, 3, none⟩ x3).setCell ⟨b, 4, none⟩ x4) := by
  have k : Grew (fun c => c = b) W (((((W.setCell ⟨b, 0, none⟩ x0).setCell ⟨b, 1, none⟩ x1).setCell ⟨b, 2, none⟩ x2).setCell ⟨b, 3, none⟩ x3).setCell ⟨b, 4, none⟩ x4) := ((((grew_cellC _ _ _ _).trans (grew_cellC _ _ _ _)).trans (grew_cellC _ _ _ _)).trans (grew_cellC _ _ _ _)).trans (grew_cellC _ _ _ _)
  exact ⟨k.os.trans h.os, k.tape.trans h.tape, k.output.trans h.output, Nat.le_trans h.size k.size, fun i hi hn => (k.block i (Nat.lt_of_lt_of_le hi h.size) (fun e => by omega)).trans (h.block i hi hn)⟩
theorem grew_one {C : Nat} {w W : World} (h : Grew (fun b => b = C) w W) {b : Nat} (hb : w.heap.size ≤ b) (o : Nat) (x : Value) : Grew (fun b => b = C) w (W.setCell ⟨b, o, none⟩ x) := by
  have k := grew_cellC W b o x
  exact ⟨k.os.trans h.os, k.tape.trans h.tape, k.output.trans h.output, Nat.le_trans h.size k.size, fun i hi hn => (k.block i (Nat.lt_of_lt_of_le hi h.size) (fun e => by omega)).trans (h.block i hi hn)⟩
theorem read_five {w : World} {N C g : Nat} {l : List Int} (h : ReadAt w N C l) (hg : C < g) (x0 x1 x2 x3 x4 : Value) : ReadAt (((((w.setCell ⟨g, 0, none⟩ x0).setCell ⟨g, 1, none⟩ x1).setCell ⟨g, 2, none⟩ x2).setCell ⟨g, 3, none⟩ x3).setCell ⟨g, 4, none⟩ x4) N C l := ((((h.apart hg 0 x0).apart hg 1 x1).apart hg 2 x2).apart hg 3 x3).apart hg 4 x4

set_option maxRecDepth 100000 in
set_option maxHeartbeats 1000000 in
theorem op_num {N C : Nat} {a : Int} {l : List Int} {w : World} (h : ReadAt w N C (1 :: a :: l)) (h8 : 8 ≤ l.length) :
    Calls Tryd.prog 56 #[.pointer (some ⟨C, 0, none⟩)] w fun e w' => e = .returned (opV ⟨1, a, 0, 0, sgnF (valB (l.take 8))⟩) ∧ ReadAt w' N C (l.drop 8) ∧ Grew (fun b => b = C) w w' := by
  have hx := int_byte h.all.tail.head
  have hlt := h.lt
  go_enter Tryd.func56, Tryd.ntmps56
  go_wp2_with fail
  refine (next_some (h.alloc _)).mono ?_
  rintro e w1 ⟨rfl, hR1, hG1, hS1⟩
  have hF1 : Five w1 w.heap.size 0 0 0 0 0 := (five_new w 0 0 0 0 0 _).grew hG1 (by omega)
  have hG := (grew_new (fun b => b = C) w _).trans hG1
  simp only [World.size_alloc] at hS1
  clear hG1
  go_wp2_with fail
  refine (next_some (hR1.alloc _)).mono ?_
  rintro e w2 ⟨rfl, hR2, hG2, hS2⟩
  have hF2 : Five w2 w.heap.size 0 0 0 0 0 := (hF1.grew (grew_new (fun _ => False) _ _) (fun h => h)).grew hG2 (by omega)
  have hE2 : Five w2 (w.heap.size + 1) 1 0 0 0 0 := by
    have := (five_new w1 1 0 0 0 0 63).grew hG2 (by omega)
    rw [hS1] at this; exact this
  have hG' := hG.trans ((grew_new (fun b => b = C) w1 _).trans hG2)
  simp only [World.size_alloc] at hS2
  clear hG hG2 hF1
  have e0 := hE2.c1
  have e1 := hE2.fr
  go_wp2_with fail
  refine (number_some (hR2.apart (show C < w.heap.size + 1 by omega) 1 (.int .i64 a)) h8).mono ?_
  rintro e w3 ⟨rfl, hR3, hG3, hS3⟩
  have hF3 : Five w3 w.heap.size 0 0 0 0 0 := (hF2.other (g := w.heap.size + 1) (by omega) 1 (.int .i64 a)).grew hG3 (by omega)
  have hE3 : Five w3 (w.heap.size + 1) 1 a 0 0 0 := (hE2.set1 a).grew hG3 (by omega)
  have hGG := (grew_one hG' (show w.heap.size ≤ w.heap.size + 1 by omega) 1 (.int .i64 a)).trans hG3
  clear hG' hG3 hF2 hE2 e0 e1
  obtain ⟨p0, p1, p2, p3, p4, p5⟩ := hF3
  obtain ⟨q0, q1, q2, q3, q4, q5⟩ := hE3
  have hFF := ((Five.mk p0 p1 p2 p3 p4 p5).other (g := w.heap.size + 1) (by omega) 4 (.int .i64 (sgnF (valB (l.take 8))))).put 1 a 0 0 (sgnF (valB (l.take 8)))
  go_wp2_with fail
  exact bodyPost_ret (op_results (o := ⟨1, a, 0, 0, sgnF (valB (l.take 8))⟩) hFF rfl) rfl ⟨rfl, read_five (hR3.apart (by omega) 4 _) (by omega) _ _ _ _ _, grew_five (grew_one hGG (by omega) 4 _) (Nat.le_refl _) _ _ _ _ _⟩

set_option maxRecDepth 100000 in
set_option maxHeartbeats 1000000 in
theorem op_num_none {N C : Nat} {a : Int} {l : List Int} {w : World} (h : ReadAt w N C (1 :: a :: l)) (h8 : l.length < 8) :
    Calls Tryd.prog 56 #[.pointer (some ⟨C, 0, none⟩)] w fun e w' => e = .panicked gave ∧ Grew (fun b => b = C) w w' := by
  have hx := int_byte h.all.tail.head
  have hlt := h.lt
  go_enter Tryd.func56, Tryd.ntmps56
  go_wp2_with fail
  refine (next_some (h.alloc _)).mono ?_
  rintro e w1 ⟨rfl, hR1, hG1, hS1⟩
  have hG := (grew_new (fun b => b = C) w _).trans hG1
  simp only [World.size_alloc] at hS1
  clear hG1
  go_wp2_with fail
  refine (next_some (hR1.alloc _)).mono ?_
  rintro e w2 ⟨rfl, hR2, hG2, hS2⟩
  have hE2 : Five w2 (w.heap.size + 1) 1 0 0 0 0 := by
    have := (five_new w1 1 0 0 0 0 63).grew hG2 (by omega)
    rw [hS1] at this; exact this
  have hG' := hG.trans ((grew_new (fun b => b = C) w1 _).trans hG2)
  simp only [World.size_alloc] at hS2
  clear hG hG2
  have e0 := hE2.c1
  have e1 := hE2.fr
  go_wp2_with fail
  refine (number_none (hR2.apart (show C < w.heap.size + 1 by omega) 1 (.int .i64 a)) h8).mono ?_
  rintro e w3 ⟨rfl, hG3⟩
  exact ⟨rfl, rfl, (grew_one hG' (show w.heap.size ≤ w.heap.size + 1 by omega) 1 (.int .i64 a)).trans hG3⟩

set_option maxRecDepth 100000 in
set_option maxHeartbeats 1000000 in
theorem op_two {N C : Nat} {k a : Int} {w : World} (h : ReadAt w N C [k, a]) (hk : k ≠ 1) :
    Calls Tryd.prog 56 #[.pointer (some ⟨C, 0, none⟩)] w fun e w' => e = .panicked gave ∧ Grew (fun b => b = C) w w' := by
  have hx := int_byte h.all.head
  have hy := int_byte h.all.tail.head
  have hr := rem_byte h.all.tail.head
  have hq := quo_byte h.all.tail.head
  have hq' := int_quo h.all.tail.head
  have t1 : (k == 1) = false := by simp [hk]
  have hlt := h.lt
  go_enter Tryd.func56, Tryd.ntmps56
  go_wp2_with fail
  refine (next_some (h.alloc _)).mono ?_
  rintro e w1 ⟨rfl, hR1, hG1, hS1⟩
  have hG := (grew_new (fun b => b = C) w _).trans hG1
  simp only [World.size_alloc] at hS1
  clear hG1
  go_wp2_with fail
  refine (next_some (hR1.alloc _)).mono ?_
  rintro e w2 ⟨rfl, hR2, hG2, hS2⟩
  have hE2 : Five w2 (w.heap.size + 1) k 0 0 0 0 := by
    have := (five_new w1 k 0 0 0 0 63).grew hG2 (by omega)
    rw [hS1] at this; exact this
  have hG' := hG.trans ((grew_new (fun b => b = C) w1 _).trans hG2)
  simp only [World.size_alloc] at hS2
  clear hG hG2
  obtain ⟨q0, q1, q2, q3, q4, q5⟩ := hE2
  go_wp2_with fail
  refine (next_none ((hR2.apart (show C < w.heap.size + 1 by omega) 1 (.int .i64 (a % 16))).apart (show C < w.heap.size + 1 by omega) 2 (.int .i64 (a / 16)))).mono ?_
  rintro e w3 ⟨rfl, rfl⟩
  exact ⟨rfl, rfl, grew_one (grew_one hG' (show w.heap.size ≤ w.heap.size + 1 by omega) 1 _) (show w.heap.size ≤ w.heap.size + 1 by omega) 2 _⟩

set_option maxRecDepth 100000 in
set_option maxHeartbeats 1000000 in
theorem op_three {N C : Nat} {k a c : Int} {l : List Int} {w : World} (h : ReadAt w N C (k :: a :: c :: l)) (hk : k ≠ 1) :
    Calls Tryd.prog 56 #[.pointer (some ⟨C, 0, none⟩)] w fun e w' => e = .returned (opV ⟨k, a % 16, a / 16, c, 0⟩) ∧ ReadAt w' N C l ∧ Grew (fun b => b = C) w w' := by
  have hx := int_byte h.all.head
  have hy := int_byte h.all.tail.head
  have hz := int_byte h.all.tail.tail.head
  have hr := rem_byte h.all.tail.head
  have hq := quo_byte h.all.tail.head
  have hq' := int_quo h.all.tail.head
  have t1 : (k == 1) = false := by simp [hk]
  have hlt := h.lt
  go_enter Tryd.func56, Tryd.ntmps56
  go_wp2_with fail
  refine (next_some (h.alloc _)).mono ?_
  rintro e w1 ⟨rfl, hR1, hG1, hS1⟩
  have hF1 : Five w1 w.heap.size 0 0 0 0 0 := (five_new w 0 0 0 0 0 _).grew hG1 (by omega)
  have hG := (grew_new (fun b => b = C) w _).trans hG1
  simp only [World.size_alloc] at hS1
  clear hG1
  go_wp2_with fail
  refine (next_some (hR1.alloc _)).mono ?_
  rintro e w2 ⟨rfl, hR2, hG2, hS2⟩
  have hF2 : Five w2 w.heap.size 0 0 0 0 0 := (hF1.grew (grew_new (fun _ => False) _ _) (fun h => h)).grew hG2 (by omega)
  have hE2 : Five w2 (w.heap.size + 1) k 0 0 0 0 := by
    have := (five_new w1 k 0 0 0 0 63).grew hG2 (by omega)
    rw [hS1] at this; exact this
  have hG' := hG.trans ((grew_new (fun b => b = C) w1 _).trans hG2)
  simp only [World.size_alloc] at hS2
  clear hG hG2 hF1
  have HE2 := hE2
  obtain ⟨q0, q1, q2, q3, q4, q5⟩ := hE2
  go_wp2_with fail
  refine (next_some ((hR2.apart (show C < w.heap.size + 1 by omega) 1 (.int .i64 (a % 16))).apart (show C < w.heap.size + 1 by omega) 2 (.int .i64 (a / 16)))).mono ?_
  rintro e w3 ⟨rfl, hR3, hG3, hS3⟩
  have hF3 : Five w3 w.heap.size 0 0 0 0 0 := ((hF2.other (g := w.heap.size + 1) (by omega) 1 (.int .i64 (a % 16))).other (g := w.heap.size + 1) (by omega) 2 (.int .i64 (a / 16))).grew hG3 (by omega)
  have hE3 : Five w3 (w.heap.size + 1) k (a % 16) (a / 16) 0 0 := ((HE2.set1 (a % 16)).set2 (a / 16)).grew hG3 (by omega)
  have hGG := (grew_one (grew_one hG' (show w.heap.size ≤ w.heap.size + 1 by omega) 1 (.int .i64 (a % 16))) (show w.heap.size ≤ w.heap.size + 1 by omega) 2 (.int .i64 (a / 16))).trans hG3
  clear hG' hG3 hF2 HE2 q0 q1 q2 q3 q4 q5
  have hFF := (hF3.other (g := w.heap.size + 1) (by omega) 3 (.int .i64 c)).put k (a % 16) (a / 16) c 0
  obtain ⟨p0, p1, p2, p3, p4, p5⟩ := hF3
  obtain ⟨q0, q1, q2, q3, q4, q5⟩ := hE3
  go_wp2_with fail
  exact bodyPost_ret (op_results (o := ⟨k, a % 16, a / 16, c, 0⟩) hFF rfl) rfl ⟨rfl, read_five (hR3.apart (by omega) 3 _) (by omega) _ _ _ _ _, grew_five (grew_one hGG (by omega) 3 _) (Nat.le_refl _) _ _ _ _ _⟩

theorem op_some {N C : Nat} {l l' : List Int} {o : Op5} {w : World} (h : ReadAt w N C l) (e : readOp l = some (o, l')) :
    Calls Tryd.prog 56 #[.pointer (some ⟨C, 0, none⟩)] w fun e w' => e = .returned (opV o) ∧ ReadAt w' N C l' ∧ Grew (fun b => b = C) w w' := by
  match l, h, e with
  | [], _, e => simp [readOp] at e
  | [_], _, e => simp [readOp] at e
  | k :: a :: l2, h, e =>
    simp only [readOp] at e
    by_cases hk : k = 1
    · subst hk
      rw [if_pos rfl] at e
      by_cases h8 : l2.length < 8
      · rw [if_pos h8] at e; simp at e
      · rw [if_neg h8] at e
        simp only [Option.some.injEq, Prod.mk.injEq] at e
        obtain ⟨rfl, rfl⟩ := e
        exact op_num h (by omega)
    · rw [if_neg hk] at e
      cases l2 with
      | nil => simp at e
      | cons c l3 =>
        simp only [Option.some.injEq, Prod.mk.injEq] at e
        obtain ⟨rfl, rfl⟩ := e
        exact op_three h hk
theorem op_none {N C : Nat} {l : List Int} {w : World} (h : ReadAt w N C l) (e : readOp l = none) :
    Calls Tryd.prog 56 #[.pointer (some ⟨C, 0, none⟩)] w fun e w' => e = .panicked gave ∧ Grew (fun b => b = C) w w' := by
  match l, h, e with
  | [], h, _ => exact op_nil h
  | [_], h, _ => exact op_one h
  | k :: a :: l2, h, e =>
    simp only [readOp] at e
    by_cases hk : k = 1
    · subst hk
      rw [if_pos rfl] at e
      by_cases h8 : l2.length < 8
      · exact op_num_none h h8
      · rw [if_neg h8] at e; simp at e
    · rw [if_neg hk] at e
      cases l2 with
      | nil => exact op_two h hk
      | cons c l3 => simp at e
end Go.Proofs.YtokjigebjcgdjacDoor
