/-
  The walk of a store's Then.
-/
import Derived.Test.YtihfjmdjjeciiacDoorStqAJ
import Derived.Test.YtihfjmdjjeciiacDoorSalAJ
namespace Go.Proofs.YtihfjmdjjeciiacDoor
open Go.RowKit Go.Shelf

theorem box_ten {w : World} {B : Nat} {x : Nat → Int} (h : Box w B x) (y : Nat → Int) : Box ((((((((((w.setCell ⟨B, 0, none⟩ (.int .i64 (y 0))).setCell ⟨B, 1, none⟩ (.int .i64 (y 1))).setCell ⟨B, 2, none⟩ (.int .i64 (y 2))).setCell ⟨B, 3, none⟩ (.int .i64 (y 3))).setCell ⟨B, 4, none⟩ (.int .i64 (y 4))).setCell ⟨B, 5, none⟩ (.int .i64 (y 5))).setCell ⟨B, 6, none⟩ (.int .i64 (y 6))).setCell ⟨B, 7, none⟩ (.int .i64 (y 7))).setCell ⟨B, 8, none⟩ (.int .i64 (y 8))).setCell ⟨B, 9, none⟩ (.int .i64 (y 9))) B y :=
  ((((((((((h.set (m := 0) (by omega) (y 0)).set (m := 1) (by omega) (y 1)).set (m := 2) (by omega) (y 2)).set (m := 3) (by omega) (y 3)).set (m := 4) (by omega) (y 4)).set (m := 5) (by omega) (y 5)).set (m := 6) (by omega) (y 6)).set (m := 7) (by omega) (y 7)).set (m := 8) (by omega) (y 8)).set (m := 9) (by omega) (y 9)).congr (lt10 rfl rfl rfl rfl rfl rfl rfl rfl rfl rfl)
theorem box_ten_apart {w : World} {B C : Nat} {x : Nat → Int} (h : Box w C x) (hne : B ≠ C) (v0 v1 v2 v3 v4 v5 v6 v7 v8 v9 : Value) : Box ((((((((((w.setCell ⟨B, 0, none⟩ v0).setCell ⟨B, 1, none⟩ v1).setCell ⟨B, 2, none⟩ v2).setCell ⟨B, 3, none⟩ v3).setCell ⟨B, 4, none⟩ v4).setCell ⟨B, 5, none⟩ v5).setCell ⟨B, 6, none⟩ v6).setCell ⟨B, 7, none⟩ v7).setCell ⟨B, 8, none⟩ v8).setCell ⟨B, 9, none⟩ v9) C x :=
  (((((((((h.apart hne _ _).apart hne _ _).apart hne _ _).apart hne _ _).apart hne _ _).apart hne _ _).apart hne _ _).apart hne _ _).apart hne _ _).apart hne _ _

/-- The first world of Then: the state that it will answer, the state that it goes on with. -/
theorem then_open (w : World) : ∃ W0, W0 = ((w.alloc (.cells #[.int .i64 0, .int .i64 0, .int .i64 0, .int .i64 0, .int .i64 0, .int .i64 0, .int .i64 0, .int .i64 0, .int .i64 0, .int .i64 0] 71)).alloc (.cells #[.int .i64 0, .int .i64 0, .int .i64 0, .int .i64 0, .int .i64 0, .int .i64 0, .int .i64 0, .int .i64 0, .int .i64 0, .int .i64 0] 71)) ∧ Below w.heap.size w W0 ∧ W0.heap.size = w.heap.size + 2 ∧ Box W0 w.heap.size (fun _ => 0) ∧ Box W0 (w.heap.size + 1) (fun _ => 0) ∧ (∀ o, W0.frozen? ⟨w.heap.size, o, none⟩ = false) ∧ (∀ o, W0.frozen? ⟨w.heap.size + 1, o, none⟩ = false) := by
  refine ⟨_, rfl, ((Below.refl _ _).alloc (Nat.le_refl _) _).alloc (by simp) _, by simp, ?_, ?_, fun o => by go_simp, fun o => by go_simp⟩
  · exact lt10 (by go_simp) (by go_simp) (by go_simp) (by go_simp) (by go_simp) (by go_simp) (by go_simp) (by go_simp) (by go_simp) (by go_simp)
  · exact lt10 (by go_simp) (by go_simp) (by go_simp) (by go_simp) (by go_simp) (by go_simp) (by go_simp) (by go_simp) (by go_simp) (by go_simp)

section
variable {P : Nat → Prop} {w : World} {S : Nat} {l : List (List (List Op5))} {k m : Nat}

/-- What Then goes on with. -/
structure ThenAt (w0 w : World) (R : Nat) (x : Nat → Int) : Prop where
  one : Box w R (fun _ => 0)
  two : Box w (R + 1) x
  f1 : ∀ o, w.frozen? ⟨R, o, none⟩ = false
  f2 : ∀ o, w.frozen? ⟨R + 1, o, none⟩ = false
  bel : Below R w0 w
theorem ThenAt.later {w0 w w' : World} {R : Nat} {x : Nat → Int} (h : ThenAt w0 w R x) (hR : R ≤ w.heap.size) (hb : Below w.heap.size w w') : ThenAt w0 w' R x :=
  ⟨h.one.later hb, h.two.later hb, fun o => by rw [hb.frozen (p := ⟨R, o, none⟩) (box_lt h.one)]; exact h.f1 o, fun o => by rw [hb.frozen (p := ⟨R + 1, o, none⟩) (box_lt h.two)]; exact h.f2 o, h.bel.trans (hb.mono hR)⟩
theorem ThenAt.next {w0 w : World} {R : Nat} {x : Nat → Int} (h : ThenAt w0 w R x) (y : Nat → Int) : ThenAt w0 ((((((((((w.setCell ⟨R + 1, 0, none⟩ (.int .i64 (y 0))).setCell ⟨R + 1, 1, none⟩ (.int .i64 (y 1))).setCell ⟨R + 1, 2, none⟩ (.int .i64 (y 2))).setCell ⟨R + 1, 3, none⟩ (.int .i64 (y 3))).setCell ⟨R + 1, 4, none⟩ (.int .i64 (y 4))).setCell ⟨R + 1, 5, none⟩ (.int .i64 (y 5))).setCell ⟨R + 1, 6, none⟩ (.int .i64 (y 6))).setCell ⟨R + 1, 7, none⟩ (.int .i64 (y 7))).setCell ⟨R + 1, 8, none⟩ (.int .i64 (y 8))).setCell ⟨R + 1, 9, none⟩ (.int .i64 (y 9))) R y :=
  ⟨box_ten_apart h.one (by omega) _ _ _ _ _ _ _ _ _ _, box_ten h.two y, fun o => by simp only [World.frozen?_setCell]; exact h.f1 o, fun o => by simp only [World.frozen?_setCell]; exact h.f2 o, below_ten h.bel (by omega) _ _ _ _ _ _ _ _ _ _⟩

set_option maxRecDepth 100000 in
set_option maxHeartbeats 2000000 in
theorem stThen_any (h : StAt P w S l k m) {n : Nat} (hn : n ≤ l.length) (hL : Lim w) :
    Calls Tryd.prog 42 #[.pointer (some ⟨S, 0, none⟩), .int .i64 (n : Int)] w fun e w' => e = .returned (.tuple #[stV (stN l n), .bool true]) ∧ Below w.heap.size w w' := by
  have ho := h.ok
  have hf := ho.few
  obtain ⟨C, vl, h⟩ := h
  have hlt := h.lt
  have hlen := fun (w' : World) (hb : Below w.heap.size w w') => logLen_any (h.log.later hb)
  have hrd := fun (w' : World) (hb : Below w.heap.size w w') (j : Nat) => logRound_any (h.log.later hb) (j : Int) (hL.later hb)
  have c0 := h.c0
  have t0 : ¬ (n : Int) < 0 := by omega
  have t1 : ¬ (l.length : Int) < (n : Int) := by omega
  have t2 : decide (l.length < n) = false := by simp; omega
  obtain ⟨W0, e0, hB0, hsz, hX0, hY0, hf0, hf1⟩ := then_open w
  have hT0 : ThenAt w W0 w.heap.size (fun _ => 0) := ⟨hX0, hY0, hf0, hf1, hB0⟩
  go_enter Tryd.func42, Tryd.ntmps42
  go_wp2_with fail
  refine (hlen _ ((Below.refl _ _).alloc (Nat.le_refl _) _)).mono ?_
  rintro e w1 ⟨rfl, rfl⟩
  clear hlen
  go_wp2_with fail
  rw [← e0]
  clear e0 hX0 hY0 hf0 hf1 hB0 h
  go_loopg [23] n (fun g i wr => ∃ j : Nat, j ≤ n ∧ g = n - j ∧ i = .int .i64 j ∧ ThenAt w wr w.heap.size (stN l j))
  case atStart => exact ⟨0, by omega, by omega, rfl, hT0⟩
  case round =>
    clear hT0
    obtain ⟨j, hj, hg, rfl, hT⟩ := hrel
    have hz : w.heap.size ≤ wr.heap.size := hT.bel.size
    by_cases hlt' : j < n
    · have hji : (j : Int) < (n : Int) := by omega
      replace c0 := cell_later hT.bel c0
      have hr := hrd _ hT.bel j
      clear hrd
      go_wp2_with fail
      refine hr.mono ?_
      clear hr
      rintro e w2 ⟨hO, hb2⟩
      obtain ⟨u, rfl, hu⟩ := hO.yes (show j < l.length by omega)
      have hgood := ho.good _ (List.getElem_mem (show j < l.length by omega))
      have hT2 := hT.later hz hb2
      have hz2 : w.heap.size ≤ w2.heap.size := hT2.bel.size
      have hal := sal_good u l[j] (stN l j) w2 hu (roundF_fits hgood.1) hgood.1 (hL.later hT2.bel)
      have hx : Hid (allSt (stN l j) l[j] = stN l (j + 1)) := (stN_succ (by omega)).symm
      rw [hx.out] at hal
      obtain ⟨z0, z1, z2, z3, z4, z5, z6, z7, z8, z9⟩ := hT2.two.ten
      obtain ⟨ua, ucap, rfl, -⟩ := hu
      simp only [stV] at hal
      have HT : Hid (ThenAt w w2 w.heap.size (stN l j)) := hT2
      clear hT hT2 hO hb2 hgood hx c0
      have HN : Hid (∀ W, ThenAt w W w.heap.size (stN l j) → ThenAt w ((((((((((W.setCell ⟨w.heap.size + 1, 0, none⟩ (.int .i64 (stN l (j + 1) 0))).setCell ⟨w.heap.size + 1, 1, none⟩ (.int .i64 (stN l (j + 1) 1))).setCell ⟨w.heap.size + 1, 2, none⟩ (.int .i64 (stN l (j + 1) 2))).setCell ⟨w.heap.size + 1, 3, none⟩ (.int .i64 (stN l (j + 1) 3))).setCell ⟨w.heap.size + 1, 4, none⟩ (.int .i64 (stN l (j + 1) 4))).setCell ⟨w.heap.size + 1, 5, none⟩ (.int .i64 (stN l (j + 1) 5))).setCell ⟨w.heap.size + 1, 6, none⟩ (.int .i64 (stN l (j + 1) 6))).setCell ⟨w.heap.size + 1, 7, none⟩ (.int .i64 (stN l (j + 1) 7))).setCell ⟨w.heap.size + 1, 8, none⟩ (.int .i64 (stN l (j + 1) 8))).setCell ⟨w.heap.size + 1, 9, none⟩ (.int .i64 (stN l (j + 1) 9))) w.heap.size (stN l (j + 1))) := fun W hW => hW.next _
      obtain ⟨s1, es1⟩ : ∃ s1, s1 = stN l (j + 1) := ⟨_, rfl⟩
      rw [← es1] at hal HN
      have HS1 : Hid (s1 = stN l (j + 1)) := es1
      clear es1
      generalize stN l j = s0 at *
      go_wp2_with fail
      refine hal.mono ?_
      clear hal
      rintro e w3 ⟨⟨G, rfl⟩, hb3⟩
      have hT3 := HT.out.later hz2 hb3
      have u2 := hT3.f2
      obtain ⟨y0, y1, y2, y3, y4, y5, y6, y7, y8, y9⟩ := hT3.two.ten
      have HT3 : Hid _ := HN.out _ hT3
      clear z0 z1 z2 z3 z4 z5 z6 z7 z8 z9 HT HN hT3 hb3
      go_wp2_with fail
      go_roundg (n - (j + 1))
      case measure => omega
      case rel => exact ⟨j + 1, by omega, rfl, by go_num, by rw [← HS1.out]; exact HT3.out⟩
    · obtain rfl : j = n := by omega
      clear hrd
      obtain ⟨z0, z1, z2, z3, z4, z5, z6, z7, z8, z9⟩ := hT.two.ten
      obtain ⟨y0, y1, y2, y3, y4, y5, y6, y7, y8, y9⟩ := hT.one.ten
      have u1 := hT.f1
      have hBz := hT.bel
      have hn0 : ¬ w.heap.size = w.heap.size + 1 := by omega
      obtain ⟨s, es⟩ : ∃ s, s = stN l j := ⟨_, rfl⟩
      rw [← es] at z0 z1 z2 z3 z4 z5 z6 z7 z8 z9
      have HS : Hid (s = stN l j) := es
      clear hT es
      go_wp2_with fail
      exact bodyPost_ret (v := .tuple #[stV s, .bool true]) (by simp [results, Tryd.results42, go_sem, stV, y0, y1, y2, y3, y4, y5, y6, y7, y8, y9]) rfl ⟨by rw [HS.out], below_ten hBz (b := w.heap.size) (Nat.le_refl _) _ _ _ _ _ _ _ _ _ _⟩
end
end Go.Proofs.YtihfjmdjjeciiacDoor
