/-
  The walk of a store's next.
-/
import Derived.Test.YtehkjbpgibdgpadGreatDoorJqSq
import Derived.Test.YtehkjbpgibdgpadGreatDoorRunMJ
import Derived.Deep.DeepCutAuto
namespace Go.Proofs.YtehkjbpgibdgpadGreatDoor
open Go.RowKit Go.Shelf

/-- What next tells, and what comes of the store. -/
def nextOut (P : Nat → Prop) (w w' : World) (S : Nat) (e : Ending) (l : List (List (List Op5))) (k m n : Nat) : Prop :=
  if k ≤ m then e = .returned (.int .i64 7) ∧ Below w.heap.size w w'
  else if 300 < n then e = .returned (.int .i64 4) ∧ Below w.heap.size w w'
  else e = .returned (.int .i64 0) ∧ StAt (fun b => P b ∨ w.heap.size ≤ b) w' S l k (m + 1) ∧ Grew P w w'

section
variable {P : Nat → Prop} {w : World} {S : Nat} {l : List (List (List Op5))} {k m : Nat}

theorem StRaw.sure_any {C : Nat} {vl : Value} (h : StRaw P w S C l k m vl) : ∀ w', Below w.heap.size w w' → Calls Tryz.prog 87 #[.pointer (some ⟨C, 0, none⟩)] w' fun e w'' => e = .returned (.int .i64 (k : Int)) ∧ Below w'.heap.size w' w'' := fun _ hb => logSure_any (h.log.later hb)
/-- The first round that was not done. -/
theorem StRaw.round_any {C : Nat} {vl : Value} (h : StRaw P w S C l k m vl) (hm : m < l.length) (hL : Lim w) : ∀ w', Below w.heap.size w w' → Calls Tryz.prog 84 #[.pointer (some ⟨C, 0, none⟩), .int .i64 (m : Int)] w' fun e w'' => (∃ u, e = .returned (.tuple #[u, .bool true]) ∧ RoundAt w'' u l[m]) ∧ Below w'.heap.size w' w'' := fun w' hb => by
  refine (logRound_any (h.log.later hb) (m : Int) (hL.later hb)).mono ?_
  rintro e w2 ⟨hO, hb2⟩
  exact ⟨hO.yes hm, hb2⟩

set_option maxRecDepth 100000 in
set_option maxHeartbeats 1000000 in
theorem stNext_none {a : Option Addr} {n cap : Nat} (h : StAt P w S l k m) (hk : k ≤ m) : Calls Tryz.prog 113 #[.pointer (some ⟨S, 0, none⟩), .slice a n cap] w fun e w' => e = .returned (.int .i64 7) ∧ Below w.heap.size w w' := by
  obtain ⟨C, vl, h⟩ := h
  have hsu := h.sure_any
  have c0 := h.c0
  have c1 := h.c1
  have c1d : w.drew.cell? ⟨S, 1, none⟩ = some (.int .i64 (m : Int)) := c1
  have hf := h.log.ok.few
  have hs := h.log.ok.sure
  have hm := h.le
  obtain rfl : m = k := by omega
  clear h
  go_enter Tryz.func113, Tryz.ntmps113
  go_wp2_with fail
  go_region_with (go_at_call 87; refine (hsu _ (Below.refl _ _).drew).mono ?_; rintro e w1 ⟨rfl, hb1⟩; have d1 := cell_later hb1 c1d)
  all_goals go_wp2_with fail
  all_goals go_ret
  all_goals exact ⟨rfl, (Below.refl _ _).drew.trans hb1⟩

theorem below_twelve {n : Nat} {a W : World} (h : Below n a W) {S : Nat} (hS : n ≤ S) (v0 v1 v2 v3 v4 v5 v6 v7 v8 v9 v10 v11 : Value) : Below n a ((((((((((((W.setCell ⟨S, 1, none⟩ v0).setCell ⟨S, 2, none⟩ v1).setCell ⟨S, 3, none⟩ v2).setCell ⟨S, 4, none⟩ v3).setCell ⟨S, 5, none⟩ v4).setCell ⟨S, 6, none⟩ v5).setCell ⟨S, 7, none⟩ v6).setCell ⟨S, 8, none⟩ v7).setCell ⟨S, 9, none⟩ v8).setCell ⟨S, 10, none⟩ v9).setCell ⟨S, 11, none⟩ v10).setCell ⟨S, 12, none⟩ v11) :=
  ((((((((((((h.setCell (p := ⟨S, 1, none⟩) hS v0).setCell (p := ⟨S, 2, none⟩) hS v1).setCell (p := ⟨S, 3, none⟩) hS v2).setCell (p := ⟨S, 4, none⟩) hS v3).setCell (p := ⟨S, 5, none⟩) hS v4).setCell (p := ⟨S, 6, none⟩) hS v5).setCell (p := ⟨S, 7, none⟩) hS v6).setCell (p := ⟨S, 8, none⟩) hS v7).setCell (p := ⟨S, 9, none⟩) hS v8).setCell (p := ⟨S, 10, none⟩) hS v9).setCell (p := ⟨S, 11, none⟩) hS v10).setCell (p := ⟨S, 12, none⟩) hS v11)
theorem grew_twelve {P : Nat → Prop} {a W : World} (h : Grew P a W) {S : Nat} (hS : P S) (v0 v1 v2 v3 v4 v5 v6 v7 v8 v9 v10 v11 : Value) : Grew P a ((((((((((((W.setCell ⟨S, 1, none⟩ v0).setCell ⟨S, 2, none⟩ v1).setCell ⟨S, 3, none⟩ v2).setCell ⟨S, 4, none⟩ v3).setCell ⟨S, 5, none⟩ v4).setCell ⟨S, 6, none⟩ v5).setCell ⟨S, 7, none⟩ v6).setCell ⟨S, 8, none⟩ v7).setCell ⟨S, 9, none⟩ v8).setCell ⟨S, 10, none⟩ v9).setCell ⟨S, 11, none⟩ v10).setCell ⟨S, 12, none⟩ v11) :=
  ((((((((((((h.trans (grew_set _ hS _ _)).trans (grew_set _ hS _ _)).trans (grew_set _ hS _ _)).trans (grew_set _ hS _ _)).trans (grew_set _ hS _ _)).trans (grew_set _ hS _ _)).trans (grew_set _ hS _ _)).trans (grew_set _ hS _ _)).trans (grew_set _ hS _ _)).trans (grew_set _ hS _ _)).trans (grew_set _ hS _ _)).trans (grew_set _ hS _ _))

theorem last_res {w' : World} {v : Value} {base : Nat} {e : TypeId} (hm : m < l.length) (h : w'.ownsRow base e 5 v l[m].length (outCells (stN l m) l[m] l[m].length)) : ResIn (fun b => base ≤ b) w' v (lastR l (m + 1)).length (lastC l (m + 1)) (lastG l (m + 1)) := by
  rw [rowC_out] at h
  show ResIn _ w' v (l.getD m []).length (fun i => (outAt (stN l m) (l.getD m []) i).code) (fun i => (outAt (stN l m) (l.getD m []) i).regs)
  rw [getD_at hm]
  exact resIn_of_owns h

set_option maxRecDepth 100000 in
set_option maxHeartbeats 2000000 in
theorem stNext_good {v : Value} {p : List Int} (h : StAt P w S l k m) (hk : m < k) (hp : NumsAt w v p) (h300 : p.length ≤ 300) (hL : Lim w) : Calls Tryz.prog 113 #[.pointer (some ⟨S, 0, none⟩), v] w fun e w' => e = .returned (.int .i64 0) ∧ StAt (fun b => P b ∨ w.heap.size ≤ b) w' S l k (m + 1) ∧ Grew P w w' := by
  obtain ⟨C, vl, h⟩ := h
  obtain ⟨a, cap, rfl, -⟩ := id hp
  have ho := h.log.ok
  have hf := ho.few
  have hs := ho.sure
  have hml : m < l.length := by omega
  have hsu := h.sure_any
  have hrd := h.round_any hml hL
  have hgood := ho.good _ (List.getElem_mem hml)
  have hrun := fun (w' : World) (hb : Below w.heap.size w w') (u : Value) (hu : RoundAt w' u l[m]) => run_good u l[m] (stN l m) a cap p w' hu (roundF_fits hgood.1) hgood.1 (hL.later hb) (hp.later hb) h300
  have h8 := (roundF_zero.1 hgood.1).1
  have c0 := h.c0
  have c1 := h.c1
  have c1d : w.drew.cell? ⟨S, 1, none⟩ = some (.int .i64 (m : Int)) := c1
  have t0 : ¬ (k : Int) ≤ (m : Int) := by omega
  have HDone : Hid (∀ w' vn, Below w.heap.size w w' → ResIn (fun b => w.heap.size ≤ b) w' vn (lastR l (m + 1)).length (lastC l (m + 1)) (lastG l (m + 1)) → (∀ b, vn.ownBlock = some b → w.heap.size ≤ b ∧ b < w'.heap.size) → StAt (fun b => P b ∨ w.heap.size ≤ b) ((((((((((((w'.setCell ⟨S, 1, none⟩ (.int .i64 ((m : Int) + 1))).setCell ⟨S, 2, none⟩ (.int .i64 (stN l (m + 1) 0))).setCell ⟨S, 3, none⟩ (.int .i64 (stN l (m + 1) 1))).setCell ⟨S, 4, none⟩ (.int .i64 (stN l (m + 1) 2))).setCell ⟨S, 5, none⟩ (.int .i64 (stN l (m + 1) 3))).setCell ⟨S, 6, none⟩ (.int .i64 (stN l (m + 1) 4))).setCell ⟨S, 7, none⟩ (.int .i64 (stN l (m + 1) 5))).setCell ⟨S, 8, none⟩ (.int .i64 (stN l (m + 1) 6))).setCell ⟨S, 9, none⟩ (.int .i64 (stN l (m + 1) 7))).setCell ⟨S, 10, none⟩ (.int .i64 (stN l (m + 1) 8))).setCell ⟨S, 11, none⟩ (.int .i64 (stN l (m + 1) 9))).setCell ⟨S, 12, none⟩ vn) S l k (m + 1)) := fun w' vn hb hn hv => by
    have h1 := h.done hb h.log hn hv hk
    rw [show ((m + 1 : Nat) : Int) = (m : Int) + 1 by omega] at h1
    exact ⟨C, vn, h1⟩
  go_enter Tryz.func113, Tryz.ntmps113
  go_wp2_with fail
  go_cut [19] (fun c wc => c = .bool false ∧ Below w.heap.size w wc)
  case first =>
    clear hrd hrun
    go_region_with (go_at_call 87; refine (hsu _ (Below.refl _ _).drew).mono ?_; rintro e w1 ⟨rfl, hb1⟩; have d1 := cell_later hb1 c1d)
    all_goals go_wp2_with fail
    all_goals go_meet
    all_goals exact ⟨by simp; omega, (Below.refl _ _).drew.trans hb1⟩
  case rest =>
    obtain ⟨rfl, hB1⟩ := hcut
    obtain ⟨W1, e1⟩ : ∃ W1, W1 = wc := ⟨_, rfl⟩
    subst e1
    replace c0 := cell_later hB1 c0
    replace c1 := cell_later hB1 c1
    clear hsu c1d
    go_wp2_with fail
    go_cut [5, 6] (fun c c' wc => c' = .bool true ∧ RoundAt wc c l[m] ∧ Below w.heap.size w wc)
    case first =>
      go_region_with (go_at_call 84; refine (hrd _ (by first | exact hB1 | exact hB1.drew)).mono ?_; rintro e w2 ⟨⟨u, rfl, hu⟩, hb2⟩)
      all_goals go_wp2_with fail
      all_goals go_meet
      all_goals exact ⟨rfl, hu, hB1.drew.trans (hb2.mono hB1.size)⟩
    case rest =>
      obtain ⟨rfl, hu, hB2⟩ := hcut
      obtain ⟨W2, e2⟩ : ∃ W2, W2 = wc := ⟨_, rfl⟩
      subst e2
      have hru := hrun _ hB2 _ hu
      obtain ⟨ua, ucap, rfl, -⟩ := hu
      obtain ⟨z0, z1, z2, z3, z4, z5, z6, z7, z8, z9⟩ := (h.later hB2).ten
      clear hrd hrun c0 c1 hB1
      have hx : Hid (allSt (stN l m) l[m] = stN l (m + 1)) := (stN_succ hml).symm
      have hR : Hid (∀ (w' : World) (v : Value), w'.ownsRow W2.heap.size 102 5 v l[m].length (outCells (stN l m) l[m] l[m].length) → ResIn (fun b => W2.heap.size ≤ b) w' v (lastR l (m + 1)).length (lastC l (m + 1)) (lastG l (m + 1))) := fun w' v h => last_res hml h
      have hpS := h.pS
      have hlt := h.lt
      have e1 : Hid (w.heap.size ≤ W2.heap.size) := hB2.size
      have c1 := (h.later hB2).c1
      have c12 := (h.later hB2).c12
      have fr := (h.later hB2).fr
      simp only [stV] at hru
      rw [hx.out] at hru
      generalize stN l m = s0 at *
      generalize stN l (m + 1) = s1 at *
      generalize outCells s0 l[m] l[m].length = oc at *
      clear h hp hgood ho hx hL
      go_wp2_with fail
      refine hru.mono ?_
      clear hru
      rintro e w3 ⟨G, rfl, hO, hb3⟩
      have hB3 : Below w.heap.size w w3 := hB2.trans (hb3.mono hB2.size)
      have HRes : Hid (ResIn (fun b => W2.heap.size ≤ b) w3 (.slice (some ⟨G, 0, none⟩) l[m].length l[m].length) (lastR l (m + 1)).length (lastC l (m + 1)) (lastG l (m + 1))) := hR.out _ _ hO
      have hG := owns_lt hO (g := G) rfl
      replace z0 := cell_later hb3 z0
      replace z1 := cell_later hb3 z1
      replace z2 := cell_later hb3 z2
      replace z3 := cell_later hb3 z3
      replace z4 := cell_later hb3 z4
      replace z5 := cell_later hb3 z5
      replace z6 := cell_later hb3 z6
      replace z7 := cell_later hb3 z7
      replace z8 := cell_later hb3 z8
      replace z9 := cell_later hb3 z9
      replace c1 := cell_later hb3 c1
      replace c12 := cell_later hb3 c12
      have hS2 : S < W2.heap.size := Nat.lt_of_lt_of_le hlt e1.out
      have hS3 : S < w3.heap.size := Nat.lt_of_lt_of_le hlt hB3.size
      replace fr : ∀ o, w3.frozen? ⟨S, o, none⟩ = false := fun o => by rw [hb3.frozen (p := ⟨S, o, none⟩) hS2]; exact fr o
      clear hO hR hb3
      go_wp2_with fail
      obtain ⟨W3, e3⟩ : ∃ W3, W3 = w3.alloc (.cells #[.int .i64 (s1 0), .int .i64 (s1 1), .int .i64 (s1 2), .int .i64 (s1 3), .int .i64 (s1 4), .int .i64 (s1 5), .int .i64 (s1 6), .int .i64 (s1 7), .int .i64 (s1 8), .int .i64 (s1 9)] 32) := ⟨_, rfl⟩
      have hb4 : Below w3.heap.size w3 W3 := by rw [e3]; exact (Below.refl _ _).alloc (Nat.le_refl _) _
      have y0 : W3.cell? ⟨w3.heap.size, 0, none⟩ = some (.int .i64 (s1 0)) := by rw [e3]; go_simp
      have y1 : W3.cell? ⟨w3.heap.size, 1, none⟩ = some (.int .i64 (s1 1)) := by rw [e3]; go_simp
      have y2 : W3.cell? ⟨w3.heap.size, 2, none⟩ = some (.int .i64 (s1 2)) := by rw [e3]; go_simp
      have y3 : W3.cell? ⟨w3.heap.size, 3, none⟩ = some (.int .i64 (s1 3)) := by rw [e3]; go_simp
      have y4 : W3.cell? ⟨w3.heap.size, 4, none⟩ = some (.int .i64 (s1 4)) := by rw [e3]; go_simp
      have y5 : W3.cell? ⟨w3.heap.size, 5, none⟩ = some (.int .i64 (s1 5)) := by rw [e3]; go_simp
      have y6 : W3.cell? ⟨w3.heap.size, 6, none⟩ = some (.int .i64 (s1 6)) := by rw [e3]; go_simp
      have y7 : W3.cell? ⟨w3.heap.size, 7, none⟩ = some (.int .i64 (s1 7)) := by rw [e3]; go_simp
      have y8 : W3.cell? ⟨w3.heap.size, 8, none⟩ = some (.int .i64 (s1 8)) := by rw [e3]; go_simp
      have y9 : W3.cell? ⟨w3.heap.size, 9, none⟩ = some (.int .i64 (s1 9)) := by rw [e3]; go_simp
      replace z0 := cell_later hb4 z0
      replace z1 := cell_later hb4 z1
      replace z2 := cell_later hb4 z2
      replace z3 := cell_later hb4 z3
      replace z4 := cell_later hb4 z4
      replace z5 := cell_later hb4 z5
      replace z6 := cell_later hb4 z6
      replace z7 := cell_later hb4 z7
      replace z8 := cell_later hb4 z8
      replace z9 := cell_later hb4 z9
      replace c1 := cell_later hb4 c1
      replace c12 := cell_later hb4 c12
      replace fr : ∀ o, W3.frozen? ⟨S, o, none⟩ = false := fun o => by rw [hb4.frozen (p := ⟨S, o, none⟩) hS3]; exact fr o
      have hB4 : Below w.heap.size w W3 := hB3.trans (hb4.mono hB3.size)
      have HR4 : Hid (ResIn (fun b => W2.heap.size ≤ b) W3 (.slice (some ⟨G, 0, none⟩) l[m].length l[m].length) (lastR l (m + 1)).length (lastC l (m + 1)) (lastG l (m + 1))) := HRes.out.later hb4
      have hG4 : G < W3.heap.size := Nat.lt_of_lt_of_le hG.2 hb4.size
      have hn3 : ¬ S = w3.heap.size := by omega
      have hfin := HDone.out W3 _ hB4 (HR4.out.mono fun b _ _ hb => Nat.le_trans e1.out hb) (fun b e => by cases e; exact ⟨Nat.le_trans e1.out hG.1, hG4⟩)
      have HF : Hid _ := hfin
      rw [← e3]
      clear e3 hfin HRes HDone hb4 hB3 hB2 HR4 hG hG4
      generalize l[m].length = n8 at *
      go_region
      all_goals go_wp2_with fail
      all_goals go_ret
      all_goals exact ⟨rfl, StAt.later HF.out (Below.refl _ _).drew, (grew_twelve (Grew.of_below hB4) hpS _ _ _ _ _ _ _ _ _ _ _ _).drew⟩

set_option maxRecDepth 100000 in
set_option maxHeartbeats 2000000 in
theorem stNext_many {a : Option Addr} {cap n : Nat} (h : StAt P w S l k m) (hk : m < k) (h300 : 300 < n) (hL : Lim w) : Calls Tryz.prog 113 #[.pointer (some ⟨S, 0, none⟩), .slice a n cap] w fun e w' => e = .returned (.int .i64 4) ∧ Below w.heap.size w w' := by
  obtain ⟨C, vl, h⟩ := h
  have ho := h.log.ok
  have hf := ho.few
  have hs := ho.sure
  have hml : m < l.length := by omega
  have hsu := h.sure_any
  have hrd := h.round_any hml hL
  have hgood := ho.good _ (List.getElem_mem hml)
  have hrun := fun (w' : World) (hb : Below w.heap.size w w') (u : Value) (hu : RoundAt w' u l[m]) => run_many u l[m] (stN l m) a cap n w' hu (roundF_fits hgood.1) hgood.1 (hL.later hb) h300
  have c0 := h.c0
  have c1 := h.c1
  have c1d : w.drew.cell? ⟨S, 1, none⟩ = some (.int .i64 (m : Int)) := c1
  have t0 : ¬ (k : Int) ≤ (m : Int) := by omega
  go_enter Tryz.func113, Tryz.ntmps113
  go_wp2_with fail
  go_cut [19] (fun c wc => c = .bool false ∧ Below w.heap.size w wc)
  case first =>
    clear hrd hrun
    go_region_with (go_at_call 87; refine (hsu _ (Below.refl _ _).drew).mono ?_; rintro e w1 ⟨rfl, hb1⟩; have d1 := cell_later hb1 c1d)
    all_goals go_wp2_with fail
    all_goals go_meet
    all_goals exact ⟨by simp; omega, (Below.refl _ _).drew.trans hb1⟩
  case rest =>
    obtain ⟨rfl, hB1⟩ := hcut
    obtain ⟨W1, e1⟩ : ∃ W1, W1 = wc := ⟨_, rfl⟩
    subst e1
    replace c0 := cell_later hB1 c0
    replace c1 := cell_later hB1 c1
    clear hsu c1d
    go_wp2_with fail
    go_cut [5, 6] (fun c c' wc => c' = .bool true ∧ RoundAt wc c l[m] ∧ Below w.heap.size w wc)
    case first =>
      go_region_with (go_at_call 84; refine (hrd _ (by first | exact hB1 | exact hB1.drew)).mono ?_; rintro e w2 ⟨⟨u, rfl, hu⟩, hb2⟩)
      all_goals go_wp2_with fail
      all_goals go_meet
      all_goals exact ⟨rfl, hu, hB1.drew.trans (hb2.mono hB1.size)⟩
    case rest =>
      obtain ⟨rfl, hu, hB2⟩ := hcut
      obtain ⟨W2, e2⟩ : ∃ W2, W2 = wc := ⟨_, rfl⟩
      subst e2
      have hru := hrun _ hB2 _ hu
      obtain ⟨ua, ucap, rfl, -⟩ := hu
      obtain ⟨z0, z1, z2, z3, z4, z5, z6, z7, z8, z9⟩ := (h.later hB2).ten
      clear hrd hrun c0 c1 hB1 h hgood ho hL
      simp only [stV] at hru
      generalize stN l m = s0 at *
      go_wp2_with fail
      refine hru.mono ?_
      clear hru
      rintro e w3 ⟨rfl, hb3⟩
      have hB3 : Below w.heap.size w w3 := hB2.trans (hb3.mono hB2.size)
      clear z0 z1 z2 z3 z4 z5 z6 z7 z8 z9 hb3
      go_wp2_with fail
      go_ret
      exact ⟨rfl, hB3.alloc hB3.size _⟩

theorem stNext_any {v : Value} {p : List Int} (h : StAt P w S l k m) (hp : NumsAt w v p) (hL : Lim w) : Calls Tryz.prog 113 #[.pointer (some ⟨S, 0, none⟩), v] w fun e w' => nextOut P w w' S e l k m p.length := by
  unfold nextOut
  by_cases h1 : k ≤ m
  · obtain ⟨a, cap, rfl, -⟩ := hp
    refine (stNext_none h h1).mono ?_
    rintro e w' hO
    rw [if_pos h1]; exact hO
  · by_cases h2 : 300 < p.length
    · obtain ⟨a, cap, rfl, -⟩ := hp
      refine (stNext_many h (by omega) h2 hL).mono ?_
      rintro e w' hO
      rw [if_neg h1, if_pos h2]; exact hO
    · refine (stNext_good h (by omega) hp (by omega) hL).mono ?_
      rintro e w' hO
      rw [if_neg h1, if_neg h2]; exact hO
end
end Go.Proofs.YtehkjbpgibdgpadGreatDoor
