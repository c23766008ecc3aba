/-
  The walk of the reference's log's Crash.
-/
import Derived.Test.YtokjigebjcgdjacDoorScrA
import Derived.Test.YtokjigebjcgdjacDoorRegG
namespace Go.Proofs.YtokjigebjcgdjacDoor
open Go.RowKit

theorem sizeR (w : World) : (sizeOf (Tryd.prog.elem 37)).run Tryd.prog w = .ok 1 w := by kernel_rfl
theorem slR : Tryd.prog.underlying 37 = some (.slice (Tryd.prog.elem 37)) := by kernel_rfl

theorem cutR_to (a : Option Addr) {m cap n : Nat} (h : n ≤ m) (hm : m ≤ cap) (w : World) : (Instr.slice 37 (.slice a m cap) none (some (.int .i64 (n : Int))) (some (.int .i64 (n : Int)))).run Tryd.prog w = .ok (.slice a n n) w := by
  rw [run_slice_hm w _ _ _ _ slR .i64 .i64 (n : Int) (n : Int) (by omega) (Int.le_refl _) (by omega), sizeR]
  simp only [Result.andThen_ok, Int.toNat_natCast, sliced_zero]

section
variable {Q : Nat → Prop} {w : World} {D : Nat} {l : List (List (List Op5))} {k : Nat}

theorem whole_stop {l : List (List (List Op5))} {k n : Nat} {m : Int} (hn : n ≤ wholeF l k m) (h : ¬ (n < l.length ∧ (endB l (n + 1) : Int) - (endB l k : Int) ≤ m)) : n = wholeF l k m := by
  have h1 := whole_le l k m
  by_cases e : n < l.length
  · have h2 := whole_iff (l := l) (k := k) (m := m) e
    by_cases e' : (endB l (n + 1) : Int) - (endB l k : Int) ≤ m
    · exact absurd ⟨e, e'⟩ h
    · have : ¬ n < wholeF l k m := fun e'' => e' (h2.2 e'')
      omega
  · omega

set_option maxRecDepth 100000 in
set_option maxHeartbeats 20000000 in
theorem scCrash_neg (h : ScAt Q w D l k) (keep : Int) (hk0 : keep < 0) :
    Calls Tryd.prog 34 #[.pointer (some ⟨D, 0, none⟩), .int .i64 keep] w fun e w' => e = .returned (.tuple #[]) ∧ ScAt Q w' D (l.take (wholeF l k (max keep 0))) (wholeF l k (max keep 0)) ∧ Grew Q w w' := by
  have ho := h.ok
  have hf := ho.few
  have hs := ho.short
  have hke := ho.sure
  obtain ⟨vl, xs, hS⟩ := h.2
  obtain ⟨la, lcap, rfl, hlcap⟩ := hS.row.slice
  have c0 := hS.c0
  have c1 := hS.c1
  rw [hS.len] at c0
  have hwk := whole_ge (l := l) (k := k) (m := max keep 0) hke (Int.le_max_right _ _)
  have hmx : max keep 0 = 0 := Int.max_eq_right (by omega)
  rw [hmx] at hwk ⊢
  clear hmx
  go_enter Tryd.func34, Tryd.ntmps34
  go_wp2_with fail
  go_loopg [4] (l.length - k) (fun g n wr => ∃ j : Nat, k ≤ j ∧ j ≤ wholeF l k 0 ∧ g = l.length - j ∧ n = .int .i64 (j : Int) ∧ Below w.heap.size w wr)
  case atStart => exact ⟨k, Nat.le_refl _, hwk, rfl, rfl, Below.refl _ _⟩
  case round =>
    obtain ⟨j, hkj, hjw, hg, rfl, hB⟩ := hrel
    have hle := whole_le l k 0
    have hSr := hS.later hB
    have d0 := cell_later hB c0
    have d1 := cell_later hB c1
    have hby : ∀ n, n ≤ l.length → ∀ w', Below wr.heap.size wr w' → Calls Tryd.prog 22 #[.pointer (some ⟨D, 0, none⟩), .int .i64 (n : Int)] w' fun e w2 => (∃ ua ucap, e = .returned (.slice ua (endB l n) ucap)) ∧ Below w'.heap.size w' w2 := fun n hn w' hb => by
      refine (scBytes_any ((h.later hB).later hb) hn).mono ?_
      rintro e w2 ⟨⟨u, rfl, hU⟩, hb2⟩
      obtain ⟨ua, ucap, rfl, -⟩ := hU
      exact ⟨⟨ua, ucap, rfl⟩, hb2⟩
    have HE : Hid (∀ w2 : World, w2.cell? ⟨D, 0, none⟩ = some (.slice la l.length lcap) → w2.cell? ⟨D, 1, none⟩ = some (.int .i64 (k : Int)) → j = wholeF l k 0 → Below wr.heap.size wr w2 → (∀ o, w2.frozen? ⟨D, o, none⟩ = false) ∧ ScAt Q ((w2.setCell ⟨D, 0, none⟩ (.slice la j j)).setCell ⟨D, 1, none⟩ (.int .i64 (j : Int))) D (l.take (wholeF l k 0)) (wholeF l k 0) ∧ Grew Q w ((w2.setCell ⟨D, 0, none⟩ (.slice la j j)).setCell ⟨D, 1, none⟩ (.int .i64 (j : Int)))) := fun w2 e0 e1 ej hb => by
      have h2 := hSr.later hb
      have hl2 := hS.len
      rw [hl2] at h2
      refine ⟨h2.fr, ⟨ho.cut hle, .slice la j j, xs.take j, ?_⟩, ?_⟩
      · rw [← ej]
        exact (h2.cut (by omega)).sure (j : Int)
      · exact ((Grew.of_below hB).trans (Grew.of_below hb)).trans ((grew_set w2 h2.qD _ _).trans (grew_set _ h2.qD _ _))
    have hcR := cutR_to la (m := l.length) (cap := lcap) (n := j) (by omega) (by rw [← hS.len]; exact hlcap)
    have HSt : Hid (¬ (j < l.length ∧ (endB l (j + 1) : Int) - (endB l k : Int) ≤ 0) → j = wholeF l k 0) := fun hh => whole_stop hjw hh
    by_cases hlt : j < l.length
    · have tl : (j : Int) < (l.length : Int) := by omega
      have e1 := endB_le (l := l) (i := j + 1) (by omega)
      have e2 := endB_le (l := l) (i := k) hke
      have hc1 : ∀ w', Below wr.heap.size wr w' → Calls Tryd.prog 22 #[.pointer (some ⟨D, 0, none⟩), .int .i64 ((j : Int) + 1)] w' fun e w2 => (∃ ua ucap, e = .returned (.slice ua (endB l (j + 1)) ucap)) ∧ Below w'.heap.size w' w2 := fun w' hb => hby (j + 1) (by omega) w' hb
      have hc2 := fun w' hb => hby k hke w' hb
      have HKP : Hid (∀ w', Below wr.heap.size wr w' → Below wr.heap.size wr w' ∧ w'.cell? ⟨D, 0, none⟩ = some (.slice la l.length lcap) ∧ w'.cell? ⟨D, 1, none⟩ = some (.int .i64 (k : Int))) := fun w' hb => ⟨hb, cell_later hb d0, cell_later hb d1⟩
      have hiff := whole_iff (l := l) (k := k) (m := 0) hlt
      have HB : Hid (Below w.heap.size w wr) := hB
      clear hby hSr hB
      have HIF : Hid ((endB l (j + 1) : Int) - (endB l k : Int) ≤ 0 ↔ j < wholeF l k 0) := hiff
      clear hiff h hS ho
      generalize endB l (j + 1) = E1 at *
      generalize endB l k = E2 at *
      have ew1 : IntKind.i64.wrap ((j : Int) + 1) = (j : Int) + 1 := by rw [IntKind.wrap_i64]; omega
      have ew2 : IntKind.i64.wrap ((E1 : Int) - (E2 : Int)) = (E1 : Int) - (E2 : Int) := by rw [IntKind.wrap_i64]; omega
      obtain ⟨cb, ecb⟩ : ∃ cb, decide ((E1 : Int) - (E2 : Int) ≤ 0) = cb := ⟨_, rfl⟩
      go_wp2_with fail
      refine wp_region_till (S := fun w' => Below wr.heap.size wr w' ∧ w'.cell? ⟨D, 0, none⟩ = some (.slice la l.length lcap) ∧ w'.cell? ⟨D, 1, none⟩ = some (.int .i64 (k : Int))) (fun _ => false) (by kernel_rfl) (HKP.out _ (Below.refl _ _).drew) (fun hS => ?_)
      refine anyT_take 0 [] (.int .i64 (j : Int)) rfl (by kernel_rfl) (by kernel_rfl) (by kernel_rfl) (by kernel_rfl) (by kernel_rfl) (fun _ _ _ h => h) (Or.inl ⟨by rfl, ?_⟩) (hS) ?_
      · rintro w' ⟨hb', hc0, hc1⟩
        go_simp
      simp only [List.getElem_toArray, List.getElem_cons_zero, Act.put, List.setIfInBounds_toArray, List.set_cons_zero, List.set_cons_succ]
      refine anyT_take 1 [] (.pointer (some ⟨D, 0, none⟩)) rfl (by kernel_rfl) (by kernel_rfl) (by kernel_rfl) (by kernel_rfl) (by kernel_rfl) (fun _ _ _ h => h) (Or.inl ⟨by rfl, ?_⟩) (hS) ?_
      · rintro w' ⟨hb', hc0, hc1⟩
        go_simp
      simp only [List.getElem_toArray, List.getElem_cons_zero, List.getElem_cons_succ, Act.put, List.setIfInBounds_toArray, List.set_cons_zero, List.set_cons_succ]
      refine anyT_take 2 [] (.pointer (some ⟨D, 0, none⟩)) rfl (by kernel_rfl) (by kernel_rfl) (by kernel_rfl) (by kernel_rfl) (by kernel_rfl) (fun _ _ _ h => h) (Or.inl ⟨by rfl, ?_⟩) (hS) ?_
      · rintro w' ⟨hb', hc0, hc1⟩
        go_simp
      simp only [List.getElem_toArray, List.getElem_cons_zero, List.getElem_cons_succ, Act.put, List.setIfInBounds_toArray, List.set_cons_zero, List.set_cons_succ]
      refine anyT_take 3 [] (.pointer (some ⟨D, 0, none⟩)) rfl (by kernel_rfl) (by kernel_rfl) (by kernel_rfl) (by kernel_rfl) (by kernel_rfl) (fun _ _ _ h => h) (Or.inl ⟨by rfl, ?_⟩) (hS) ?_
      · rintro w' ⟨hb', hc0, hc1⟩
        go_simp
      simp only [List.getElem_toArray, List.getElem_cons_zero, List.getElem_cons_succ, Act.put, List.setIfInBounds_toArray, List.set_cons_zero, List.set_cons_succ]
      refine anyT_take 4 [] (.slice la l.length lcap) rfl (by kernel_rfl) (by kernel_rfl) (by kernel_rfl) (by kernel_rfl) (by kernel_rfl) (fun _ _ _ h => h) (Or.inl ⟨by rfl, ?_⟩) (hS) ?_
      · rintro w' ⟨hb', hc0, hc1⟩
        go_simp
      simp only [List.getElem_toArray, List.getElem_cons_zero, List.getElem_cons_succ, Act.put, List.setIfInBounds_toArray, List.set_cons_zero, List.set_cons_succ]
      refine anyT_take 5 [] (.int .i64 (l.length : Int)) rfl (by kernel_rfl) (by kernel_rfl) (by kernel_rfl) (by kernel_rfl) (by kernel_rfl) (fun _ _ _ h => h) (Or.inl ⟨by rfl, ?_⟩) (hS) ?_
      · rintro w' ⟨hb', hc0, hc1⟩
        go_simp
      simp only [List.getElem_toArray, List.getElem_cons_zero, List.getElem_cons_succ, Act.put, List.setIfInBounds_toArray, List.set_cons_zero, List.set_cons_succ]
      refine anyT_take 6 [] (.bool true) rfl (by kernel_rfl) (by kernel_rfl) (by kernel_rfl) (by kernel_rfl) (by kernel_rfl) (fun _ _ _ h => h) (Or.inl ⟨by rfl, ?_⟩) (hS) ?_
      · rintro w' ⟨hb', hc0, hc1⟩
        go_simp
      simp only [List.getElem_toArray, List.getElem_cons_zero, List.getElem_cons_succ, Act.put, List.setIfInBounds_toArray, List.set_cons_zero, List.set_cons_succ]
      refine anyT_take 7 [] (.bool true) rfl (by kernel_rfl) (by kernel_rfl) (by kernel_rfl) (by kernel_rfl) (by kernel_rfl) (fun _ _ _ h => h) (Or.inl ⟨by rfl, ?_⟩) (hS) ?_
      · rintro w' ⟨hb', hc0, hc1⟩
        go_simp
      simp only [List.getElem_toArray, List.getElem_cons_zero, List.getElem_cons_succ, Act.put, List.setIfInBounds_toArray, List.set_cons_zero, List.set_cons_succ]
      refine anyT_take 8 [] (.pointer (some ⟨D, 0, none⟩)) rfl (by kernel_rfl) (by kernel_rfl) (by kernel_rfl) (by kernel_rfl) (by kernel_rfl) (fun _ _ _ h => h) (Or.inl ⟨by rfl, ?_⟩) (hS) ?_
      · rintro w' ⟨hb', hc0, hc1⟩
        go_simp
      simp only [List.getElem_toArray, List.getElem_cons_zero, List.getElem_cons_succ, Act.put, List.setIfInBounds_toArray, List.set_cons_zero, List.set_cons_succ]
      refine anyT_take 9 [] (.int .i64 (j : Int)) rfl (by kernel_rfl) (by kernel_rfl) (by kernel_rfl) (by kernel_rfl) (by kernel_rfl) (fun _ _ _ h => h) (Or.inl ⟨by rfl, ?_⟩) (hS) ?_
      · rintro w' ⟨hb', hc0, hc1⟩
        go_simp
      simp only [List.getElem_toArray, List.getElem_cons_zero, List.getElem_cons_succ, Act.put, List.setIfInBounds_toArray, List.set_cons_zero, List.set_cons_succ]
      refine anyT_take 10 [] (.int .i64 ((j : Int) + 1)) rfl (by kernel_rfl) (by kernel_rfl) (by kernel_rfl) (by kernel_rfl) (by kernel_rfl) (fun _ _ _ h => h) (Or.inl ⟨by rfl, ?_⟩) (hS) ?_
      · rintro w' ⟨hb', hc0, hc1⟩
        go_simp
      simp only [List.getElem_toArray, List.getElem_cons_zero, List.getElem_cons_succ, Act.put, List.setIfInBounds_toArray, List.set_cons_zero, List.set_cons_succ]
      refine anyT_take 13 [] (.pointer (some ⟨D, 0, none⟩)) rfl (by kernel_rfl) (by kernel_rfl) (by kernel_rfl) (by kernel_rfl) (by kernel_rfl) (fun _ _ _ h => h) (Or.inl ⟨by rfl, ?_⟩) (hS) ?_
      · rintro w' ⟨hb', hc0, hc1⟩
        go_simp
      simp only [List.getElem_toArray, List.getElem_cons_zero, List.getElem_cons_succ, Act.put, List.setIfInBounds_toArray, List.set_cons_zero, List.set_cons_succ]
      refine anyT_take 14 [] (.pointer (some ⟨D, 0, none⟩)) rfl (by kernel_rfl) (by kernel_rfl) (by kernel_rfl) (by kernel_rfl) (by kernel_rfl) (fun _ _ _ h => h) (Or.inl ⟨by rfl, ?_⟩) (hS) ?_
      · rintro w' ⟨hb', hc0, hc1⟩
        go_simp
      simp only [List.getElem_toArray, List.getElem_cons_zero, List.getElem_cons_succ, Act.put, List.setIfInBounds_toArray, List.set_cons_zero, List.set_cons_succ]
      refine anyT_take 15 [] (.pointer (some ⟨D, 0, none⟩)) rfl (by kernel_rfl) (by kernel_rfl) (by kernel_rfl) (by kernel_rfl) (by kernel_rfl) (fun _ _ _ h => h) (Or.inl ⟨by rfl, ?_⟩) (hS) ?_
      · rintro w' ⟨hb', hc0, hc1⟩
        go_simp
      simp only [List.getElem_toArray, List.getElem_cons_zero, List.getElem_cons_succ, Act.put, List.setIfInBounds_toArray, List.set_cons_zero, List.set_cons_succ]
      refine anyT_take 16 [] (.pointer (some ⟨D, 1, none⟩)) rfl (by kernel_rfl) (by kernel_rfl) (by kernel_rfl) (by kernel_rfl) (by kernel_rfl) (fun _ _ _ h => h) (Or.inl ⟨by rfl, ?_⟩) (hS) ?_
      · rintro w' ⟨hb', hc0, hc1⟩
        go_simp
      simp only [List.getElem_toArray, List.getElem_cons_zero, List.getElem_cons_succ, Act.put, List.setIfInBounds_toArray, List.set_cons_zero, List.set_cons_succ]
      refine anyT_take 17 [] (.int .i64 (k : Int)) rfl (by kernel_rfl) (by kernel_rfl) (by kernel_rfl) (by kernel_rfl) (by kernel_rfl) (fun _ _ _ h => h) (Or.inl ⟨by rfl, ?_⟩) (hS) ?_
      · rintro w' ⟨hb', hc0, hc1⟩
        go_simp
      simp only [List.getElem_toArray, List.getElem_cons_zero, List.getElem_cons_succ, Act.put, List.setIfInBounds_toArray, List.set_cons_zero, List.set_cons_succ]
      refine anyT_take 21 [] (.int .i64 (0)) rfl (by kernel_rfl) (by kernel_rfl) (by kernel_rfl) (by kernel_rfl) (by kernel_rfl) (fun _ _ _ h => h) (Or.inl ⟨by rfl, ?_⟩) (hS) ?_
      · rintro w' ⟨hb', hc0, hc1⟩
        go_simp
      simp only [List.getElem_toArray, List.getElem_cons_zero, List.getElem_cons_succ, Act.put, List.setIfInBounds_toArray, List.set_cons_zero, List.set_cons_succ]
      refine anyT_ready [11] (by kernel_rfl) (by simp) ?_
      refine EachT.cons rfl (fun K hK => ?_) EachT.nil
      simp only [List.getElem_toArray, List.getElem_cons_zero, List.getElem_cons_succ]
      go_simp
      refine (hc1 _ (Below.refl _ _).drew).mono ?_
      rintro e w1 ⟨⟨xa, xc, rfl⟩, hb1'⟩
      have hb1 : Below wr.heap.size wr w1 := (Below.refl _ _).drew.trans hb1'
      (try go_wp2_with fail)
      refine hK.out _ _ (fun _ => HKP.out _ hb1) ?_
      clear hK K
      refine anyT_take 12 [] (.int .i64 (E1 : Int)) rfl (by kernel_rfl) (by kernel_rfl) (by kernel_rfl) (by kernel_rfl) (by kernel_rfl) (fun _ _ _ h => h) (Or.inl ⟨by rfl, ?_⟩) (HKP.out _ hb1) ?_
      · rintro w' ⟨hb', hc0, hc1⟩
        go_simp
      simp only [List.getElem_toArray, List.getElem_cons_zero, List.getElem_cons_succ, Act.put, List.setIfInBounds_toArray, List.set_cons_zero, List.set_cons_succ]
      refine anyT_ready [18] (by kernel_rfl) (by simp) ?_
      refine EachT.cons rfl (fun K hK => ?_) EachT.nil
      simp only [List.getElem_toArray, List.getElem_cons_zero, List.getElem_cons_succ]
      go_simp
      refine (hc2 _ hb1).mono ?_
      rintro e w2 ⟨⟨ya, yc, rfl⟩, hb2'⟩
      have hb2 : Below wr.heap.size wr w2 := hb1.trans (hb2'.mono hb1.size)
      (try go_wp2_with fail)
      refine hK.out _ _ (fun _ => HKP.out _ hb2) ?_
      clear hK K
      refine anyT_take 19 [] (.int .i64 (E2 : Int)) rfl (by kernel_rfl) (by kernel_rfl) (by kernel_rfl) (by kernel_rfl) (by kernel_rfl) (fun _ _ _ h => h) (Or.inl ⟨by rfl, ?_⟩) (HKP.out _ hb2) ?_
      · rintro w' ⟨hb', hc0, hc1⟩
        go_simp
      simp only [List.getElem_toArray, List.getElem_cons_zero, List.getElem_cons_succ, Act.put, List.setIfInBounds_toArray, List.set_cons_zero, List.set_cons_succ]
      refine anyT_take 20 [] (.int .i64 ((E1 : Int) - (E2 : Int))) rfl (by kernel_rfl) (by kernel_rfl) (by kernel_rfl) (by kernel_rfl) (by kernel_rfl) (fun _ _ _ h => h) (Or.inl ⟨by rfl, ?_⟩) (HKP.out _ hb2) ?_
      · rintro w' ⟨hb', hc0, hc1⟩
        go_simp
      simp only [List.getElem_toArray, List.getElem_cons_zero, List.getElem_cons_succ, Act.put, List.setIfInBounds_toArray, List.set_cons_zero, List.set_cons_succ]
      refine anyT_take 22 [] (.bool cb) rfl (by kernel_rfl) (by kernel_rfl) (by kernel_rfl) (by kernel_rfl) (by kernel_rfl) (fun _ _ _ h => h) (Or.inl ⟨by rfl, ?_⟩) (HKP.out _ hb2) ?_
      · rintro w' ⟨hb', hc0, hc1⟩
        go_simp
      simp only [List.getElem_toArray, List.getElem_cons_zero, List.getElem_cons_succ, Act.put, List.setIfInBounds_toArray, List.set_cons_zero, List.set_cons_succ]
      refine anyT_take 23 [] (.bool cb) rfl (by kernel_rfl) (by kernel_rfl) (by kernel_rfl) (by kernel_rfl) (by kernel_rfl) (fun _ _ _ h => h) (Or.inl ⟨by rfl, ?_⟩) (HKP.out _ hb2) ?_
      · rintro w' ⟨hb', hc0, hc1⟩
        go_simp
      simp only [List.getElem_toArray, List.getElem_cons_zero, List.getElem_cons_succ, Act.put, List.setIfInBounds_toArray, List.set_cons_zero, List.set_cons_succ]
      refine anyT_done (by kernel_rfl) ?_
      have hB2 : Below w.heap.size w w2 := HB.out.trans (hb2.mono HB.out.size)
      have HT := HE.out w2 (HKP.out _ hb2).2.1 (HKP.out _ hb2).2.2
      have g0 := (HKP.out _ hb2).2.1
      have g1 := (HKP.out _ hb2).2.2
      clear HKP hc1 hc2 HE
      cases cb with
      | true =>
        have hjn := HIF.out.1 (of_decide_eq_true ecb)
        clear HIF HSt HT g0 g1 hcR ecb
        go_wp2_with fail
        go_roundg (l.length - k - (j + 1 - k))
        case measure => omega
        case rel => exact ⟨j + 1, by omega, by omega, by omega, by go_num, hB2⟩
      | false =>
        obtain ⟨f0, hSc, hGr⟩ := HT (HSt.out fun hh => of_decide_eq_false ecb hh.2) hb2
        clear HIF HSt HT ecb
        go_wp2_with fail
        go_end0
        exact ⟨rfl, hSc, hGr⟩
    · have HT := HE.out wr.drew d0 d1 (HSt.out (fun hh => hlt hh.1)) (Below.refl _ _).drew
      obtain ⟨f0', hSc, hGr⟩ := HT
      have f0 : ∀ o, wr.frozen? ⟨D, o, none⟩ = false := f0'
      clear f0'
      have tl : ¬ ((j : Int) < (l.length : Int)) := by omega
      clear HE HSt hby hSr h hS ho
      go_wp2_with fail
      go_region
      all_goals go_wp2_with fail
      all_goals go_end0
      all_goals exact ⟨rfl, hSc, hGr⟩
end
end Go.Proofs.YtokjigebjcgdjacDoor
