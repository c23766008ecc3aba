/-
  The walk of the law WorkerDoes.
-/
import Derived.Test.YthlhbmldfjkagaaDoorJoinW
import Derived.Test.YthlhbmldfjkagaaDoorMathR
import Derived.Test.YthlhbmldfjkagaaDoorEqA
import Derived.Deep.RegionHeld3
namespace Go.Proofs.YthlhbmldfjkagaaDoor
open Go.RowKit Go.Shelf

theorem InOrder.knownW {s : Nat → Int} {r : List (List Op5)} {X : Nat → Wk} {T : Nat → List Slot4} (h : InOrder s r X T) : ∀ k, k < 10 → lastF knownP (T k) ≠ none := fun k hk e => by
  rw [lastF_none, h.tab k hk] at e
  have := e ⟨-1, false, false, s k⟩ (by simp [tabF, slotsW])
  simp [knownP] at this

set_option maxRecDepth 100000 in
set_option maxHeartbeats 12000000 in
theorem does_law (v : Value) (r : List (List Op5)) (s : Nat → Int) (a : Option Addr) (cap : Nat) (l : List Int) (w : World) (hr : RoundAt w v r) (hf : Fits r) (hl : NumsAt w (.slice a l.length cap) l) (hmax : l.length ≤ 9223372036854775807) (by' : Int) (hL : Lim w) :
    Calls Tryd.prog 12 #[stV s, v, .slice a l.length cap, .int .i64 by'] w fun e w' => e = .returned (.bool true) ∧ Below w.heap.size w w' := by
  show Calls Tryd.prog 12 #[.agg #[.int .i64 (s 0), .int .i64 (s 1), .int .i64 (s 2), .int .i64 (s 3), .int .i64 (s 4), .int .i64 (s 5), .int .i64 (s 6), .int .i64 (s 7), .int .i64 (s 8), .int .i64 (s 9)], _, _, _] w _
  have hB0 : Below w.heap.size w (w.alloc (.cells #[.int .i64 (s 0), .int .i64 (s 1), .int .i64 (s 2), .int .i64 (s 3), .int .i64 (s 4), .int .i64 (s 5), .int .i64 (s 6), .int .i64 (s 7), .int .i64 (s 8), .int .i64 (s 9)] 38)) := (Below.refl _ _).alloc (Nat.le_refl _) _
  have hX0 := box_new w s
  obtain ⟨a', cap', e1, hcell⟩ := hl
  cases e1
  have HR := hr
  obtain ⟨ra, rcap, rfl, hr0⟩ := hr
  have hrm := hf.1
  go_enter Tryd.func12, Tryd.ntmps12
  go_wp2_with fail
  refine (begunW_any _ (hL.later hB0)).mono ?_
  rintro e w1 ⟨rfl, hb1⟩
  have hB1 : Below w.heap.size w w1 := hB0.trans (hb1.mono (by simp))
  have hX1 := hX0.later hb1
  clear hB0 hb1 hX0
  go_wp2_with fail
  refine (great_any _ r _ (HR.later hB1) hf).mono ?_
  rintro e w2 ⟨⟨g, rfl⟩, rfl⟩
  cases g
  · by_cases hp : 500 < l.length
    · have hpi : (500 : Int) < (l.length : Int) := by omega
      go_wp2_with fail
      go_ret
      exact ⟨rfl, hB1⟩
    · have hpi : ¬ (500 : Int) < (l.length : Int) := by omega
      go_wp2_with fail
      go_loopg [9] r.length (fun g i wr => ∃ j : Nat, j ≤ r.length ∧ g = r.length - j ∧ i = .int .i64 j ∧ Below w2.heap.size w2 wr)
      case atStart => exact ⟨0, by omega, by omega, rfl, Below.refl _ _⟩
      case round =>
        obtain ⟨j, hj, hg, rfl, hBl⟩ := hrel
        have hBw : Below w.heap.size w wr := hB1.trans (hBl.mono hB1.size)
        by_cases hlt : j < r.length
        · obtain ⟨b, off, rfl, dv, c0, hD⟩ := hr0 j hlt
          replace c0 := cell_later hBw c0
          replace hD := hD.later hBw
          have hji : (j : Int) < (r.length : Int) := by omega
          have HKP : Hid (∀ w', Below wr.heap.size wr w' → Below wr.heap.size wr w' ∧ w'.cell? ⟨b, off + j, none⟩ = some dv) := fun w' hb => ⟨hb, cell_later hb c0⟩
          by_cases hc0 : (checkF r[j]).1 = 0
          · have HDF : Hid (∀ w', Below wr.heap.size wr w' → Calls Tryd.prog 22 #[dv] w' fun e w'' => e = .returned (.agg #[.int .i64 0, .int .i64 0]) ∧ Below wr.heap.size wr w'') := fun w' hb => by
              refine (deed_zero dv r[j] w' (hD.later hb) hc0).mono ?_
              rintro e w'' ⟨he, hb'⟩
              exact ⟨he, hb.trans (hb'.mono hb.size)⟩
            by_cases hb0 : by' < 0
            · have hb0' : ¬ 0 ≤ by' := by omega
              have HWN : Hid (∀ w', Below wr.heap.size wr w' → Calls Tryd.prog 48 #[dv, .int .i64 by'] w' fun e w'' => e = .returned (.pointer none) ∧ Below wr.heap.size wr w'') := fun w' hb => by
                refine (worker_none dv r[j] by' w' (hD.later hb) (hf.2 j hlt) (hL.later (hBw.trans (hb.mono hBw.size))) (.inr (.inl hb0))).mono ?_
                rintro e w'' ⟨he, hb'⟩
                exact ⟨he, hb.trans (hb'.mono hb.size)⟩
              clear hr0 hD hc0 hX1 c0
              go_wp2_with fail
              refine wp_region_till (S := fun w' => Below wr.heap.size wr w' ∧ w'.cell? ⟨b, off + j, none⟩ = some dv) (fun _ => false) (by kernel_rfl) (HKP.out _ (Below.refl _ _).drew) (fun hS => ?_)
              refine anyT_take 0 [] (.slice (some ⟨b, off, none⟩) r.length rcap) rfl (by kernel_rfl) (by kernel_rfl) (by kernel_rfl) (by kernel_rfl) (by kernel_rfl) (fun _ _ _ h => h) (Or.inl ⟨by rfl, ?_⟩) hS ?_
              · rintro w' ⟨hb', hc'⟩
                go_simp
              simp only [List.getElem_toArray, List.getElem_cons_zero, Act.put, List.setIfInBounds_toArray, List.set_cons_zero, List.set_cons_succ]
              refine anyT_take 1 [] (.int .i64 (j : Int)) rfl (by kernel_rfl) (by kernel_rfl) (by kernel_rfl) (by kernel_rfl) (by kernel_rfl) (fun _ _ _ h => h) (Or.inl ⟨by rfl, ?_⟩) hS ?_
              · rintro w' ⟨hb', hc'⟩
                go_simp
              simp only [List.getElem_toArray, List.getElem_cons_zero, List.getElem_cons_succ, Act.put, List.setIfInBounds_toArray, List.set_cons_zero, List.set_cons_succ]
              refine anyT_take 2 [] (.pointer (some ⟨b, off + j, none⟩)) rfl (by kernel_rfl) (by kernel_rfl) (by kernel_rfl) (by kernel_rfl) (by kernel_rfl) (fun _ _ _ h => h) (Or.inl ⟨by rfl, ?_⟩) hS ?_
              · rintro w' ⟨hb', hc'⟩
                go_simp
              simp only [List.getElem_toArray, List.getElem_cons_zero, List.getElem_cons_succ, Act.put, List.setIfInBounds_toArray, List.set_cons_zero, List.set_cons_succ]
              refine anyT_take 3 [] (dv) rfl (by kernel_rfl) (by kernel_rfl) (by kernel_rfl) (by kernel_rfl) (by kernel_rfl) (fun _ _ _ h => h) (Or.inl ⟨by rfl, ?_⟩) hS ?_
              · rintro w' ⟨hb', hc'⟩
                go_simp
              simp only [List.getElem_toArray, List.getElem_cons_zero, List.getElem_cons_succ, Act.put, List.setIfInBounds_toArray, List.set_cons_zero, List.set_cons_succ]
              refine anyT_take 4 [] (.int .i64 by') rfl (by kernel_rfl) (by kernel_rfl) (by kernel_rfl) (by kernel_rfl) (by kernel_rfl) (fun _ _ _ h => h) (Or.inl ⟨by rfl, ?_⟩) hS ?_
              · rintro w' ⟨hb', hc'⟩
                go_simp
              simp only [List.getElem_toArray, List.getElem_cons_zero, List.getElem_cons_succ, Act.put, List.setIfInBounds_toArray, List.set_cons_zero, List.set_cons_succ]
              refine anyT_take 7 [] (.slice (some ⟨b, off, none⟩) r.length rcap) rfl (by kernel_rfl) (by kernel_rfl) (by kernel_rfl) (by kernel_rfl) (by kernel_rfl) (fun _ _ _ h => h) (Or.inl ⟨by rfl, ?_⟩) hS ?_
              · rintro w' ⟨hb', hc'⟩
                go_simp
              simp only [List.getElem_toArray, List.getElem_cons_zero, List.getElem_cons_succ, Act.put, List.setIfInBounds_toArray, List.set_cons_zero, List.set_cons_succ]
              refine anyT_take 8 [] (.int .i64 (j : Int)) rfl (by kernel_rfl) (by kernel_rfl) (by kernel_rfl) (by kernel_rfl) (by kernel_rfl) (fun _ _ _ h => h) (Or.inl ⟨by rfl, ?_⟩) hS ?_
              · rintro w' ⟨hb', hc'⟩
                go_simp
              simp only [List.getElem_toArray, List.getElem_cons_zero, List.getElem_cons_succ, Act.put, List.setIfInBounds_toArray, List.set_cons_zero, List.set_cons_succ]
              refine anyT_take 9 [] (.pointer (some ⟨b, off + j, none⟩)) rfl (by kernel_rfl) (by kernel_rfl) (by kernel_rfl) (by kernel_rfl) (by kernel_rfl) (fun _ _ _ h => h) (Or.inl ⟨by rfl, ?_⟩) hS ?_
              · rintro w' ⟨hb', hc'⟩
                go_simp
              simp only [List.getElem_toArray, List.getElem_cons_zero, List.getElem_cons_succ, Act.put, List.setIfInBounds_toArray, List.set_cons_zero, List.set_cons_succ]
              refine anyT_take 10 [] (dv) rfl (by kernel_rfl) (by kernel_rfl) (by kernel_rfl) (by kernel_rfl) (by kernel_rfl) (fun _ _ _ h => h) (Or.inl ⟨by rfl, ?_⟩) hS ?_
              · rintro w' ⟨hb', hc'⟩
                go_simp
              simp only [List.getElem_toArray, List.getElem_cons_zero, List.getElem_cons_succ, Act.put, List.setIfInBounds_toArray, List.set_cons_zero, List.set_cons_succ]
              refine anyT_ready [5] (by kernel_rfl) (by simp) ?_
              refine EachT.cons rfl (fun K hK => ?_) EachT.nil
              simp only [List.getElem_toArray, List.getElem_cons_zero, List.getElem_cons_succ]
              go_simp
              refine (HWN.out _ ((Below.refl _ _).drew)).mono ?_
              rintro e w4 ⟨rfl, hb4⟩
              (try go_wp2_with fail)
              refine hK.out _ _ (fun _ => HKP.out _ hb4) ?_
              clear hK K
              refine anyT_take 6 [] (.bool false) rfl (by kernel_rfl) (by kernel_rfl) (by kernel_rfl) (by kernel_rfl) (by kernel_rfl) (fun _ _ _ h => h) (Or.inl ⟨by rfl, ?_⟩) (HKP.out _ hb4) ?_
              · rintro w' ⟨hb', hc'⟩
                go_simp
              simp only [List.getElem_toArray, List.getElem_cons_zero, List.getElem_cons_succ, Act.put, List.setIfInBounds_toArray, List.set_cons_zero, List.set_cons_succ]
              refine anyT_ready [11] (by kernel_rfl) (by simp) ?_
              refine EachT.cons rfl (fun K hK => ?_) EachT.nil
              simp only [List.getElem_toArray, List.getElem_cons_zero, List.getElem_cons_succ]
              go_simp
              refine (HDF.out _ hb4).mono ?_
              rintro e w5 ⟨rfl, hb5⟩
              (try go_wp2_with fail)
              refine hK.out _ _ (fun _ => HKP.out _ hb5) ?_
              clear hK K
              refine anyT_take 12 [] (.int .i64 0) rfl (by kernel_rfl) (by kernel_rfl) (by kernel_rfl) (by kernel_rfl) (by kernel_rfl) (fun _ _ _ h => h) (Or.inl ⟨by rfl, ?_⟩) (HKP.out _ hb5) ?_
              · rintro w' ⟨hb', hc'⟩
                have hfl := fld0 0 0 w'
                go_simp
              simp only [List.getElem_toArray, List.getElem_cons_zero, List.getElem_cons_succ, Act.put, List.setIfInBounds_toArray, List.set_cons_zero, List.set_cons_succ]
              refine anyT_take 13 [] (.bool true) rfl (by kernel_rfl) (by kernel_rfl) (by kernel_rfl) (by kernel_rfl) (by kernel_rfl) (fun _ _ _ h => h) (Or.inl ⟨by rfl, ?_⟩) (HKP.out _ hb5) ?_
              · rintro w' ⟨hb', hc'⟩
                go_simp
              simp only [List.getElem_toArray, List.getElem_cons_zero, List.getElem_cons_succ, Act.put, List.setIfInBounds_toArray, List.set_cons_zero, List.set_cons_succ]
              refine anyT_take 14 [] (.bool true) rfl (by kernel_rfl) (by kernel_rfl) (by kernel_rfl) (by kernel_rfl) (by kernel_rfl) (fun _ _ _ h => h) (Or.inl ⟨by rfl, ?_⟩) (HKP.out _ hb5) ?_
              · rintro w' ⟨hb', hc'⟩
                go_simp
              simp only [List.getElem_toArray, List.getElem_cons_zero, List.getElem_cons_succ, Act.put, List.setIfInBounds_toArray, List.set_cons_zero, List.set_cons_succ]
              refine anyT_take 15 [] (.int .i64 by') rfl (by kernel_rfl) (by kernel_rfl) (by kernel_rfl) (by kernel_rfl) (by kernel_rfl) (fun _ _ _ h => h) (Or.inl ⟨by rfl, ?_⟩) (HKP.out _ hb5) ?_
              · rintro w' ⟨hb', hc'⟩
                go_simp
              simp only [List.getElem_toArray, List.getElem_cons_zero, List.getElem_cons_succ, Act.put, List.setIfInBounds_toArray, List.set_cons_zero, List.set_cons_succ]
              refine anyT_take 16 [] (.bool false) rfl (by kernel_rfl) (by kernel_rfl) (by kernel_rfl) (by kernel_rfl) (by kernel_rfl) (fun _ _ _ h => h) (Or.inl ⟨by rfl, ?_⟩) (HKP.out _ hb5) ?_
              · rintro w' ⟨hb', hc'⟩
                go_simp
              simp only [List.getElem_toArray, List.getElem_cons_zero, List.getElem_cons_succ, Act.put, List.setIfInBounds_toArray, List.set_cons_zero, List.set_cons_succ]
              refine anyT_take 17 [] (.bool false) rfl (by kernel_rfl) (by kernel_rfl) (by kernel_rfl) (by kernel_rfl) (by kernel_rfl) (fun _ _ _ h => h) (Or.inl ⟨by rfl, ?_⟩) (HKP.out _ hb5) ?_
              · rintro w' ⟨hb', hc'⟩
                go_simp
              simp only [List.getElem_toArray, List.getElem_cons_zero, List.getElem_cons_succ, Act.put, List.setIfInBounds_toArray, List.set_cons_zero, List.set_cons_succ]
              refine anyT_take 18 [] (.bool false) rfl (by kernel_rfl) (by kernel_rfl) (by kernel_rfl) (by kernel_rfl) (by kernel_rfl) (fun _ _ _ h => h) (Or.inl ⟨by rfl, ?_⟩) (HKP.out _ hb5) ?_
              · rintro w' ⟨hb', hc'⟩
                go_simp
              simp only [List.getElem_toArray, List.getElem_cons_zero, List.getElem_cons_succ, Act.put, List.setIfInBounds_toArray, List.set_cons_zero, List.set_cons_succ]
              refine anyT_take 19 [] undef rfl (by kernel_rfl) (by kernel_rfl) (by kernel_rfl) (by kernel_rfl) (by kernel_rfl) (fun _ _ _ h => h) (Or.inr ⟨by rfl, rfl⟩) (HKP.out _ hb5) ?_
              simp only [List.getElem_toArray, List.getElem_cons_zero, List.getElem_cons_succ, Act.put, List.setIfInBounds_toArray, List.set_cons_zero, List.set_cons_succ]
              refine anyT_take 20 [] undef rfl (by kernel_rfl) (by kernel_rfl) (by kernel_rfl) (by kernel_rfl) (by kernel_rfl) (fun _ _ _ h => h) (Or.inr ⟨by rfl, rfl⟩) (HKP.out _ hb5) ?_
              simp only [List.getElem_toArray, List.getElem_cons_zero, List.getElem_cons_succ, Act.put, List.setIfInBounds_toArray, List.set_cons_zero, List.set_cons_succ]
              refine anyT_take 21 [] (.bool false) rfl (by kernel_rfl) (by kernel_rfl) (by kernel_rfl) (by kernel_rfl) (by kernel_rfl) (fun _ _ _ h => h) (Or.inl ⟨by rfl, ?_⟩) (HKP.out _ hb5) ?_
              · rintro w' ⟨hb', hc'⟩
                go_simp
              simp only [List.getElem_toArray, List.getElem_cons_zero, List.getElem_cons_succ, Act.put, List.setIfInBounds_toArray, List.set_cons_zero, List.set_cons_succ]
              refine anyT_take 22 [] (.bool false) rfl (by kernel_rfl) (by kernel_rfl) (by kernel_rfl) (by kernel_rfl) (by kernel_rfl) (fun _ _ _ h => h) (Or.inl ⟨by rfl, ?_⟩) (HKP.out _ hb5) ?_
              · rintro w' ⟨hb', hc'⟩
                go_simp
              simp only [List.getElem_toArray, List.getElem_cons_zero, List.getElem_cons_succ, Act.put, List.setIfInBounds_toArray, List.set_cons_zero, List.set_cons_succ]
              refine anyT_done (by kernel_rfl) ?_
              go_wp2_with fail
              go_roundg (r.length - (j + 1))
              case measure => omega
              case rel => exact ⟨j + 1, by omega, rfl, by go_num, hBl.trans (hb5.mono hBl.size)⟩
            · by_cases hb8 : 8 ≤ by'
              · have hb0' : 0 ≤ by' := by omega
                have hb8' : ¬ by' < 8 := by omega
                have HWN : Hid (∀ w', Below wr.heap.size wr w' → Calls Tryd.prog 48 #[dv, .int .i64 by'] w' fun e w'' => e = .returned (.pointer none) ∧ Below wr.heap.size wr w'') := fun w' hb => by
                  refine (worker_none dv r[j] by' w' (hD.later hb) (hf.2 j hlt) (hL.later (hBw.trans (hb.mono hBw.size))) (.inr (.inr hb8))).mono ?_
                  rintro e w'' ⟨he, hb'⟩
                  exact ⟨he, hb.trans (hb'.mono hb.size)⟩
                clear hr0 hD hc0 hX1 c0
                go_wp2_with fail
                refine wp_region_till (S := fun w' => Below wr.heap.size wr w' ∧ w'.cell? ⟨b, off + j, none⟩ = some dv) (fun _ => false) (by kernel_rfl) (HKP.out _ (Below.refl _ _).drew) (fun hS => ?_)
                refine anyT_take 0 [] (.slice (some ⟨b, off, none⟩) r.length rcap) rfl (by kernel_rfl) (by kernel_rfl) (by kernel_rfl) (by kernel_rfl) (by kernel_rfl) (fun _ _ _ h => h) (Or.inl ⟨by rfl, ?_⟩) hS ?_
                · rintro w' ⟨hb', hc'⟩
                  go_simp
                simp only [List.getElem_toArray, List.getElem_cons_zero, Act.put, List.setIfInBounds_toArray, List.set_cons_zero, List.set_cons_succ]
                refine anyT_take 1 [] (.int .i64 (j : Int)) rfl (by kernel_rfl) (by kernel_rfl) (by kernel_rfl) (by kernel_rfl) (by kernel_rfl) (fun _ _ _ h => h) (Or.inl ⟨by rfl, ?_⟩) hS ?_
                · rintro w' ⟨hb', hc'⟩
                  go_simp
                simp only [List.getElem_toArray, List.getElem_cons_zero, List.getElem_cons_succ, Act.put, List.setIfInBounds_toArray, List.set_cons_zero, List.set_cons_succ]
                refine anyT_take 2 [] (.pointer (some ⟨b, off + j, none⟩)) rfl (by kernel_rfl) (by kernel_rfl) (by kernel_rfl) (by kernel_rfl) (by kernel_rfl) (fun _ _ _ h => h) (Or.inl ⟨by rfl, ?_⟩) hS ?_
                · rintro w' ⟨hb', hc'⟩
                  go_simp
                simp only [List.getElem_toArray, List.getElem_cons_zero, List.getElem_cons_succ, Act.put, List.setIfInBounds_toArray, List.set_cons_zero, List.set_cons_succ]
                refine anyT_take 3 [] (dv) rfl (by kernel_rfl) (by kernel_rfl) (by kernel_rfl) (by kernel_rfl) (by kernel_rfl) (fun _ _ _ h => h) (Or.inl ⟨by rfl, ?_⟩) hS ?_
                · rintro w' ⟨hb', hc'⟩
                  go_simp
                simp only [List.getElem_toArray, List.getElem_cons_zero, List.getElem_cons_succ, Act.put, List.setIfInBounds_toArray, List.set_cons_zero, List.set_cons_succ]
                refine anyT_take 4 [] (.int .i64 by') rfl (by kernel_rfl) (by kernel_rfl) (by kernel_rfl) (by kernel_rfl) (by kernel_rfl) (fun _ _ _ h => h) (Or.inl ⟨by rfl, ?_⟩) hS ?_
                · rintro w' ⟨hb', hc'⟩
                  go_simp
                simp only [List.getElem_toArray, List.getElem_cons_zero, List.getElem_cons_succ, Act.put, List.setIfInBounds_toArray, List.set_cons_zero, List.set_cons_succ]
                refine anyT_take 7 [] (.slice (some ⟨b, off, none⟩) r.length rcap) rfl (by kernel_rfl) (by kernel_rfl) (by kernel_rfl) (by kernel_rfl) (by kernel_rfl) (fun _ _ _ h => h) (Or.inl ⟨by rfl, ?_⟩) hS ?_
                · rintro w' ⟨hb', hc'⟩
                  go_simp
                simp only [List.getElem_toArray, List.getElem_cons_zero, List.getElem_cons_succ, Act.put, List.setIfInBounds_toArray, List.set_cons_zero, List.set_cons_succ]
                refine anyT_take 8 [] (.int .i64 (j : Int)) rfl (by kernel_rfl) (by kernel_rfl) (by kernel_rfl) (by kernel_rfl) (by kernel_rfl) (fun _ _ _ h => h) (Or.inl ⟨by rfl, ?_⟩) hS ?_
                · rintro w' ⟨hb', hc'⟩
                  go_simp
                simp only [List.getElem_toArray, List.getElem_cons_zero, List.getElem_cons_succ, Act.put, List.setIfInBounds_toArray, List.set_cons_zero, List.set_cons_succ]
                refine anyT_take 9 [] (.pointer (some ⟨b, off + j, none⟩)) rfl (by kernel_rfl) (by kernel_rfl) (by kernel_rfl) (by kernel_rfl) (by kernel_rfl) (fun _ _ _ h => h) (Or.inl ⟨by rfl, ?_⟩) hS ?_
                · rintro w' ⟨hb', hc'⟩
                  go_simp
                simp only [List.getElem_toArray, List.getElem_cons_zero, List.getElem_cons_succ, Act.put, List.setIfInBounds_toArray, List.set_cons_zero, List.set_cons_succ]
                refine anyT_take 10 [] (dv) rfl (by kernel_rfl) (by kernel_rfl) (by kernel_rfl) (by kernel_rfl) (by kernel_rfl) (fun _ _ _ h => h) (Or.inl ⟨by rfl, ?_⟩) hS ?_
                · rintro w' ⟨hb', hc'⟩
                  go_simp
                simp only [List.getElem_toArray, List.getElem_cons_zero, List.getElem_cons_succ, Act.put, List.setIfInBounds_toArray, List.set_cons_zero, List.set_cons_succ]
                refine anyT_ready [5] (by kernel_rfl) (by simp) ?_
                refine EachT.cons rfl (fun K hK => ?_) EachT.nil
                simp only [List.getElem_toArray, List.getElem_cons_zero, List.getElem_cons_succ]
                go_simp
                refine (HWN.out _ ((Below.refl _ _).drew)).mono ?_
                rintro e w4 ⟨rfl, hb4⟩
                (try go_wp2_with fail)
                refine hK.out _ _ (fun _ => HKP.out _ hb4) ?_
                clear hK K
                refine anyT_take 6 [] (.bool false) rfl (by kernel_rfl) (by kernel_rfl) (by kernel_rfl) (by kernel_rfl) (by kernel_rfl) (fun _ _ _ h => h) (Or.inl ⟨by rfl, ?_⟩) (HKP.out _ hb4) ?_
                · rintro w' ⟨hb', hc'⟩
                  go_simp
                simp only [List.getElem_toArray, List.getElem_cons_zero, List.getElem_cons_succ, Act.put, List.setIfInBounds_toArray, List.set_cons_zero, List.set_cons_succ]
                refine anyT_ready [11] (by kernel_rfl) (by simp) ?_
                refine EachT.cons rfl (fun K hK => ?_) EachT.nil
                simp only [List.getElem_toArray, List.getElem_cons_zero, List.getElem_cons_succ]
                go_simp
                refine (HDF.out _ hb4).mono ?_
                rintro e w5 ⟨rfl, hb5⟩
                (try go_wp2_with fail)
                refine hK.out _ _ (fun _ => HKP.out _ hb5) ?_
                clear hK K
                refine anyT_take 12 [] (.int .i64 0) rfl (by kernel_rfl) (by kernel_rfl) (by kernel_rfl) (by kernel_rfl) (by kernel_rfl) (fun _ _ _ h => h) (Or.inl ⟨by rfl, ?_⟩) (HKP.out _ hb5) ?_
                · rintro w' ⟨hb', hc'⟩
                  have hfl := fld0 0 0 w'
                  go_simp
                simp only [List.getElem_toArray, List.getElem_cons_zero, List.getElem_cons_succ, Act.put, List.setIfInBounds_toArray, List.set_cons_zero, List.set_cons_succ]
                refine anyT_take 13 [] (.bool true) rfl (by kernel_rfl) (by kernel_rfl) (by kernel_rfl) (by kernel_rfl) (by kernel_rfl) (fun _ _ _ h => h) (Or.inl ⟨by rfl, ?_⟩) (HKP.out _ hb5) ?_
                · rintro w' ⟨hb', hc'⟩
                  go_simp
                simp only [List.getElem_toArray, List.getElem_cons_zero, List.getElem_cons_succ, Act.put, List.setIfInBounds_toArray, List.set_cons_zero, List.set_cons_succ]
                refine anyT_take 14 [] (.bool true) rfl (by kernel_rfl) (by kernel_rfl) (by kernel_rfl) (by kernel_rfl) (by kernel_rfl) (fun _ _ _ h => h) (Or.inl ⟨by rfl, ?_⟩) (HKP.out _ hb5) ?_
                · rintro w' ⟨hb', hc'⟩
                  go_simp
                simp only [List.getElem_toArray, List.getElem_cons_zero, List.getElem_cons_succ, Act.put, List.setIfInBounds_toArray, List.set_cons_zero, List.set_cons_succ]
                refine anyT_take 15 [] (.int .i64 by') rfl (by kernel_rfl) (by kernel_rfl) (by kernel_rfl) (by kernel_rfl) (by kernel_rfl) (fun _ _ _ h => h) (Or.inl ⟨by rfl, ?_⟩) (HKP.out _ hb5) ?_
                · rintro w' ⟨hb', hc'⟩
                  go_simp
                simp only [List.getElem_toArray, List.getElem_cons_zero, List.getElem_cons_succ, Act.put, List.setIfInBounds_toArray, List.set_cons_zero, List.set_cons_succ]
                refine anyT_take 16 [] (.bool true) rfl (by kernel_rfl) (by kernel_rfl) (by kernel_rfl) (by kernel_rfl) (by kernel_rfl) (fun _ _ _ h => h) (Or.inl ⟨by rfl, ?_⟩) (HKP.out _ hb5) ?_
                · rintro w' ⟨hb', hc'⟩
                  go_simp
                simp only [List.getElem_toArray, List.getElem_cons_zero, List.getElem_cons_succ, Act.put, List.setIfInBounds_toArray, List.set_cons_zero, List.set_cons_succ]
                refine anyT_take 17 [] (.bool true) rfl (by kernel_rfl) (by kernel_rfl) (by kernel_rfl) (by kernel_rfl) (by kernel_rfl) (fun _ _ _ h => h) (Or.inl ⟨by rfl, ?_⟩) (HKP.out _ hb5) ?_
                · rintro w' ⟨hb', hc'⟩
                  go_simp
                simp only [List.getElem_toArray, List.getElem_cons_zero, List.getElem_cons_succ, Act.put, List.setIfInBounds_toArray, List.set_cons_zero, List.set_cons_succ]
                refine anyT_take 18 [] (.bool true) rfl (by kernel_rfl) (by kernel_rfl) (by kernel_rfl) (by kernel_rfl) (by kernel_rfl) (fun _ _ _ h => h) (Or.inl ⟨by rfl, ?_⟩) (HKP.out _ hb5) ?_
                · rintro w' ⟨hb', hc'⟩
                  go_simp
                simp only [List.getElem_toArray, List.getElem_cons_zero, List.getElem_cons_succ, Act.put, List.setIfInBounds_toArray, List.set_cons_zero, List.set_cons_succ]
                refine anyT_take 19 [] (.int .i64 by') rfl (by kernel_rfl) (by kernel_rfl) (by kernel_rfl) (by kernel_rfl) (by kernel_rfl) (fun _ _ _ h => h) (Or.inl ⟨by rfl, ?_⟩) (HKP.out _ hb5) ?_
                · rintro w' ⟨hb', hc'⟩
                  go_simp
                simp only [List.getElem_toArray, List.getElem_cons_zero, List.getElem_cons_succ, Act.put, List.setIfInBounds_toArray, List.set_cons_zero, List.set_cons_succ]
                refine anyT_take 20 [] (.bool false) rfl (by kernel_rfl) (by kernel_rfl) (by kernel_rfl) (by kernel_rfl) (by kernel_rfl) (fun _ _ _ h => h) (Or.inl ⟨by rfl, ?_⟩) (HKP.out _ hb5) ?_
                · rintro w' ⟨hb', hc'⟩
                  go_simp
                simp only [List.getElem_toArray, List.getElem_cons_zero, List.getElem_cons_succ, Act.put, List.setIfInBounds_toArray, List.set_cons_zero, List.set_cons_succ]
                refine anyT_take 21 [] (.bool false) rfl (by kernel_rfl) (by kernel_rfl) (by kernel_rfl) (by kernel_rfl) (by kernel_rfl) (fun _ _ _ h => h) (Or.inl ⟨by rfl, ?_⟩) (HKP.out _ hb5) ?_
                · rintro w' ⟨hb', hc'⟩
                  go_simp
                simp only [List.getElem_toArray, List.getElem_cons_zero, List.getElem_cons_succ, Act.put, List.setIfInBounds_toArray, List.set_cons_zero, List.set_cons_succ]
                refine anyT_take 22 [] (.bool false) rfl (by kernel_rfl) (by kernel_rfl) (by kernel_rfl) (by kernel_rfl) (by kernel_rfl) (fun _ _ _ h => h) (Or.inl ⟨by rfl, ?_⟩) (HKP.out _ hb5) ?_
                · rintro w' ⟨hb', hc'⟩
                  go_simp
                simp only [List.getElem_toArray, List.getElem_cons_zero, List.getElem_cons_succ, Act.put, List.setIfInBounds_toArray, List.set_cons_zero, List.set_cons_succ]
                refine anyT_done (by kernel_rfl) ?_
                go_wp2_with fail
                go_roundg (r.length - (j + 1))
                case measure => omega
                case rel => exact ⟨j + 1, by omega, rfl, by go_num, hBl.trans (hb5.mono hBl.size)⟩
              · obtain ⟨bn, rfl⟩ : ∃ bn : Nat, by' = bn := ⟨by'.toNat, by omega⟩
                have hb0' : (0 : Int) ≤ (bn : Int) := by omega
                have hb8' : (bn : Int) < 8 := by omega
                have HWN : Hid (∀ w', Below wr.heap.size wr w' → Calls Tryd.prog 48 #[dv, .int .i64 (bn : Int)] w' fun e w'' => (∃ C, e = .returned (.pointer (some ⟨C, 0, none⟩))) ∧ Below wr.heap.size wr w'') := fun w' hb => by
                  refine (worker_new dv r[j] bn w' (hD.later hb) hc0 (by omega) (hL.later (hBw.trans (hb.mono hBw.size)))).mono ?_
                  rintro e w'' ⟨C, u, he, -, -, -, hb'⟩
                  exact ⟨⟨C, he⟩, hb.trans (hb'.mono hb.size)⟩
                clear hr0 hD hc0 hX1 c0
                go_wp2_with fail
                refine wp_region_till (S := fun w' => Below wr.heap.size wr w' ∧ w'.cell? ⟨b, off + j, none⟩ = some dv) (fun _ => false) (by kernel_rfl) (HKP.out _ (Below.refl _ _).drew) (fun hS => ?_)
                refine anyT_take 0 [] (.slice (some ⟨b, off, none⟩) r.length rcap) rfl (by kernel_rfl) (by kernel_rfl) (by kernel_rfl) (by kernel_rfl) (by kernel_rfl) (fun _ _ _ h => h) (Or.inl ⟨by rfl, ?_⟩) hS ?_
                · rintro w' ⟨hb', hc'⟩
                  go_simp
                simp only [List.getElem_toArray, List.getElem_cons_zero, Act.put, List.setIfInBounds_toArray, List.set_cons_zero, List.set_cons_succ]
                refine anyT_take 1 [] (.int .i64 (j : Int)) rfl (by kernel_rfl) (by kernel_rfl) (by kernel_rfl) (by kernel_rfl) (by kernel_rfl) (fun _ _ _ h => h) (Or.inl ⟨by rfl, ?_⟩) hS ?_
                · rintro w' ⟨hb', hc'⟩
                  go_simp
                simp only [List.getElem_toArray, List.getElem_cons_zero, List.getElem_cons_succ, Act.put, List.setIfInBounds_toArray, List.set_cons_zero, List.set_cons_succ]
                refine anyT_take 2 [] (.pointer (some ⟨b, off + j, none⟩)) rfl (by kernel_rfl) (by kernel_rfl) (by kernel_rfl) (by kernel_rfl) (by kernel_rfl) (fun _ _ _ h => h) (Or.inl ⟨by rfl, ?_⟩) hS ?_
                · rintro w' ⟨hb', hc'⟩
                  go_simp
                simp only [List.getElem_toArray, List.getElem_cons_zero, List.getElem_cons_succ, Act.put, List.setIfInBounds_toArray, List.set_cons_zero, List.set_cons_succ]
                refine anyT_take 3 [] (dv) rfl (by kernel_rfl) (by kernel_rfl) (by kernel_rfl) (by kernel_rfl) (by kernel_rfl) (fun _ _ _ h => h) (Or.inl ⟨by rfl, ?_⟩) hS ?_
                · rintro w' ⟨hb', hc'⟩
                  go_simp
                simp only [List.getElem_toArray, List.getElem_cons_zero, List.getElem_cons_succ, Act.put, List.setIfInBounds_toArray, List.set_cons_zero, List.set_cons_succ]
                refine anyT_take 4 [] (.int .i64 (bn : Int)) rfl (by kernel_rfl) (by kernel_rfl) (by kernel_rfl) (by kernel_rfl) (by kernel_rfl) (fun _ _ _ h => h) (Or.inl ⟨by rfl, ?_⟩) hS ?_
                · rintro w' ⟨hb', hc'⟩
                  go_simp
                simp only [List.getElem_toArray, List.getElem_cons_zero, List.getElem_cons_succ, Act.put, List.setIfInBounds_toArray, List.set_cons_zero, List.set_cons_succ]
                refine anyT_take 7 [] (.slice (some ⟨b, off, none⟩) r.length rcap) rfl (by kernel_rfl) (by kernel_rfl) (by kernel_rfl) (by kernel_rfl) (by kernel_rfl) (fun _ _ _ h => h) (Or.inl ⟨by rfl, ?_⟩) hS ?_
                · rintro w' ⟨hb', hc'⟩
                  go_simp
                simp only [List.getElem_toArray, List.getElem_cons_zero, List.getElem_cons_succ, Act.put, List.setIfInBounds_toArray, List.set_cons_zero, List.set_cons_succ]
                refine anyT_take 8 [] (.int .i64 (j : Int)) rfl (by kernel_rfl) (by kernel_rfl) (by kernel_rfl) (by kernel_rfl) (by kernel_rfl) (fun _ _ _ h => h) (Or.inl ⟨by rfl, ?_⟩) hS ?_
                · rintro w' ⟨hb', hc'⟩
                  go_simp
                simp only [List.getElem_toArray, List.getElem_cons_zero, List.getElem_cons_succ, Act.put, List.setIfInBounds_toArray, List.set_cons_zero, List.set_cons_succ]
                refine anyT_take 9 [] (.pointer (some ⟨b, off + j, none⟩)) rfl (by kernel_rfl) (by kernel_rfl) (by kernel_rfl) (by kernel_rfl) (by kernel_rfl) (fun _ _ _ h => h) (Or.inl ⟨by rfl, ?_⟩) hS ?_
                · rintro w' ⟨hb', hc'⟩
                  go_simp
                simp only [List.getElem_toArray, List.getElem_cons_zero, List.getElem_cons_succ, Act.put, List.setIfInBounds_toArray, List.set_cons_zero, List.set_cons_succ]
                refine anyT_take 10 [] (dv) rfl (by kernel_rfl) (by kernel_rfl) (by kernel_rfl) (by kernel_rfl) (by kernel_rfl) (fun _ _ _ h => h) (Or.inl ⟨by rfl, ?_⟩) hS ?_
                · rintro w' ⟨hb', hc'⟩
                  go_simp
                simp only [List.getElem_toArray, List.getElem_cons_zero, List.getElem_cons_succ, Act.put, List.setIfInBounds_toArray, List.set_cons_zero, List.set_cons_succ]
                refine anyT_ready [5] (by kernel_rfl) (by simp) ?_
                refine EachT.cons rfl (fun K hK => ?_) EachT.nil
                simp only [List.getElem_toArray, List.getElem_cons_zero, List.getElem_cons_succ]
                go_simp
                refine (HWN.out _ ((Below.refl _ _).drew)).mono ?_
                rintro e w4 ⟨⟨C, rfl⟩, hb4⟩
                (try go_wp2_with fail)
                refine hK.out _ _ (fun _ => HKP.out _ hb4) ?_
                clear hK K
                refine anyT_take 6 [] (.bool true) rfl (by kernel_rfl) (by kernel_rfl) (by kernel_rfl) (by kernel_rfl) (by kernel_rfl) (fun _ _ _ h => h) (Or.inl ⟨by rfl, ?_⟩) (HKP.out _ hb4) ?_
                · rintro w' ⟨hb', hc'⟩
                  go_simp
                simp only [List.getElem_toArray, List.getElem_cons_zero, List.getElem_cons_succ, Act.put, List.setIfInBounds_toArray, List.set_cons_zero, List.set_cons_succ]
                refine anyT_ready [11] (by kernel_rfl) (by simp) ?_
                refine EachT.cons rfl (fun K hK => ?_) EachT.nil
                simp only [List.getElem_toArray, List.getElem_cons_zero, List.getElem_cons_succ]
                go_simp
                refine (HDF.out _ hb4).mono ?_
                rintro e w5 ⟨rfl, hb5⟩
                (try go_wp2_with fail)
                refine hK.out _ _ (fun _ => HKP.out _ hb5) ?_
                clear hK K
                refine anyT_take 12 [] (.int .i64 0) rfl (by kernel_rfl) (by kernel_rfl) (by kernel_rfl) (by kernel_rfl) (by kernel_rfl) (fun _ _ _ h => h) (Or.inl ⟨by rfl, ?_⟩) (HKP.out _ hb5) ?_
                · rintro w' ⟨hb', hc'⟩
                  have hfl := fld0 0 0 w'
                  go_simp
                simp only [List.getElem_toArray, List.getElem_cons_zero, List.getElem_cons_succ, Act.put, List.setIfInBounds_toArray, List.set_cons_zero, List.set_cons_succ]
                refine anyT_take 13 [] (.bool true) rfl (by kernel_rfl) (by kernel_rfl) (by kernel_rfl) (by kernel_rfl) (by kernel_rfl) (fun _ _ _ h => h) (Or.inl ⟨by rfl, ?_⟩) (HKP.out _ hb5) ?_
                · rintro w' ⟨hb', hc'⟩
                  go_simp
                simp only [List.getElem_toArray, List.getElem_cons_zero, List.getElem_cons_succ, Act.put, List.setIfInBounds_toArray, List.set_cons_zero, List.set_cons_succ]
                refine anyT_take 14 [] (.bool true) rfl (by kernel_rfl) (by kernel_rfl) (by kernel_rfl) (by kernel_rfl) (by kernel_rfl) (fun _ _ _ h => h) (Or.inl ⟨by rfl, ?_⟩) (HKP.out _ hb5) ?_
                · rintro w' ⟨hb', hc'⟩
                  go_simp
                simp only [List.getElem_toArray, List.getElem_cons_zero, List.getElem_cons_succ, Act.put, List.setIfInBounds_toArray, List.set_cons_zero, List.set_cons_succ]
                refine anyT_take 15 [] (.int .i64 (bn : Int)) rfl (by kernel_rfl) (by kernel_rfl) (by kernel_rfl) (by kernel_rfl) (by kernel_rfl) (fun _ _ _ h => h) (Or.inl ⟨by rfl, ?_⟩) (HKP.out _ hb5) ?_
                · rintro w' ⟨hb', hc'⟩
                  go_simp
                simp only [List.getElem_toArray, List.getElem_cons_zero, List.getElem_cons_succ, Act.put, List.setIfInBounds_toArray, List.set_cons_zero, List.set_cons_succ]
                refine anyT_take 16 [] (.bool true) rfl (by kernel_rfl) (by kernel_rfl) (by kernel_rfl) (by kernel_rfl) (by kernel_rfl) (fun _ _ _ h => h) (Or.inl ⟨by rfl, ?_⟩) (HKP.out _ hb5) ?_
                · rintro w' ⟨hb', hc'⟩
                  go_simp
                simp only [List.getElem_toArray, List.getElem_cons_zero, List.getElem_cons_succ, Act.put, List.setIfInBounds_toArray, List.set_cons_zero, List.set_cons_succ]
                refine anyT_take 17 [] (.bool true) rfl (by kernel_rfl) (by kernel_rfl) (by kernel_rfl) (by kernel_rfl) (by kernel_rfl) (fun _ _ _ h => h) (Or.inl ⟨by rfl, ?_⟩) (HKP.out _ hb5) ?_
                · rintro w' ⟨hb', hc'⟩
                  go_simp
                simp only [List.getElem_toArray, List.getElem_cons_zero, List.getElem_cons_succ, Act.put, List.setIfInBounds_toArray, List.set_cons_zero, List.set_cons_succ]
                refine anyT_take 18 [] (.bool true) rfl (by kernel_rfl) (by kernel_rfl) (by kernel_rfl) (by kernel_rfl) (by kernel_rfl) (fun _ _ _ h => h) (Or.inl ⟨by rfl, ?_⟩) (HKP.out _ hb5) ?_
                · rintro w' ⟨hb', hc'⟩
                  go_simp
                simp only [List.getElem_toArray, List.getElem_cons_zero, List.getElem_cons_succ, Act.put, List.setIfInBounds_toArray, List.set_cons_zero, List.set_cons_succ]
                refine anyT_take 19 [] (.int .i64 (bn : Int)) rfl (by kernel_rfl) (by kernel_rfl) (by kernel_rfl) (by kernel_rfl) (by kernel_rfl) (fun _ _ _ h => h) (Or.inl ⟨by rfl, ?_⟩) (HKP.out _ hb5) ?_
                · rintro w' ⟨hb', hc'⟩
                  go_simp
                simp only [List.getElem_toArray, List.getElem_cons_zero, List.getElem_cons_succ, Act.put, List.setIfInBounds_toArray, List.set_cons_zero, List.set_cons_succ]
                refine anyT_take 20 [] (.bool true) rfl (by kernel_rfl) (by kernel_rfl) (by kernel_rfl) (by kernel_rfl) (by kernel_rfl) (fun _ _ _ h => h) (Or.inl ⟨by rfl, ?_⟩) (HKP.out _ hb5) ?_
                · rintro w' ⟨hb', hc'⟩
                  go_simp
                simp only [List.getElem_toArray, List.getElem_cons_zero, List.getElem_cons_succ, Act.put, List.setIfInBounds_toArray, List.set_cons_zero, List.set_cons_succ]
                refine anyT_take 21 [] (.bool true) rfl (by kernel_rfl) (by kernel_rfl) (by kernel_rfl) (by kernel_rfl) (by kernel_rfl) (fun _ _ _ h => h) (Or.inl ⟨by rfl, ?_⟩) (HKP.out _ hb5) ?_
                · rintro w' ⟨hb', hc'⟩
                  go_simp
                simp only [List.getElem_toArray, List.getElem_cons_zero, List.getElem_cons_succ, Act.put, List.setIfInBounds_toArray, List.set_cons_zero, List.set_cons_succ]
                refine anyT_take 22 [] (.bool false) rfl (by kernel_rfl) (by kernel_rfl) (by kernel_rfl) (by kernel_rfl) (by kernel_rfl) (fun _ _ _ h => h) (Or.inl ⟨by rfl, ?_⟩) (HKP.out _ hb5) ?_
                · rintro w' ⟨hb', hc'⟩
                  go_simp
                simp only [List.getElem_toArray, List.getElem_cons_zero, List.getElem_cons_succ, Act.put, List.setIfInBounds_toArray, List.set_cons_zero, List.set_cons_succ]
                refine anyT_done (by kernel_rfl) ?_
                go_wp2_with fail
                go_roundg (r.length - (j + 1))
                case measure => omega
                case rel => exact ⟨j + 1, by omega, rfl, by go_num, hBl.trans (hb5.mono hBl.size)⟩
          · have HDF : Hid (∀ w', Below wr.heap.size wr w' → Calls Tryd.prog 22 #[dv] w' fun e w'' => (∃ cc nn : Int, e = .returned (.agg #[.int .i64 cc, .int .i64 nn]) ∧ (cc == 0) = false) ∧ Below wr.heap.size wr w'') := fun w' hb => by
              refine (deed_tells dv r[j] w' (hD.later hb) (hf.2 j hlt)).mono ?_
              rintro e w'' ⟨⟨cc, nn, he, hcc⟩, hb'⟩
              exact ⟨⟨cc, nn, he, by rw [beq_eq_false_iff_ne]; exact fun e => hc0 (hcc e)⟩, hb.trans (hb'.mono hb.size)⟩
            have HWN : Hid (∀ w', Below wr.heap.size wr w' → Calls Tryd.prog 48 #[dv, .int .i64 by'] w' fun e w'' => e = .returned (.pointer none) ∧ Below wr.heap.size wr w'') := fun w' hb => by
              refine (worker_none dv r[j] by' w' (hD.later hb) (hf.2 j hlt) (hL.later (hBw.trans (hb.mono hBw.size))) (.inl hc0)).mono ?_
              rintro e w'' ⟨he, hb'⟩
              exact ⟨he, hb.trans (hb'.mono hb.size)⟩
            clear hr0 hD hc0 hX1 c0
            go_wp2_with fail
            refine wp_region_till (S := fun w' => Below wr.heap.size wr w' ∧ w'.cell? ⟨b, off + j, none⟩ = some dv) (fun _ => false) (by kernel_rfl) (HKP.out _ (Below.refl _ _).drew) (fun hS => ?_)
            refine anyT_take 0 [] (.slice (some ⟨b, off, none⟩) r.length rcap) rfl (by kernel_rfl) (by kernel_rfl) (by kernel_rfl) (by kernel_rfl) (by kernel_rfl) (fun _ _ _ h => h) (Or.inl ⟨by rfl, ?_⟩) hS ?_
            · rintro w' ⟨hb', hc'⟩
              go_simp
            simp only [List.getElem_toArray, List.getElem_cons_zero, Act.put, List.setIfInBounds_toArray, List.set_cons_zero, List.set_cons_succ]
            refine anyT_take 1 [] (.int .i64 (j : Int)) rfl (by kernel_rfl) (by kernel_rfl) (by kernel_rfl) (by kernel_rfl) (by kernel_rfl) (fun _ _ _ h => h) (Or.inl ⟨by rfl, ?_⟩) hS ?_
            · rintro w' ⟨hb', hc'⟩
              go_simp
            simp only [List.getElem_toArray, List.getElem_cons_zero, List.getElem_cons_succ, Act.put, List.setIfInBounds_toArray, List.set_cons_zero, List.set_cons_succ]
            refine anyT_take 2 [] (.pointer (some ⟨b, off + j, none⟩)) rfl (by kernel_rfl) (by kernel_rfl) (by kernel_rfl) (by kernel_rfl) (by kernel_rfl) (fun _ _ _ h => h) (Or.inl ⟨by rfl, ?_⟩) hS ?_
            · rintro w' ⟨hb', hc'⟩
              go_simp
            simp only [List.getElem_toArray, List.getElem_cons_zero, List.getElem_cons_succ, Act.put, List.setIfInBounds_toArray, List.set_cons_zero, List.set_cons_succ]
            refine anyT_take 3 [] (dv) rfl (by kernel_rfl) (by kernel_rfl) (by kernel_rfl) (by kernel_rfl) (by kernel_rfl) (fun _ _ _ h => h) (Or.inl ⟨by rfl, ?_⟩) hS ?_
            · rintro w' ⟨hb', hc'⟩
              go_simp
            simp only [List.getElem_toArray, List.getElem_cons_zero, List.getElem_cons_succ, Act.put, List.setIfInBounds_toArray, List.set_cons_zero, List.set_cons_succ]
            refine anyT_take 4 [] (.int .i64 by') rfl (by kernel_rfl) (by kernel_rfl) (by kernel_rfl) (by kernel_rfl) (by kernel_rfl) (fun _ _ _ h => h) (Or.inl ⟨by rfl, ?_⟩) hS ?_
            · rintro w' ⟨hb', hc'⟩
              go_simp
            simp only [List.getElem_toArray, List.getElem_cons_zero, List.getElem_cons_succ, Act.put, List.setIfInBounds_toArray, List.set_cons_zero, List.set_cons_succ]
            refine anyT_take 7 [] (.slice (some ⟨b, off, none⟩) r.length rcap) rfl (by kernel_rfl) (by kernel_rfl) (by kernel_rfl) (by kernel_rfl) (by kernel_rfl) (fun _ _ _ h => h) (Or.inl ⟨by rfl, ?_⟩) hS ?_
            · rintro w' ⟨hb', hc'⟩
              go_simp
            simp only [List.getElem_toArray, List.getElem_cons_zero, List.getElem_cons_succ, Act.put, List.setIfInBounds_toArray, List.set_cons_zero, List.set_cons_succ]
            refine anyT_take 8 [] (.int .i64 (j : Int)) rfl (by kernel_rfl) (by kernel_rfl) (by kernel_rfl) (by kernel_rfl) (by kernel_rfl) (fun _ _ _ h => h) (Or.inl ⟨by rfl, ?_⟩) hS ?_
            · rintro w' ⟨hb', hc'⟩
              go_simp
            simp only [List.getElem_toArray, List.getElem_cons_zero, List.getElem_cons_succ, Act.put, List.setIfInBounds_toArray, List.set_cons_zero, List.set_cons_succ]
            refine anyT_take 9 [] (.pointer (some ⟨b, off + j, none⟩)) rfl (by kernel_rfl) (by kernel_rfl) (by kernel_rfl) (by kernel_rfl) (by kernel_rfl) (fun _ _ _ h => h) (Or.inl ⟨by rfl, ?_⟩) hS ?_
            · rintro w' ⟨hb', hc'⟩
              go_simp
            simp only [List.getElem_toArray, List.getElem_cons_zero, List.getElem_cons_succ, Act.put, List.setIfInBounds_toArray, List.set_cons_zero, List.set_cons_succ]
            refine anyT_take 10 [] (dv) rfl (by kernel_rfl) (by kernel_rfl) (by kernel_rfl) (by kernel_rfl) (by kernel_rfl) (fun _ _ _ h => h) (Or.inl ⟨by rfl, ?_⟩) hS ?_
            · rintro w' ⟨hb', hc'⟩
              go_simp
            simp only [List.getElem_toArray, List.getElem_cons_zero, List.getElem_cons_succ, Act.put, List.setIfInBounds_toArray, List.set_cons_zero, List.set_cons_succ]
            refine anyT_ready [5] (by kernel_rfl) (by simp) ?_
            refine EachT.cons rfl (fun K hK => ?_) EachT.nil
            simp only [List.getElem_toArray, List.getElem_cons_zero, List.getElem_cons_succ]
            go_simp
            refine (HWN.out _ ((Below.refl _ _).drew)).mono ?_
            rintro e w4 ⟨rfl, hb4⟩
            (try go_wp2_with fail)
            refine hK.out _ _ (fun _ => HKP.out _ hb4) ?_
            clear hK K
            refine anyT_take 6 [] (.bool false) rfl (by kernel_rfl) (by kernel_rfl) (by kernel_rfl) (by kernel_rfl) (by kernel_rfl) (fun _ _ _ h => h) (Or.inl ⟨by rfl, ?_⟩) (HKP.out _ hb4) ?_
            · rintro w' ⟨hb', hc'⟩
              go_simp
            simp only [List.getElem_toArray, List.getElem_cons_zero, List.getElem_cons_succ, Act.put, List.setIfInBounds_toArray, List.set_cons_zero, List.set_cons_succ]
            refine anyT_ready [11] (by kernel_rfl) (by simp) ?_
            refine EachT.cons rfl (fun K hK => ?_) EachT.nil
            simp only [List.getElem_toArray, List.getElem_cons_zero, List.getElem_cons_succ]
            go_simp
            refine (HDF.out _ hb4).mono ?_
            rintro e w5 ⟨⟨cc, nn, rfl, tcc⟩, hb5⟩
            (try go_wp2_with fail)
            refine hK.out _ _ (fun _ => HKP.out _ hb5) ?_
            clear hK K
            refine anyT_take 12 [] (.int .i64 cc) rfl (by kernel_rfl) (by kernel_rfl) (by kernel_rfl) (by kernel_rfl) (by kernel_rfl) (fun _ _ _ h => h) (Or.inl ⟨by rfl, ?_⟩) (HKP.out _ hb5) ?_
            · rintro w' ⟨hb', hc'⟩
              have hfl := fld0 cc nn w'
              go_simp
            simp only [List.getElem_toArray, List.getElem_cons_zero, List.getElem_cons_succ, Act.put, List.setIfInBounds_toArray, List.set_cons_zero, List.set_cons_succ]
            refine anyT_take 13 [] (.bool false) rfl (by kernel_rfl) (by kernel_rfl) (by kernel_rfl) (by kernel_rfl) (by kernel_rfl) (fun _ _ _ h => h) (Or.inl ⟨by rfl, ?_⟩) (HKP.out _ hb5) ?_
            · rintro w' ⟨hb', hc'⟩
              go_simp
            simp only [List.getElem_toArray, List.getElem_cons_zero, List.getElem_cons_succ, Act.put, List.setIfInBounds_toArray, List.set_cons_zero, List.set_cons_succ]
            refine anyT_take 14 [] (.bool false) rfl (by kernel_rfl) (by kernel_rfl) (by kernel_rfl) (by kernel_rfl) (by kernel_rfl) (fun _ _ _ h => h) (Or.inl ⟨by rfl, ?_⟩) (HKP.out _ hb5) ?_
            · rintro w' ⟨hb', hc'⟩
              go_simp
            simp only [List.getElem_toArray, List.getElem_cons_zero, List.getElem_cons_succ, Act.put, List.setIfInBounds_toArray, List.set_cons_zero, List.set_cons_succ]
            refine anyT_take 15 [] undef rfl (by kernel_rfl) (by kernel_rfl) (by kernel_rfl) (by kernel_rfl) (by kernel_rfl) (fun _ _ _ h => h) (Or.inr ⟨by rfl, rfl⟩) (HKP.out _ hb5) ?_
            simp only [List.getElem_toArray, List.getElem_cons_zero, List.getElem_cons_succ, Act.put, List.setIfInBounds_toArray, List.set_cons_zero, List.set_cons_succ]
            refine anyT_take 16 [] undef rfl (by kernel_rfl) (by kernel_rfl) (by kernel_rfl) (by kernel_rfl) (by kernel_rfl) (fun _ _ _ h => h) (Or.inr ⟨by rfl, rfl⟩) (HKP.out _ hb5) ?_
            simp only [List.getElem_toArray, List.getElem_cons_zero, List.getElem_cons_succ, Act.put, List.setIfInBounds_toArray, List.set_cons_zero, List.set_cons_succ]
            refine anyT_take 17 [] (.bool false) rfl (by kernel_rfl) (by kernel_rfl) (by kernel_rfl) (by kernel_rfl) (by kernel_rfl) (fun _ _ _ h => h) (Or.inl ⟨by rfl, ?_⟩) (HKP.out _ hb5) ?_
            · rintro w' ⟨hb', hc'⟩
              go_simp
            simp only [List.getElem_toArray, List.getElem_cons_zero, List.getElem_cons_succ, Act.put, List.setIfInBounds_toArray, List.set_cons_zero, List.set_cons_succ]
            refine anyT_take 18 [] (.bool false) rfl (by kernel_rfl) (by kernel_rfl) (by kernel_rfl) (by kernel_rfl) (by kernel_rfl) (fun _ _ _ h => h) (Or.inl ⟨by rfl, ?_⟩) (HKP.out _ hb5) ?_
            · rintro w' ⟨hb', hc'⟩
              go_simp
            simp only [List.getElem_toArray, List.getElem_cons_zero, List.getElem_cons_succ, Act.put, List.setIfInBounds_toArray, List.set_cons_zero, List.set_cons_succ]
            refine anyT_take 19 [] undef rfl (by kernel_rfl) (by kernel_rfl) (by kernel_rfl) (by kernel_rfl) (by kernel_rfl) (fun _ _ _ h => h) (Or.inr ⟨by rfl, rfl⟩) (HKP.out _ hb5) ?_
            simp only [List.getElem_toArray, List.getElem_cons_zero, List.getElem_cons_succ, Act.put, List.setIfInBounds_toArray, List.set_cons_zero, List.set_cons_succ]
            refine anyT_take 20 [] undef rfl (by kernel_rfl) (by kernel_rfl) (by kernel_rfl) (by kernel_rfl) (by kernel_rfl) (fun _ _ _ h => h) (Or.inr ⟨by rfl, rfl⟩) (HKP.out _ hb5) ?_
            simp only [List.getElem_toArray, List.getElem_cons_zero, List.getElem_cons_succ, Act.put, List.setIfInBounds_toArray, List.set_cons_zero, List.set_cons_succ]
            refine anyT_take 21 [] (.bool false) rfl (by kernel_rfl) (by kernel_rfl) (by kernel_rfl) (by kernel_rfl) (by kernel_rfl) (fun _ _ _ h => h) (Or.inl ⟨by rfl, ?_⟩) (HKP.out _ hb5) ?_
            · rintro w' ⟨hb', hc'⟩
              go_simp
            simp only [List.getElem_toArray, List.getElem_cons_zero, List.getElem_cons_succ, Act.put, List.setIfInBounds_toArray, List.set_cons_zero, List.set_cons_succ]
            refine anyT_take 22 [] (.bool false) rfl (by kernel_rfl) (by kernel_rfl) (by kernel_rfl) (by kernel_rfl) (by kernel_rfl) (fun _ _ _ h => h) (Or.inl ⟨by rfl, ?_⟩) (HKP.out _ hb5) ?_
            · rintro w' ⟨hb', hc'⟩
              go_simp
            simp only [List.getElem_toArray, List.getElem_cons_zero, List.getElem_cons_succ, Act.put, List.setIfInBounds_toArray, List.set_cons_zero, List.set_cons_succ]
            refine anyT_done (by kernel_rfl) ?_
            go_wp2_with fail
            go_roundg (r.length - (j + 1))
            case measure => omega
            case rel => exact ⟨j + 1, by omega, rfl, by go_num, hBl.trans (hb5.mono hBl.size)⟩
        · obtain rfl : j = r.length := by omega
          have hXr := hX1.later hBl
          have hfa := faults_any _ r wr (HR.later hBw) hf
          clear hr0 hX1 hB1 hBl
          go_wp2_with fail
          refine hfa.mono ?_
          clear hfa
          rintro e w3 ⟨⟨cc, rfl, hcc⟩, hb3⟩
          have hB3 : Below w.heap.size w w3 := hBw.trans (hb3.mono hBw.size)
          have hX3 := hXr.later hb3
          have HCC : Hid (cc = 0 → roundF r = 0) := hcc
          clear hcc hb3 hXr hBw
          by_cases h0 : cc = 0
          · have hrf : Hid (roundF r = 0) := HCC.out h0
            subst h0
            by_cases hlen : r.length = 0
            · have hle : ((r.length : Int) == 0) = true := by simp [hlen]
              clear hlen
              go_wp2_with fail
              go_ret
              exact ⟨rfl, hB3⟩
            · have hle : ((r.length : Int) == 0) = false := by rw [beq_eq_false_iff_ne]; omega
              have h8 : r.length ≤ 8 := (roundF_zero.1 hrf.out).1
              have hck : Hid (∀ d ∈ r, (checkF d).1 = 0) := (roundF_zero.1 hrf.out).2
              obtain ⟨k0, k1, k2, k3, k4, k5, k6, k7, k8, k9⟩ := hX3.ten
              have hcn := crew_new _ r s w3 (HR.later hB3) hf hrf.out (hL.later hB3)
              go_wp2_with fail
              refine hcn.mono ?_
              clear hcn k0 k1 k2 k3 k4 k5 k6 k7 k8 k9 hX3
              rintro e w4 ⟨c, E, B, D, NB, vW, vH, C, U, H, V, Vb, rfl, hcr0, hb4⟩
              have hcr := hcr0.crew
              have hhc := hcr0.hands
              have hB4 : Below w.heap.size w w4 := hB3.trans (hb4.mono hB3.size)
              have hok : Hid (InOrder s r (fun _ => wk0) (newF s r)) := inOrder_new s r
              have hN : w.heap.size ≤ w3.heap.size := hB3.size
              have hN4 : w3.heap.size ≤ w4.heap.size := hb4.size
              generalize w3.heap.size = N at *
              obtain ⟨T, eT⟩ : ∃ T, T = newF s r := ⟨_, rfl⟩
              obtain ⟨X, eX⟩ : ∃ X : Nat → Wk, X = fun _ => wk0 := ⟨_, rfl⟩
              rw [← eT, ← eX] at hcr hok hhc
              clear hcr0 hb4 eT eX HCC hB3
              go_wp2_with fail
              go_loopg [11] l.length (fun g i wr => ∃ (j : Nat) (c : Nat → Nat) (X : Nat → Wk) (T : Nat → List Slot4) (S : Nat → Value) (st : Nat → List Op5), j ≤ l.length ∧ g = l.length - j ∧ i = .int .i64 j ∧ CrewAt wr c N E B vW C U r.length r X T ∧ HandC wr c N NB E D vH H V r Vb X S st T ∧ Hid (InOrder s r X T) ∧ Below w.heap.size w wr ∧ N ≤ wr.heap.size)
              case atStart => exact ⟨0, c, X, T, _, _, by omega, by omega, rfl, hcr, hhc, hok, hB4, hN4⟩
              case round =>
                clear hcr hok hB4 hhc hN4
                obtain ⟨j, c, X, T, S, st, hj, hg, rfl, hcr, hhc, hok, hBl, hNz⟩ := hrel
                obtain ⟨gw, gcap, rfl, hptr⟩ := hcr.row (by omega)
                obtain ⟨gh, hcap, rfl, hphr⟩ := hhc.row (by omega)
                have q1 := hcr.ft
                by_cases hlt : j < l.length
                · obtain ⟨pb, poff, rfl, pc⟩ := hcell j hlt
                  replace pc := cell_later hBl pc
                  obtain ⟨k, hk, ek⟩ := index_lt l[j] r.length (by omega) h8
                  have q2 := hcr.fw
                  have q3 := hptr k hk
                  have hok2 : Hid (InOrder s r (putW X k (stepW T r[k] (k : Int) (X k)).x) (stepW T r[k] (k : Int) (X k)).T) := hok.out.step hck.out hk
                  have h9 : Hid (∀ q, q < 10 → (T q).length ≤ 9) := fun q hq => (hcr.tab.row q hq).len
                  have HST : Hid (∀ w', Below wr.heap.size wr w' → Calls Tryd.prog 50 #[.pointer (some ⟨C k, 0, none⟩), .pointer (some ⟨B, 0, none⟩)] w' fun e w'' => e = .returned (.tuple #[.int .i64 (stepW T r[k] (k : Int) (X k)).what, .int .i64 (stepW T r[k] (k : Int) (X k)).who]) ∧ CrewAt w'' c N E B (.slice (some ⟨gw, 0, none⟩) r.length gcap) C U r.length r (putW X k (stepW T r[k] (k : Int) (X k)).x) (stepW T r[k] (k : Int) (X k)).T ∧ HandC w'' c N NB E D (.slice (some ⟨gh, 0, none⟩) r.length hcap) H V r Vb X S st T ∧ Below w.heap.size w w'' ∧ N ≤ w''.heap.size) := fun w' hb => by
                    have hcr' := hcr.later (by omega) hb
                    refine (hcr'.step hk hk (hck.out _ (List.getElem_mem hk)) (hok.out.ok.well k hk)).mono ?_
                    rintro e w'' ⟨he, hx, hT, hg⟩
                    have hBb : Below w.heap.size w w' := hBl.trans (hb.mono hBl.size)
                    exact ⟨he, hcr'.stepped (by omega) hk hx hT hg, (hhc.later hb).grew hg (fun b _ e => by
                      rcases e with e | e
                      · rw [e]; exact .inl hcr.cB
                      · rw [e]; have := hcr.ws.ck k hk; omega) (fun _ _ => rfl), hcr'.below hk hg hBb hN hBb.size, by have := hg.size; have := hb.size; omega⟩
                  have HHS : Hid (∀ w' X1, CrewAt w' c N E B (.slice (some ⟨gw, 0, none⟩) r.length gcap) C U r.length r X1 (stepW T r[k] (k : Int) (X k)).T → HandC w' c N NB E D (.slice (some ⟨gh, 0, none⟩) r.length hcap) H V r Vb X S st T → Below w.heap.size w w' → N ≤ w'.heap.size → Calls Tryd.prog 51 #[.pointer (some ⟨H k, 0, none⟩), .pointer (some ⟨D, 0, none⟩)] w' fun e w'' => e = .returned (.tuple #[.int .i64 (stepW T r[k] (k : Int) (X k)).what, .int .i64 (stepW T r[k] (k : Int) (X k)).who]) ∧ ∃ c' S' st', CrewAt w'' c' N E B (.slice (some ⟨gw, 0, none⟩) r.length gcap) C U r.length r X1 (stepW T r[k] (k : Int) (X k)).T ∧ HandC w'' c' N NB E D (.slice (some ⟨gh, 0, none⟩) r.length hcap) H V r Vb (putW X k (stepW T r[k] (k : Int) (X k)).x) S' st' (stepW T r[k] (k : Int) (X k)).T ∧ Below w.heap.size w w'' ∧ N ≤ w''.heap.size) := fun w' X1 hc1 hh1 hb1 hn1 => by
                    refine (hand_any (hh1.hb hok.out.ok.fine h9.out hk) (hck.out _ (List.getElem_mem hk)) (hok.out.ok.well k hk) hn1).mono ?_
                    rintro e w'' ⟨he, ⟨vs', st', hB, hat⟩, hg⟩
                    obtain ⟨c', hc', hh2⟩ := hh1.stepped h8 hk hB hg hat
                    have hZ : ∀ b, handS (H k) Vb (S k) b → (20 ≤ c b ∧ c b < 30) ∨ 200 ≤ c b := fun b e => by
                      rcases e with e | e | e
                      · rw [e]; have := hh1.cH k hk; omega
                      · exact .inl (hh1.cV e)
                      · have := hh1.cS k hk b e; omega
                    exact ⟨he, c', _, _, hc1.hands (by omega) hn1 hg (fun b _ e => hZ b e) hc', hh2, hg.below hb1 hb1.size (fun b e => by
                      rcases Nat.lt_or_ge b N with h | h
                      · have := hc1.low b h; have := hZ b e; omega
                      · omega), by have := hg.size; omega⟩
                  generalize (stepW T r[k] (k : Int) (X k)).x = x' at *
                  generalize (stepW T r[k] (k : Int) (X k)).T = T' at *
                  generalize (stepW T r[k] (k : Int) (X k)).what = wt at *
                  generalize (stepW T r[k] (k : Int) (X k)).who = wo at *
                  have hki : (k : Int) < (r.length : Int) := by omega
                  clear hok hptr hphr hcell
                  go_wp2_with fail
                  rw [ek]
                  clear ek pc
                  go_cut [13, 14] from 70 to 175 (fun c1 c2 wc => c1 = .int .i64 wt ∧ c2 = .int .i64 wo ∧ CrewAt wc c N E B (.slice (some ⟨gw, 0, none⟩) r.length gcap) C U r.length r (putW X k x') T' ∧ HandC wc c N NB E D (.slice (some ⟨gh, 0, none⟩) r.length hcap) H V r Vb X S st T ∧ Below w.heap.size w wc ∧ N ≤ wc.heap.size)
                  case first =>
                    go_region_with (go_at_call 50; refine (HST.out _ (by first | exact (Below.refl _ _).drew | exact Below.refl _ _)).mono ?_; rintro e w5 ⟨rfl, hcr5, hhc5, hB5, hN5⟩)
                    all_goals go_wp2_with fail
                    all_goals go_meet
                    all_goals exact ⟨rfl, rfl, hcr5, hhc5, hB5, hN5⟩
                  case rest =>
                    obtain ⟨rfl, rfl, hcr5, hhc5, hB5, hN5⟩ := hcut
                    obtain ⟨W5, hW5⟩ : ∃ W5, W5 = wc := ⟨_, rfl⟩
                    subst hW5
                    clear HST hcr hhc hBl q1 q2 q3 hNz
                    obtain ⟨gh', hcap', e', hphr⟩ := hhc5.row (by omega)
                    cases e'
                    have q4 := hhc5.fb
                    have q5 := hhc5.fh
                    have q6 := hphr k hk
                    have HHS5 : Hid (∀ w', Below W5.heap.size W5 w' → _) := fun w' hb => HHS.out w' _ (hcr5.later (by omega) hb) (hhc5.later hb) (hB5.trans (hb.mono hB5.size)) (Nat.le_trans hN5 hb.size)
                    clear HHS hphr hcr5 hhc5
                    go_wp2_with fail
                    go_cut [15, 16] from 70 to 175 (fun c1 c2 wc => c1 = .int .i64 wt ∧ c2 = .int .i64 wo ∧ ∃ c' S' st', CrewAt wc c' N E B (.slice (some ⟨gw, 0, none⟩) r.length gcap) C U r.length r (putW X k x') T' ∧ HandC wc c' N NB E D (.slice (some ⟨gh, 0, none⟩) r.length hcap) H V r Vb (putW X k x') S' st' T' ∧ Below w.heap.size w wc ∧ N ≤ wc.heap.size)
                    case first =>
                      go_region_with (go_at_call 51; refine (HHS5.out _ (by first | exact (Below.refl _ _).drew | exact Below.refl _ _)).mono ?_; rintro e w5 ⟨rfl, c', S', st', hcr6, hhc6, hB6, hN6⟩)
                      all_goals go_wp2_with fail
                      all_goals go_meet
                      all_goals exact ⟨rfl, rfl, c', S', st', hcr6, hhc6, hB6, hN6⟩
                    case rest =>
                      obtain ⟨rfl, rfl, c', S', st', hcr6, hhc6, hB6, hN6⟩ := hcut
                      obtain ⟨W6, hW6⟩ : ∃ W6, W6 = wc := ⟨_, rfl⟩
                      subst hW6
                      clear HHS5 q4 q5 q6 hB5 hN5
                      obtain ⟨gw', gcap', e', hptr⟩ := hcr6.row (by omega)
                      cases e'
                      have q2 := hcr6.fw
                      have q3 := hptr k hk
                      have hres := result_any (C k) (U k) k (putW X k x' k) W6 (hcr6.ws.wk k hk)
                      have hHd := hhc6.hd k hk
                      have e8 := hHd.over
                      have e9 := hHd.code
                      have e10 := hHd.res 0 (by omega)
                      have e11 := hHd.res 1 (by omega)
                      have e12 := hHd.res 2 (by omega)
                      have e13 := hHd.res 3 (by omega)
                      change W6.cell? ⟨H k, 9, none⟩ = some (.int .i64 (resC (putW X k x' k))) at e9
                      change W6.cell? ⟨H k, 10, none⟩ = some (.int .i64 (resG (putW X k x' k) 0)) at e10
                      change W6.cell? ⟨H k, 11, none⟩ = some (.int .i64 (resG (putW X k x' k) 1)) at e11
                      change W6.cell? ⟨H k, 12, none⟩ = some (.int .i64 (resG (putW X k x' k) 2)) at e12
                      change W6.cell? ⟨H k, 13, none⟩ = some (.int .i64 (resG (putW X k x' k) 3)) at e13
                      generalize resC (putW X k x' k) = y0 at *
                      generalize resG (putW X k x' k) 0 = y1 at *
                      generalize resG (putW X k x' k) 1 = y2 at *
                      generalize resG (putW X k x' k) 2 = y3 at *
                      generalize resG (putW X k x' k) 3 = y4 at *
                      generalize (putW X k x' k).over = ov at *
                      clear hptr hHd
                      go_wp2_with fail
                      refine hres.mono ?_
                      clear hres
                      rintro e w6 ⟨rfl, hb6⟩
                      obtain ⟨W7, e7⟩ : ∃ W7, W7 = w6.alloc (.cells #[.int .i64 y0, .int .i64 y1, .int .i64 y2, .int .i64 y3, .int .i64 y4] 43) := ⟨_, rfl⟩
                      have hb7 : Below W6.heap.size W6 W7 := by rw [e7]; exact hb6.alloc hb6.size _
                      have n0 : W7.cell? ⟨w6.heap.size, 0, none⟩ = some (.int .i64 y0) := by rw [e7]; go_simp
                      have n1 : W7.cell? ⟨w6.heap.size, 1, none⟩ = some (.int .i64 y1) := by rw [e7]; go_simp
                      have n2 : W7.cell? ⟨w6.heap.size, 2, none⟩ = some (.int .i64 y2) := by rw [e7]; go_simp
                      have n3 : W7.cell? ⟨w6.heap.size, 3, none⟩ = some (.int .i64 y3) := by rw [e7]; go_simp
                      have n4 : W7.cell? ⟨w6.heap.size, 4, none⟩ = some (.int .i64 y4) := by rw [e7]; go_simp
                      go_upto_region 22 with fail
                      rw [← e7]
                      clear e7 hb6 q2 q3
                      have hcr7 := hcr6.later (by omega) hb7
                      have hhc7 := hhc6.later hb7
                      have hB7 : Below w.heap.size w W7 := hB6.trans (hb7.mono hB6.size)
                      have hN7 : N ≤ W7.heap.size := Nat.le_trans hN6 hb7.size
                      obtain ⟨gh', hcap', e', hphr⟩ := hhc7.row (by omega)
                      cases e'
                      have q6 := hphr k hk
                      have hkn : ∀ q, q < 10 → lastF knownP (T' q) ≠ none := hok2.out.knownW
                      obtain ⟨y, hy⟩ : ∃ y : Nat → Int, y = fun q => valF (T' q) := ⟨_, rfl⟩
                      have HSA : Hid (∀ w', Below W7.heap.size W7 w' → Calls Tryd.prog 37 #[.pointer (some ⟨B, 0, none⟩)] w' fun e w'' => e = .returned (.agg #[.int .i64 (y 0), .int .i64 (y 1), .int .i64 (y 2), .int .i64 (y 3), .int .i64 (y 4), .int .i64 (y 5), .int .i64 (y 6), .int .i64 (y 7), .int .i64 (y 8), .int .i64 (y 9)]) ∧ Below W7.heap.size W7 w'') := fun w' hb => by
                        refine (state_any B T' w' (hcr7.tab.later hb) hkn).mono ?_
                        rintro e w'' ⟨he, hb'⟩
                        rw [← hy] at he
                        exact ⟨he, hb.trans (hb'.mono hb.size)⟩
                      have HSB : Hid (∀ w', Below W7.heap.size W7 w' → Calls Tryd.prog 38 #[.pointer (some ⟨D, 0, none⟩)] w' fun e w'' => e = .returned (.agg #[.int .i64 (y 0), .int .i64 (y 1), .int .i64 (y 2), .int .i64 (y 3), .int .i64 (y 4), .int .i64 (y 5), .int .i64 (y 6), .int .i64 (y 7), .int .i64 (y 8), .int .i64 (y 9)]) ∧ Below W7.heap.size W7 w'') := fun w' hb => by
                        refine (stateB_any NB D T' Vb w' (hhc7.bd.at'.later hb) (fun q hq => (hcr7.tab.row q hq).len)).mono ?_
                        rintro e w'' ⟨he, hb'⟩
                        rw [← hy] at he
                        exact ⟨he, hb.trans (hb'.mono hb.size)⟩
                      have HKP : Hid (∀ w', Below W7.heap.size W7 w' → Below W7.heap.size W7 w' ∧ w'.cell? ⟨E, 0, none⟩ = some (.pointer (some ⟨B, 0, none⟩)) ∧ w'.cell? ⟨E, 1, none⟩ = some (.pointer (some ⟨D, 0, none⟩)) ∧ w'.cell? ⟨E, 3, none⟩ = some (.slice (some ⟨gh, 0, none⟩) r.length hcap) ∧ w'.cell? ⟨gh, k, none⟩ = some (.pointer (some ⟨H k, 0, none⟩)) ∧ w'.cell? ⟨H k, 8, none⟩ = some (.bool ov) ∧ w'.cell? ⟨H k, 9, none⟩ = some (.int .i64 y0) ∧ w'.cell? ⟨H k, 10, none⟩ = some (.int .i64 y1) ∧ w'.cell? ⟨H k, 11, none⟩ = some (.int .i64 y2) ∧ w'.cell? ⟨H k, 12, none⟩ = some (.int .i64 y3) ∧ w'.cell? ⟨H k, 13, none⟩ = some (.int .i64 y4) ∧ w'.cell? ⟨w6.heap.size, 0, none⟩ = some (.int .i64 y0) ∧ w'.cell? ⟨w6.heap.size, 1, none⟩ = some (.int .i64 y1) ∧ w'.cell? ⟨w6.heap.size, 2, none⟩ = some (.int .i64 y2) ∧ w'.cell? ⟨w6.heap.size, 3, none⟩ = some (.int .i64 y3) ∧ w'.cell? ⟨w6.heap.size, 4, none⟩ = some (.int .i64 y4)) := fun w' hb => ⟨hb, cell_later hb hcr7.ft, cell_later hb hhc7.fb, cell_later hb hhc7.fh, cell_later hb q6, cell_later hb (cell_later hb7 e8), cell_later hb (cell_later hb7 e9), cell_later hb (cell_later hb7 e10), cell_later hb (cell_later hb7 e11), cell_later hb (cell_later hb7 e12), cell_later hb (cell_later hb7 e13), cell_later hb n0, cell_later hb n1, cell_later hb n2, cell_later hb n3, cell_later hb n4⟩
                      have h43 := eq43 y0 y1 y2 y3 y4
                      have h38 := eq38 y
                      clear hcr6 hhc6 hB6 hN6 hb7 hphr q6 hkn hy n0 n1 n2 n3 n4 e8 e9 e10 e11 e12 e13
                      have HCR : Hid _ := hcr7
                      have HHC : Hid _ := hhc7
                      clear hcr7 hhc7
                      go_region_held3 (fun w' => Below W7.heap.size W7 w' ∧ w'.cell? ⟨E, 0, none⟩ = some (.pointer (some ⟨B, 0, none⟩)) ∧ w'.cell? ⟨E, 1, none⟩ = some (.pointer (some ⟨D, 0, none⟩)) ∧ w'.cell? ⟨E, 3, none⟩ = some (.slice (some ⟨gh, 0, none⟩) r.length hcap) ∧ w'.cell? ⟨gh, k, none⟩ = some (.pointer (some ⟨H k, 0, none⟩)) ∧ w'.cell? ⟨H k, 8, none⟩ = some (.bool ov) ∧ w'.cell? ⟨H k, 9, none⟩ = some (.int .i64 y0) ∧ w'.cell? ⟨H k, 10, none⟩ = some (.int .i64 y1) ∧ w'.cell? ⟨H k, 11, none⟩ = some (.int .i64 y2) ∧ w'.cell? ⟨H k, 12, none⟩ = some (.int .i64 y3) ∧ w'.cell? ⟨H k, 13, none⟩ = some (.int .i64 y4) ∧ w'.cell? ⟨w6.heap.size, 0, none⟩ = some (.int .i64 y0) ∧ w'.cell? ⟨w6.heap.size, 1, none⟩ = some (.int .i64 y1) ∧ w'.cell? ⟨w6.heap.size, 2, none⟩ = some (.int .i64 y2) ∧ w'.cell? ⟨w6.heap.size, 3, none⟩ = some (.int .i64 y3) ∧ w'.cell? ⟨w6.heap.size, 4, none⟩ = some (.int .i64 y4)) (first | exact HKP.out _ (Below.refl _ _).drew | exact HKP.out _ hb9 | exact HKP.out _ hb8)
                        (first | (go_at_call 37; refine (HSA.out _ (by first | exact (Below.refl _ _).drew | exact Below.refl _ _)).mono ?_; rintro e w8 ⟨rfl, hb8⟩) | (go_at_call 38; refine (HSB.out _ hb8).mono ?_; rintro e w9 ⟨rfl, hb9⟩))
                      all_goals go_wp2_with fail
                      all_goals go_roundg (l.length - (j + 1))
                      all_goals first | omega | exact ⟨j + 1, c', putW X k x', T', S', st', by omega, rfl, by go_num, HCR.out.later (by omega) hb9, HHC.out.later hb9, hok2, hB7.trans (hb9.mono hB7.size), Nat.le_trans hN7 hb9.size⟩
                · obtain rfl : j = l.length := by omega
                  have q4 := hhc.fb
                  have HOA : Hid (∀ w', Below wr.heap.size wr w' → Calls Tryd.prog 35 #[.pointer (some ⟨B, 0, none⟩)] w' fun e w'' => e = .returned (.bool (overF T)) ∧ Below wr.heap.size wr w'') := fun w' hb => by
                    refine (over_any B T w' (hcr.tab.later hb)).mono ?_
                    rintro e w'' ⟨he, hb'⟩
                    exact ⟨he, hb.trans (hb'.mono hb.size)⟩
                  have HOB : Hid (∀ w', Below wr.heap.size wr w' → Calls Tryd.prog 36 #[.pointer (some ⟨D, 0, none⟩)] w' fun e w'' => e = .returned (.bool (overF T)) ∧ Below wr.heap.size wr w'') := fun w' hb => by
                    refine (overB_any NB D T Vb w' (hhc.bd.at'.later hb) (fun q hq => (hcr.tab.row q hq).len)).mono ?_
                    rintro e w'' ⟨he, rfl⟩
                    exact ⟨he, hb⟩
                  have HKP : Hid (∀ w', Below wr.heap.size wr w' → Below wr.heap.size wr w' ∧ w'.cell? ⟨E, 0, none⟩ = some (.pointer (some ⟨B, 0, none⟩)) ∧ w'.cell? ⟨E, 1, none⟩ = some (.pointer (some ⟨D, 0, none⟩))) := fun w' hb => ⟨hb, cell_later hb q1, cell_later hb q4⟩
                  generalize overF T = ov at *
                  clear hcell hcr hhc hptr hphr q1 q4
                  go_wp2_with fail
                  cases ov
                  · go_region_held3 (fun w' => Below wr.heap.size wr w' ∧ w'.cell? ⟨E, 0, none⟩ = some (.pointer (some ⟨B, 0, none⟩)) ∧ w'.cell? ⟨E, 1, none⟩ = some (.pointer (some ⟨D, 0, none⟩))) (first | exact HKP.out _ (Below.refl _ _).drew | exact HKP.out _ hb9 | exact HKP.out _ hb8)
                      (first | (go_at_call 35; refine (HOA.out _ (by first | exact (Below.refl _ _).drew | exact Below.refl _ _)).mono ?_; rintro e w8 ⟨rfl, hb8⟩) | (go_at_call 36; refine (HOB.out _ hb8).mono ?_; rintro e w9 ⟨rfl, hb9⟩))
                    all_goals go_wp2_with fail
                    all_goals go_ret
                    all_goals exact ⟨rfl, hBl.trans (hb9.mono hBl.size)⟩
                  · go_region_held3 (fun w' => Below wr.heap.size wr w' ∧ w'.cell? ⟨E, 0, none⟩ = some (.pointer (some ⟨B, 0, none⟩)) ∧ w'.cell? ⟨E, 1, none⟩ = some (.pointer (some ⟨D, 0, none⟩))) (first | exact HKP.out _ (Below.refl _ _).drew | exact HKP.out _ hb9 | exact HKP.out _ hb8)
                      (first | (go_at_call 35; refine (HOA.out _ (by first | exact (Below.refl _ _).drew | exact Below.refl _ _)).mono ?_; rintro e w8 ⟨rfl, hb8⟩) | (go_at_call 36; refine (HOB.out _ hb8).mono ?_; rintro e w9 ⟨rfl, hb9⟩))
                    all_goals go_wp2_with fail
                    all_goals go_ret
                    all_goals exact ⟨rfl, hBl.trans (hb9.mono hBl.size)⟩
          · have t0 : (cc != 0) = true := by simp [h0]
            clear h0 HCC
            go_wp2_with fail
            go_ret
            exact ⟨rfl, hB3⟩
  · go_wp2_with fail
    go_ret
    exact ⟨rfl, hB1⟩
end Go.Proofs.YthlhbmldfjkagaaDoor
