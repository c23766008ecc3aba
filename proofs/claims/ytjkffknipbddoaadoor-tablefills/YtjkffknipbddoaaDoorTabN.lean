/-
  The walk of the law TableFills.
-/
import Derived.Test.YtjkffknipbddoaaDoorTabQ
import Derived.Test.YtjkffknipbddoaaDoorRegG
import Derived.Test.YtjkffknipbddoaaDoorEqA
import Derived.Test.YtjkffknipbddoaaDoorWalkV
namespace Go.Proofs.YtjkffknipbddoaaDoor
open Go.RowKit Go.Shelf

set_option maxRecDepth 100000 in
set_option maxHeartbeats 4000000 in
theorem fills_any (v : Value) (r : List (List Op5)) (s : Nat → Int) (a : Option Addr) (cap : Nat) (l : List Int) (w : World) (hr : RoundAt w v r) (hf : Fits r) (hl : NumsOf w (.slice a l.length cap) l) (hmax : l.length ≤ 9223372036854775807) (hL : Lim w) :
    Calls Tryd.prog 11 #[stV s, v, .slice a l.length cap] w fun e w' => e = .returned (.bool true) ∧ Below w.heap.size w w' := by
  show Calls Tryd.prog 11 #[.agg #[.int .i64 (s 0), .int .i64 (s 1), .int .i64 (s 2), .int .i64 (s 3), .int .i64 (s 4), .int .i64 (s 5), .int .i64 (s 6), .int .i64 (s 7), .int .i64 (s 8), .int .i64 (s 9)], _, _] w _
  have hB0 : Below w.heap.size w (w.alloc (.cells #[.int .i64 (s 0), .int .i64 (s 1), .int .i64 (s 2), .int .i64 (s 3), .int .i64 (s 4), .int .i64 (s 5), .int .i64 (s 6), .int .i64 (s 7), .int .i64 (s 8), .int .i64 (s 9)] 38)) := (Below.refl _ _).alloc (Nat.le_refl _) _
  have hX0 := box_new w s
  obtain ⟨a', cap', e1, hcell⟩ := hl
  cases e1
  have HR := hr
  obtain ⟨ra, rcap, rfl, hrd⟩ := hr
  have HRD : Hid _ := hrd
  clear hrd
  have hrm := hf.1
  go_enter Tryd.func11, Tryd.ntmps11
  go_wp2_with fail
  refine (begun_any _ (hL.later hB0)).mono ?_
  rintro e w1 ⟨rfl, hb1⟩
  have hB1 : Below w.heap.size w w1 := hB0.trans (hb1.mono (by simp))
  have hX1 := hX0.later hb1
  clear hB0 hb1 hX0
  go_wp2_with fail
  refine (great_any _ r _ (HR.later hB1) hf).mono ?_
  rintro e w2 ⟨⟨g, rfl⟩, rfl⟩
  cases g
  · by_cases hp : 200 < l.length
    · have hpi : (200 : Int) < (l.length : Int) := by omega
      go_wp2_with fail
      go_ret
      exact ⟨rfl, hB1⟩
    · have hpi : ¬ (200 : Int) < (l.length : Int) := by omega
      go_wp2_with fail
      refine (faults_any _ r _ (HR.later hB1) hf).mono ?_
      rintro e w3 ⟨⟨cc, rfl, hcc⟩, hb3⟩
      have hB3 : Below w.heap.size w w3 := hB1.trans (hb3.mono hB1.size)
      have hX3 := hX1.later hb3
      have HCC : Hid (cc = 0 → roundF r = 0) := hcc
      clear hcc hb3 hX1 hB1
      by_cases h0 : cc = 0
      · have hrf : Hid (roundF r = 0) := HCC.out h0
        subst h0
        have h8 : r.length ≤ 8 := (roundF_zero.1 hrf.out).1
        have hck : Hid (∀ d ∈ r, (checkF d).1 = 0) := (roundF_zero.1 hrf.out).2
        obtain ⟨k0, k1, k2, k3, k4, k5, k6, k7, k8, k9⟩ := hX3.ten
        have hnew := new_good _ r s w3 (HR.later hB3) hf hrf.out (hL.later hB3)
        simp only [stV] at hnew
        have hz3 : w.heap.size < w3.heap.size := World.block_lt_of_cell? w3 _ k0
        go_wp2_with fail
        refine hnew.mono ?_
        clear hnew
        rintro e w4 ⟨B, rfl, hB, hT, hb4⟩
        have hB4 : Below w.heap.size w w4 := hB3.trans (hb4.mono hB3.size)
        have hX4 := hX3.later hb4
        have hBw : w.heap.size ≤ B := Nat.le_trans hB3.size hB
        clear k0 k1 k2 k3 k4 k5 k6 k7 k8 k9
        obtain ⟨k0, k1, k2, k3, k4, k5, k6, k7, k8, k9⟩ := hX4.ten
        have hz4 : w.heap.size < w4.heap.size := World.block_lt_of_cell? w4 _ k0
        clear hb4 hB3 hX3 hB hz3 HCC
        go_upto_region 10 with fail
        obtain ⟨W, eW⟩ : ∃ W, W = ((w4.alloc (.cells #[.pointer (some ⟨B, 0, none⟩)] 61)).alloc (.cells #[.slice none 0 0] 78)).alloc (.cells #[.slice none 0 0] 48) := ⟨_, rfl⟩
        have hBW : Below w4.heap.size w4 W := by rw [eW]; exact (((Below.refl _ _).alloc (Nat.le_refl _) _).alloc (by simp) _).alloc (by simp; omega) _
        have hsz : W.heap.size = w4.heap.size + 1 + 1 + 1 := by rw [eW]; simp
        have m0 : W.cell? ⟨w4.heap.size, 0, none⟩ = some (.pointer (some ⟨B, 0, none⟩)) := by rw [eW]; go_simp
        have m1 : W.cell? ⟨w4.heap.size + 1, 0, none⟩ = some (.slice none 0 0) := by rw [eW]; go_simp
        have m2 : W.cell? ⟨w4.heap.size + 1 + 1, 0, none⟩ = some (.slice none 0 0) := by rw [eW]; go_simp
        have m3 : ∀ b, b < 3 → ∀ o, W.frozen? ⟨w4.heap.size + b, o, none⟩ = false := fun b hb o => by
          rcases (show b = 0 ∨ b = 1 ∨ b = 2 by omega) with rfl | rfl | rfl <;> (rw [eW]; go_simp)
        have hXW := hX4.later hBW
        rw [← eW]
        clear eW k0 k1 k2 k3 k4 k5 k6 k7 k8 k9
        obtain ⟨k0, k1, k2, k3, k4, k5, k6, k7, k8, k9⟩ := hXW.ten
        have hzW : w.heap.size < W.heap.size := World.block_lt_of_cell? W _ k0
        go_upto_region 11 with fail
        obtain ⟨V, eV⟩ : ∃ V, V = W.alloc (.cells #[.int .i64 (s 0), .int .i64 (s 1), .int .i64 (s 2), .int .i64 (s 3), .int .i64 (s 4), .int .i64 (s 5), .int .i64 (s 6), .int .i64 (s 7), .int .i64 (s 8), .int .i64 (s 9)] 38) := ⟨_, rfl⟩
        have hBV : Below W.heap.size W V := by rw [eV]; exact (Below.refl _ _).alloc (Nat.le_refl _) _
        have hFV : FillAt V w4.heap.size B 0 s r (.slice none 0 0) (.slice none 0 0) := by
          refine ⟨cell_later hBV m0, cell_later hBV m1, cell_later hBV m2, ?_, fun b hb o => ?_, World.ownsRow_nil _ _ _ _, World.ownsRow_nil _ _ _ _, fun g hg => by cases hg⟩
          · rw [eV, ← hsz]; exact box_new W s
          · by_cases h3 : b < 3
            · rw [hBV.frozen (p := ⟨w4.heap.size + b, o, none⟩) (by simp; omega)]; exact m3 b h3 o
            · obtain rfl : b = 3 := by omega
              rw [eV, show w4.heap.size + 3 = W.heap.size by omega]; go_simp
        have hB4V : Below w4.heap.size w4 V := hBW.trans (hBV.mono hBW.size)
        rw [← eV]
        clear eV hBV m0 m1 m2 m3 hXW k0 k1 k2 k3 k4 k5 k6 k7 k8 k9 hzW hBW hsz
        have HC : Hid _ := hcell
        have HT : Hid _ := hT
        clear hcell hT hX4 hL hf HR
        generalize Value.agg #[.int .i64 (s 0), .int .i64 (s 1), .int .i64 (s 2), .int .i64 (s 3), .int .i64 (s 4), .int .i64 (s 5), .int .i64 (s 6), .int .i64 (s 7), .int .i64 (s 8), .int .i64 (s 9)] = v0
        generalize Value.bool (decide ((200 : Int) < (l.length : Int))) = v1
        go_wp2_with fail
        go_loopg [12] r.length (fun g x wr => ∃ (j : Nat) (vS vR : Value), j ≤ r.length ∧ g = r.length - j ∧ x = .int .i64 j ∧ FillAt wr w4.heap.size B j s r vS vR ∧ Below w4.heap.size w4 wr)
        case atStart => exact ⟨0, _, _, by omega, by omega, rfl, hFV, hB4V⟩
        case round =>
          clear hFV hB4V
          obtain ⟨j, vS, vR, hj, hg, rfl, hF, hB⟩ := hrel
          by_cases hlt : j < r.length
          · obtain ⟨b, off, rfl, dv, c0, hD⟩ := HRD.out j hlt
            have hBw : Below w.heap.size w wr := hB4.trans (hB.mono hB4.size)
            replace c0 := cell_later hBw c0
            replace hD := hD.later hBw
            have hji : (j : Int) < (r.length : Int) := by omega
            have hck' := hck.out r[j] (List.getElem_mem hlt)
            obtain ⟨x, ex⟩ : ∃ x, x = allSt s (r.take j) := ⟨_, rfl⟩
            obtain ⟨o, eo⟩ : ∃ o, o = outAt s r j := ⟨_, rfl⟩
            have hdo := allOut_get (s := s) hlt
            rw [← ex, ← eo] at hdo
            have HDO : Hid (∀ w', Below wr.heap.size wr w' → Calls Tryd.prog 23 #[.agg #[.int .i64 (x 0), .int .i64 (x 1), .int .i64 (x 2), .int .i64 (x 3), .int .i64 (x 4), .int .i64 (x 5), .int .i64 (x 6), .int .i64 (x 7), .int .i64 (x 8), .int .i64 (x 9)], dv] w' fun e w'' => e = .returned (.tuple #[.agg #[.int .i64 (o.st 0), .int .i64 (o.st 1), .int .i64 (o.st 2), .int .i64 (o.st 3), .int .i64 (o.st 4), .int .i64 (o.st 5), .int .i64 (o.st 6), .int .i64 (o.st 7), .int .i64 (o.st 8), .int .i64 (o.st 9)], .agg #[.int .i64 o.code, .int .i64 (o.regs 0), .int .i64 (o.regs 1), .int .i64 (o.regs 2), .int .i64 (o.regs 3)]]) ∧ Below wr.heap.size wr w'' ∧ Hid (Below w'.heap.size w' w'')) := fun w' hb => by
              refine (ref_any dv r[j] x w' (hD.later hb) (check_len hck') (checkF_alone hck')).mono ?_
              rintro e w'' ⟨he, hb'⟩
              rw [← hdo] at he
              exact ⟨he, hb.trans (hb'.mono hb.size), hb'⟩
            have hN := hF.now
            rw [← ex] at hN
            have HKP : Hid (∀ w', Below wr.heap.size wr w' → Box w' (w4.heap.size + 1 + 1 + 1) x ∧ w'.cell? ⟨b, off + j, none⟩ = some dv) := fun w' hb => ⟨hN.later hb, cell_later hb c0⟩
            have HF : Hid (FillAt wr w4.heap.size B j s r vS vR ∧ Below w4.heap.size w4 wr) := ⟨hF, hB⟩
            have HE : Hid (x = allSt s (r.take j) ∧ o = outAt s r j) := ⟨ex, eo⟩
            clear hF hB hD hN hck' hdo ex eo
            go_wp2_with fail
            go_cut [13, 14] from 45 to 68 (fun c1 c2 wc => ∃ p q, c1 = .pointer (some ⟨p, 0, none⟩) ∧ c2 = .pointer (some ⟨q, 0, none⟩) ∧ wr.heap.size ≤ p ∧ wr.heap.size ≤ q ∧ Box wc p o.st ∧ ResAt wc q o.code o.regs ∧ Below wr.heap.size wr wc)
            case first =>
              refine wp_region_till (S := fun w' => Box w' (w4.heap.size + 1 + 1 + 1) x ∧ w'.cell? ⟨b, off + j, none⟩ = some dv) (fun i => i == 12) (by kernel_rfl) (HKP.out _ (Below.refl _ _).drew) (fun hS => ?_)
              refine anyT_take 0 [] (.agg #[.int .i64 (x 0), .int .i64 (x 1), .int .i64 (x 2), .int .i64 (x 3), .int .i64 (x 4), .int .i64 (x 5), .int .i64 (x 6), .int .i64 (x 7), .int .i64 (x 8), .int .i64 (x 9)]) rfl (by kernel_rfl) (by kernel_rfl) (by kernel_rfl) (by kernel_rfl) (by kernel_rfl) (fun _ _ _ h => h) (Or.inl ⟨by rfl, ?_⟩) hS ?_
              · rintro w' ⟨hb', hc'⟩
                obtain ⟨y0, y1, y2, y3, y4, y5, y6, y7, y8, y9⟩ := hb'.ten
                go_simp
              simp only [List.getElem_toArray, List.getElem_cons_zero, Act.put, List.setIfInBounds_toArray, List.set_cons_zero, List.set_cons_succ]
              refine anyT_take 1 [] (.slice (some ⟨b, off, none⟩) r.length rcap) rfl (by kernel_rfl) (by kernel_rfl) (by kernel_rfl) (by kernel_rfl) (by kernel_rfl) (fun _ _ _ h => h) (Or.inl ⟨by rfl, ?_⟩) hS ?_
              · rintro w' ⟨hb', hc'⟩
                go_simp
              simp only [List.getElem_toArray, List.getElem_cons_zero, List.getElem_cons_succ, Act.put, List.setIfInBounds_toArray, List.set_cons_zero, List.set_cons_succ]
              refine anyT_take 2 [] (.int .i64 (j : Int)) rfl (by kernel_rfl) (by kernel_rfl) (by kernel_rfl) (by kernel_rfl) (by kernel_rfl) (fun _ _ _ h => h) (Or.inl ⟨by rfl, ?_⟩) hS ?_
              · rintro w' ⟨hb', hc'⟩
                go_simp
              simp only [List.getElem_toArray, List.getElem_cons_zero, List.getElem_cons_succ, Act.put, List.setIfInBounds_toArray, List.set_cons_zero, List.set_cons_succ]
              refine anyT_take 3 [] (.pointer (some ⟨b, off + j, none⟩)) rfl (by kernel_rfl) (by kernel_rfl) (by kernel_rfl) (by kernel_rfl) (by kernel_rfl) (fun _ _ _ h => h) (Or.inl ⟨by rfl, ?_⟩) hS ?_
              · rintro w' ⟨hb', hc'⟩
                go_simp
              simp only [List.getElem_toArray, List.getElem_cons_zero, List.getElem_cons_succ, Act.put, List.setIfInBounds_toArray, List.set_cons_zero, List.set_cons_succ]
              refine anyT_take 4 [] (dv) rfl (by kernel_rfl) (by kernel_rfl) (by kernel_rfl) (by kernel_rfl) (by kernel_rfl) (fun _ _ _ h => h) (Or.inl ⟨by rfl, ?_⟩) hS ?_
              · rintro w' ⟨hb', hc'⟩
                go_simp
              simp only [List.getElem_toArray, List.getElem_cons_zero, List.getElem_cons_succ, Act.put, List.setIfInBounds_toArray, List.set_cons_zero, List.set_cons_succ]
              refine anyT_ready [5, 9, 10] (by kernel_rfl) (by simp) ?_
              refine EachT.cons rfl (fun K hK => ?_) (EachT.cons rfl (fun K hK => ?_) (EachT.cons rfl (fun K hK => ?_) EachT.nil))
              · simp only [List.getElem_toArray, List.getElem_cons_zero, List.getElem_cons_succ]
                go_simp
                refine (HDO.out _ ((Below.refl _ _).drew)).mono ?_
                rintro e w1 ⟨rfl, hb1, hl1⟩
                clear hl1
                (try go_wp2_with fail)
                refine hK.out _ _ (fun _ => HKP.out _ hb1) ?_
                clear hK K
                refine anyT_take 6 [] (.tuple #[.agg #[.int .i64 (o.st 0), .int .i64 (o.st 1), .int .i64 (o.st 2), .int .i64 (o.st 3), .int .i64 (o.st 4), .int .i64 (o.st 5), .int .i64 (o.st 6), .int .i64 (o.st 7), .int .i64 (o.st 8), .int .i64 (o.st 9)], .agg #[.int .i64 o.code, .int .i64 (o.regs 0), .int .i64 (o.regs 1), .int .i64 (o.regs 2), .int .i64 (o.regs 3)]]) rfl (by kernel_rfl) (by kernel_rfl) (by kernel_rfl) (by kernel_rfl) (by kernel_rfl) (fun _ _ _ h => h) (Or.inl ⟨by rfl, ?_⟩) (HKP.out _ hb1) ?_
                · rintro w' ⟨hb', hc'⟩
                  go_simp
                simp only [List.getElem_toArray, List.getElem_cons_zero, List.getElem_cons_succ, Act.put, List.setIfInBounds_toArray, List.set_cons_zero, List.set_cons_succ]
                refine anyT_take 7 [] (.agg #[.int .i64 (o.st 0), .int .i64 (o.st 1), .int .i64 (o.st 2), .int .i64 (o.st 3), .int .i64 (o.st 4), .int .i64 (o.st 5), .int .i64 (o.st 6), .int .i64 (o.st 7), .int .i64 (o.st 8), .int .i64 (o.st 9)]) rfl (by kernel_rfl) (by kernel_rfl) (by kernel_rfl) (by kernel_rfl) (by kernel_rfl) (fun _ _ _ h => h) (Or.inl ⟨by rfl, ?_⟩) (HKP.out _ hb1) ?_
                · rintro w' ⟨hb', hc'⟩
                  go_simp
                simp only [List.getElem_toArray, List.getElem_cons_zero, List.getElem_cons_succ, Act.put, List.setIfInBounds_toArray, List.set_cons_zero, List.set_cons_succ]
                refine anyT_take 8 [] (.agg #[.int .i64 o.code, .int .i64 (o.regs 0), .int .i64 (o.regs 1), .int .i64 (o.regs 2), .int .i64 (o.regs 3)]) rfl (by kernel_rfl) (by kernel_rfl) (by kernel_rfl) (by kernel_rfl) (by kernel_rfl) (fun _ _ _ h => h) (Or.inl ⟨by rfl, ?_⟩) (HKP.out _ hb1) ?_
                · rintro w' ⟨hb', hc'⟩
                  go_simp
                simp only [List.getElem_toArray, List.getElem_cons_zero, List.getElem_cons_succ, Act.put, List.setIfInBounds_toArray, List.set_cons_zero, List.set_cons_succ]
                refine anyT_ready [9, 10] (by kernel_rfl) (by simp) ?_
                refine EachT.cons rfl (fun K hK => ?_) (EachT.cons rfl (fun K hK => ?_) EachT.nil)
                · simp only [List.getElem_toArray, List.getElem_cons_zero, List.getElem_cons_succ]
                  go_simp
                  refine hK.out _ _ (fun _ => HKP.out _ (below_on hb1 _)) ?_
                  clear hK K
                  refine anyT_ready [10] (by kernel_rfl) (by simp) ?_
                  refine EachT.cons rfl (fun K hK => ?_) EachT.nil
                  · simp only [List.getElem_toArray, List.getElem_cons_zero, List.getElem_cons_succ]
                    go_simp
                    refine hK.out _ _ (fun _ => HKP.out _ (below_on (below_on hb1 _) _)) ?_
                    clear hK K
                    refine anyT_ready [11] (by kernel_rfl) (by simp) ?_
                    refine EachT.cons rfl (fun K hK => ?_) EachT.nil
                    · simp only [List.getElem_toArray, List.getElem_cons_zero, List.getElem_cons_succ]
                      go_simp
                      refine hK.out _ _ (fun _ => HKP.out _ (below_on (below_on hb1 _) _)) ?_
                      clear hK K
                      refine anyT_ready [12] (by kernel_rfl) (by simp) ?_
                      refine EachT.cons rfl (fun K hK => ?_) EachT.nil
                      · simp only [List.getElem_toArray, List.getElem_cons_zero, List.getElem_cons_succ]
                        go_simp
                        refine hK.out _ _ (fun hl => absurd hl (by decide)) ?_
                        clear hK K
                        refine anyT_done (by kernel_rfl) ?_
                        go_wp2_with fail
                        go_meet
                        exact ⟨_, _, rfl, rfl, hb1.size, (Nat.le_succ_of_le hb1.size), lt10 (by go_simp) (by go_simp) (by go_simp) (by go_simp) (by go_simp) (by go_simp) (by go_simp) (by go_simp) (by go_simp) (by go_simp), res_of (by go_simp) (by go_simp) (by go_simp) (by go_simp) (by go_simp), below_on (below_on hb1 _) _⟩
                · simp only [List.getElem_toArray, List.getElem_cons_zero, List.getElem_cons_succ]
                  go_simp
                  refine hK.out _ _ (fun _ => HKP.out _ (below_on hb1 _)) ?_
                  clear hK K
                  refine anyT_ready [9] (by kernel_rfl) (by simp) ?_
                  refine EachT.cons rfl (fun K hK => ?_) EachT.nil
                  · simp only [List.getElem_toArray, List.getElem_cons_zero, List.getElem_cons_succ]
                    go_simp
                    refine hK.out _ _ (fun _ => HKP.out _ (below_on (below_on hb1 _) _)) ?_
                    clear hK K
                    refine anyT_ready [11] (by kernel_rfl) (by simp) ?_
                    refine EachT.cons rfl (fun K hK => ?_) EachT.nil
                    · simp only [List.getElem_toArray, List.getElem_cons_zero, List.getElem_cons_succ]
                      go_simp
                      refine hK.out _ _ (fun _ => HKP.out _ (below_on (below_on hb1 _) _)) ?_
                      clear hK K
                      refine anyT_ready [12] (by kernel_rfl) (by simp) ?_
                      refine EachT.cons rfl (fun K hK => ?_) EachT.nil
                      · simp only [List.getElem_toArray, List.getElem_cons_zero, List.getElem_cons_succ]
                        go_simp
                        refine hK.out _ _ (fun hl => absurd hl (by decide)) ?_
                        clear hK K
                        refine anyT_done (by kernel_rfl) ?_
                        go_wp2_with fail
                        go_meet
                        exact ⟨_, _, rfl, rfl, (Nat.le_succ_of_le hb1.size), hb1.size, lt10 (by go_simp) (by go_simp) (by go_simp) (by go_simp) (by go_simp) (by go_simp) (by go_simp) (by go_simp) (by go_simp) (by go_simp), res_of (by go_simp) (by go_simp) (by go_simp) (by go_simp) (by go_simp), below_on (below_on hb1 _) _⟩
              · simp only [List.getElem_toArray, List.getElem_cons_zero, List.getElem_cons_succ]
                go_simp
                refine hK.out _ _ (fun _ => HKP.out _ ((below_on (Below.refl _ _) _).drew)) ?_
                clear hK K
                refine anyT_ready [5, 10] (by kernel_rfl) (by simp) ?_
                refine EachT.cons rfl (fun K hK => ?_) (EachT.cons rfl (fun K hK => ?_) EachT.nil)
                · simp only [List.getElem_toArray, List.getElem_cons_zero, List.getElem_cons_succ]
                  go_simp
                  refine (HDO.out _ ((below_on (Below.refl _ _) _).drew)).mono ?_
                  rintro e w1 ⟨rfl, hb1, hl1⟩
                  obtain ⟨p0, p1, p2, p3, p4, p5, p6, p7, p8, p9, pf⟩ := z10 rfl (und hl1.out)
                  have hs1 : wr.heap.size < w1.heap.size := World.block_lt_of_cell? w1 _ p0
                  clear hl1
                  (try go_wp2_with fail)
                  refine hK.out _ _ (fun _ => HKP.out _ hb1) ?_
                  clear hK K
                  refine anyT_take 6 [] (.tuple #[.agg #[.int .i64 (o.st 0), .int .i64 (o.st 1), .int .i64 (o.st 2), .int .i64 (o.st 3), .int .i64 (o.st 4), .int .i64 (o.st 5), .int .i64 (o.st 6), .int .i64 (o.st 7), .int .i64 (o.st 8), .int .i64 (o.st 9)], .agg #[.int .i64 o.code, .int .i64 (o.regs 0), .int .i64 (o.regs 1), .int .i64 (o.regs 2), .int .i64 (o.regs 3)]]) rfl (by kernel_rfl) (by kernel_rfl) (by kernel_rfl) (by kernel_rfl) (by kernel_rfl) (fun _ _ _ h => h) (Or.inl ⟨by rfl, ?_⟩) (HKP.out _ hb1) ?_
                  · rintro w' ⟨hb', hc'⟩
                    go_simp
                  simp only [List.getElem_toArray, List.getElem_cons_zero, List.getElem_cons_succ, Act.put, List.setIfInBounds_toArray, List.set_cons_zero, List.set_cons_succ]
                  refine anyT_take 7 [] (.agg #[.int .i64 (o.st 0), .int .i64 (o.st 1), .int .i64 (o.st 2), .int .i64 (o.st 3), .int .i64 (o.st 4), .int .i64 (o.st 5), .int .i64 (o.st 6), .int .i64 (o.st 7), .int .i64 (o.st 8), .int .i64 (o.st 9)]) rfl (by kernel_rfl) (by kernel_rfl) (by kernel_rfl) (by kernel_rfl) (by kernel_rfl) (fun _ _ _ h => h) (Or.inl ⟨by rfl, ?_⟩) (HKP.out _ hb1) ?_
                  · rintro w' ⟨hb', hc'⟩
                    go_simp
                  simp only [List.getElem_toArray, List.getElem_cons_zero, List.getElem_cons_succ, Act.put, List.setIfInBounds_toArray, List.set_cons_zero, List.set_cons_succ]
                  refine anyT_take 8 [] (.agg #[.int .i64 o.code, .int .i64 (o.regs 0), .int .i64 (o.regs 1), .int .i64 (o.regs 2), .int .i64 (o.regs 3)]) rfl (by kernel_rfl) (by kernel_rfl) (by kernel_rfl) (by kernel_rfl) (by kernel_rfl) (fun _ _ _ h => h) (Or.inl ⟨by rfl, ?_⟩) (HKP.out _ hb1) ?_
                  · rintro w' ⟨hb', hc'⟩
                    go_simp
                  simp only [List.getElem_toArray, List.getElem_cons_zero, List.getElem_cons_succ, Act.put, List.setIfInBounds_toArray, List.set_cons_zero, List.set_cons_succ]
                  refine anyT_ready [10] (by kernel_rfl) (by simp) ?_
                  refine EachT.cons rfl (fun K hK => ?_) EachT.nil
                  · simp only [List.getElem_toArray, List.getElem_cons_zero, List.getElem_cons_succ]
                    go_simp
                    refine hK.out _ _ (fun _ => HKP.out _ (below_on hb1 _)) ?_
                    clear hK K
                    refine anyT_ready [11] (by kernel_rfl) (by simp) ?_
                    refine EachT.cons rfl (fun K hK => ?_) EachT.nil
                    · simp only [List.getElem_toArray, List.getElem_cons_zero, List.getElem_cons_succ]
                      go_simp
                      refine hK.out _ _ (fun _ => HKP.out _ (below_on (tenOn_below hb1 (Nat.le_refl _) o.st) _)) ?_
                      clear hK K
                      refine anyT_ready [12] (by kernel_rfl) (by simp) ?_
                      refine EachT.cons rfl (fun K hK => ?_) EachT.nil
                      · simp only [List.getElem_toArray, List.getElem_cons_zero, List.getElem_cons_succ]
                        go_simp
                        refine hK.out _ _ (fun hl => absurd hl (by decide)) ?_
                        clear hK K
                        refine anyT_done (by kernel_rfl) ?_
                        go_wp2_with fail
                        go_meet
                        exact ⟨_, _, rfl, rfl, (Nat.le_refl _), hb1.size, leaf_b (x := fun _ => 0) hb1 (Nat.le_refl _) (lt10 p0 p1 p2 p3 p4 p5 p6 p7 p8 p9) o.st o.code o.regs⟩
                · simp only [List.getElem_toArray, List.getElem_cons_zero, List.getElem_cons_succ]
                  go_simp
                  refine hK.out _ _ (fun _ => HKP.out _ ((below_on (below_on (Below.refl _ _) _) _).drew)) ?_
                  clear hK K
                  refine anyT_ready [5] (by kernel_rfl) (by simp) ?_
                  refine EachT.cons rfl (fun K hK => ?_) EachT.nil
                  · simp only [List.getElem_toArray, List.getElem_cons_zero, List.getElem_cons_succ]
                    go_simp
                    refine (HDO.out _ ((below_on (below_on (Below.refl _ _) _) _).drew)).mono ?_
                    rintro e w1 ⟨rfl, hb1, hl1⟩
                    obtain ⟨q0, q1, q2, q3, q4, qf⟩ := z5 (p := wr.heap.size + 1) (by simp) (und hl1.out)
                    obtain ⟨p0, p1, p2, p3, p4, p5, p6, p7, p8, p9, pf⟩ := z10 rfl (inner (und hl1.out))
                    have hs1 : wr.heap.size < w1.heap.size := World.block_lt_of_cell? w1 _ p0
                    have hs2 : wr.heap.size + 1 < w1.heap.size := World.block_lt_of_cell? w1 _ q0
                    clear hl1
                    (try go_wp2_with fail)
                    refine hK.out _ _ (fun _ => HKP.out _ hb1) ?_
                    clear hK K
                    refine anyT_take 6 [] (.tuple #[.agg #[.int .i64 (o.st 0), .int .i64 (o.st 1), .int .i64 (o.st 2), .int .i64 (o.st 3), .int .i64 (o.st 4), .int .i64 (o.st 5), .int .i64 (o.st 6), .int .i64 (o.st 7), .int .i64 (o.st 8), .int .i64 (o.st 9)], .agg #[.int .i64 o.code, .int .i64 (o.regs 0), .int .i64 (o.regs 1), .int .i64 (o.regs 2), .int .i64 (o.regs 3)]]) rfl (by kernel_rfl) (by kernel_rfl) (by kernel_rfl) (by kernel_rfl) (by kernel_rfl) (fun _ _ _ h => h) (Or.inl ⟨by rfl, ?_⟩) (HKP.out _ hb1) ?_
                    · rintro w' ⟨hb', hc'⟩
                      go_simp
                    simp only [List.getElem_toArray, List.getElem_cons_zero, List.getElem_cons_succ, Act.put, List.setIfInBounds_toArray, List.set_cons_zero, List.set_cons_succ]
                    refine anyT_take 7 [] (.agg #[.int .i64 (o.st 0), .int .i64 (o.st 1), .int .i64 (o.st 2), .int .i64 (o.st 3), .int .i64 (o.st 4), .int .i64 (o.st 5), .int .i64 (o.st 6), .int .i64 (o.st 7), .int .i64 (o.st 8), .int .i64 (o.st 9)]) rfl (by kernel_rfl) (by kernel_rfl) (by kernel_rfl) (by kernel_rfl) (by kernel_rfl) (fun _ _ _ h => h) (Or.inl ⟨by rfl, ?_⟩) (HKP.out _ hb1) ?_
                    · rintro w' ⟨hb', hc'⟩
                      go_simp
                    simp only [List.getElem_toArray, List.getElem_cons_zero, List.getElem_cons_succ, Act.put, List.setIfInBounds_toArray, List.set_cons_zero, List.set_cons_succ]
                    refine anyT_take 8 [] (.agg #[.int .i64 o.code, .int .i64 (o.regs 0), .int .i64 (o.regs 1), .int .i64 (o.regs 2), .int .i64 (o.regs 3)]) rfl (by kernel_rfl) (by kernel_rfl) (by kernel_rfl) (by kernel_rfl) (by kernel_rfl) (fun _ _ _ h => h) (Or.inl ⟨by rfl, ?_⟩) (HKP.out _ hb1) ?_
                    · rintro w' ⟨hb', hc'⟩
                      go_simp
                    simp only [List.getElem_toArray, List.getElem_cons_zero, List.getElem_cons_succ, Act.put, List.setIfInBounds_toArray, List.set_cons_zero, List.set_cons_succ]
                    refine anyT_ready [11] (by kernel_rfl) (by simp) ?_
                    refine EachT.cons rfl (fun K hK => ?_) EachT.nil
                    · simp only [List.getElem_toArray, List.getElem_cons_zero, List.getElem_cons_succ]
                      go_simp
                      refine hK.out _ _ (fun _ => HKP.out _ (tenOn_below hb1 (Nat.le_refl _) o.st)) ?_
                      clear hK K
                      refine anyT_ready [12] (by kernel_rfl) (by simp) ?_
                      refine EachT.cons rfl (fun K hK => ?_) EachT.nil
                      · simp only [List.getElem_toArray, List.getElem_cons_zero, List.getElem_cons_succ]
                        go_simp
                        refine hK.out _ _ (fun hl => absurd hl (by decide)) ?_
                        clear hK K
                        refine anyT_done (by kernel_rfl) ?_
                        go_wp2_with fail
                        go_meet
                        exact ⟨_, _, rfl, rfl, (Nat.le_refl _), (Nat.le_succ _), leaf_d (x := fun _ => 0) hb1 (Nat.le_refl _) (Nat.le_succ _) (by omega) (lt10 p0 p1 p2 p3 p4 p5 p6 p7 p8 p9) q0 q1 q2 q3 q4 o.st o.code o.regs⟩
              · simp only [List.getElem_toArray, List.getElem_cons_zero, List.getElem_cons_succ]
                go_simp
                refine hK.out _ _ (fun _ => HKP.out _ ((below_on (Below.refl _ _) _).drew)) ?_
                clear hK K
                refine anyT_ready [5, 9] (by kernel_rfl) (by simp) ?_
                refine EachT.cons rfl (fun K hK => ?_) (EachT.cons rfl (fun K hK => ?_) EachT.nil)
                · simp only [List.getElem_toArray, List.getElem_cons_zero, List.getElem_cons_succ]
                  go_simp
                  refine (HDO.out _ ((below_on (Below.refl _ _) _).drew)).mono ?_
                  rintro e w1 ⟨rfl, hb1, hl1⟩
                  obtain ⟨q0, q1, q2, q3, q4, qf⟩ := z5 rfl (und hl1.out)
                  have hs1 : wr.heap.size < w1.heap.size := World.block_lt_of_cell? w1 _ q0
                  clear hl1
                  (try go_wp2_with fail)
                  refine hK.out _ _ (fun _ => HKP.out _ hb1) ?_
                  clear hK K
                  refine anyT_take 6 [] (.tuple #[.agg #[.int .i64 (o.st 0), .int .i64 (o.st 1), .int .i64 (o.st 2), .int .i64 (o.st 3), .int .i64 (o.st 4), .int .i64 (o.st 5), .int .i64 (o.st 6), .int .i64 (o.st 7), .int .i64 (o.st 8), .int .i64 (o.st 9)], .agg #[.int .i64 o.code, .int .i64 (o.regs 0), .int .i64 (o.regs 1), .int .i64 (o.regs 2), .int .i64 (o.regs 3)]]) rfl (by kernel_rfl) (by kernel_rfl) (by kernel_rfl) (by kernel_rfl) (by kernel_rfl) (fun _ _ _ h => h) (Or.inl ⟨by rfl, ?_⟩) (HKP.out _ hb1) ?_
                  · rintro w' ⟨hb', hc'⟩
                    go_simp
                  simp only [List.getElem_toArray, List.getElem_cons_zero, List.getElem_cons_succ, Act.put, List.setIfInBounds_toArray, List.set_cons_zero, List.set_cons_succ]
                  refine anyT_take 7 [] (.agg #[.int .i64 (o.st 0), .int .i64 (o.st 1), .int .i64 (o.st 2), .int .i64 (o.st 3), .int .i64 (o.st 4), .int .i64 (o.st 5), .int .i64 (o.st 6), .int .i64 (o.st 7), .int .i64 (o.st 8), .int .i64 (o.st 9)]) rfl (by kernel_rfl) (by kernel_rfl) (by kernel_rfl) (by kernel_rfl) (by kernel_rfl) (fun _ _ _ h => h) (Or.inl ⟨by rfl, ?_⟩) (HKP.out _ hb1) ?_
                  · rintro w' ⟨hb', hc'⟩
                    go_simp
                  simp only [List.getElem_toArray, List.getElem_cons_zero, List.getElem_cons_succ, Act.put, List.setIfInBounds_toArray, List.set_cons_zero, List.set_cons_succ]
                  refine anyT_take 8 [] (.agg #[.int .i64 o.code, .int .i64 (o.regs 0), .int .i64 (o.regs 1), .int .i64 (o.regs 2), .int .i64 (o.regs 3)]) rfl (by kernel_rfl) (by kernel_rfl) (by kernel_rfl) (by kernel_rfl) (by kernel_rfl) (fun _ _ _ h => h) (Or.inl ⟨by rfl, ?_⟩) (HKP.out _ hb1) ?_
                  · rintro w' ⟨hb', hc'⟩
                    go_simp
                  simp only [List.getElem_toArray, List.getElem_cons_zero, List.getElem_cons_succ, Act.put, List.setIfInBounds_toArray, List.set_cons_zero, List.set_cons_succ]
                  refine anyT_ready [9] (by kernel_rfl) (by simp) ?_
                  refine EachT.cons rfl (fun K hK => ?_) EachT.nil
                  · simp only [List.getElem_toArray, List.getElem_cons_zero, List.getElem_cons_succ]
                    go_simp
                    refine hK.out _ _ (fun _ => HKP.out _ (below_on hb1 _)) ?_
                    clear hK K
                    refine anyT_ready [11] (by kernel_rfl) (by simp) ?_
                    refine EachT.cons rfl (fun K hK => ?_) EachT.nil
                    · simp only [List.getElem_toArray, List.getElem_cons_zero, List.getElem_cons_succ]
                      go_simp
                      refine hK.out _ _ (fun _ => HKP.out _ (below_on hb1 _)) ?_
                      clear hK K
                      refine anyT_ready [12] (by kernel_rfl) (by simp) ?_
                      refine EachT.cons rfl (fun K hK => ?_) EachT.nil
                      · simp only [List.getElem_toArray, List.getElem_cons_zero, List.getElem_cons_succ]
                        go_simp
                        refine hK.out _ _ (fun hl => absurd hl (by decide)) ?_
                        clear hK K
                        refine anyT_done (by kernel_rfl) ?_
                        go_wp2_with fail
                        go_meet
                        exact ⟨_, _, rfl, rfl, hb1.size, (Nat.le_refl _), leaf_c hb1 (Nat.le_refl _) q0 q1 q2 q3 q4 o.st o.code o.regs⟩
                · simp only [List.getElem_toArray, List.getElem_cons_zero, List.getElem_cons_succ]
                  go_simp
                  refine hK.out _ _ (fun _ => HKP.out _ ((below_on (below_on (Below.refl _ _) _) _).drew)) ?_
                  clear hK K
                  refine anyT_ready [5] (by kernel_rfl) (by simp) ?_
                  refine EachT.cons rfl (fun K hK => ?_) EachT.nil
                  · simp only [List.getElem_toArray, List.getElem_cons_zero, List.getElem_cons_succ]
                    go_simp
                    refine (HDO.out _ ((below_on (below_on (Below.refl _ _) _) _).drew)).mono ?_
                    rintro e w1 ⟨rfl, hb1, hl1⟩
                    obtain ⟨p0, p1, p2, p3, p4, p5, p6, p7, p8, p9, pf⟩ := z10 (p := wr.heap.size + 1) (by simp) (und hl1.out)
                    obtain ⟨q0, q1, q2, q3, q4, qf⟩ := z5 rfl (inner (und hl1.out))
                    have hs1 : wr.heap.size < w1.heap.size := World.block_lt_of_cell? w1 _ q0
                    have hs2 : wr.heap.size + 1 < w1.heap.size := World.block_lt_of_cell? w1 _ p0
                    clear hl1
                    (try go_wp2_with fail)
                    refine hK.out _ _ (fun _ => HKP.out _ hb1) ?_
                    clear hK K
                    refine anyT_take 6 [] (.tuple #[.agg #[.int .i64 (o.st 0), .int .i64 (o.st 1), .int .i64 (o.st 2), .int .i64 (o.st 3), .int .i64 (o.st 4), .int .i64 (o.st 5), .int .i64 (o.st 6), .int .i64 (o.st 7), .int .i64 (o.st 8), .int .i64 (o.st 9)], .agg #[.int .i64 o.code, .int .i64 (o.regs 0), .int .i64 (o.regs 1), .int .i64 (o.regs 2), .int .i64 (o.regs 3)]]) rfl (by kernel_rfl) (by kernel_rfl) (by kernel_rfl) (by kernel_rfl) (by kernel_rfl) (fun _ _ _ h => h) (Or.inl ⟨by rfl, ?_⟩) (HKP.out _ hb1) ?_
                    · rintro w' ⟨hb', hc'⟩
                      go_simp
                    simp only [List.getElem_toArray, List.getElem_cons_zero, List.getElem_cons_succ, Act.put, List.setIfInBounds_toArray, List.set_cons_zero, List.set_cons_succ]
                    refine anyT_take 7 [] (.agg #[.int .i64 (o.st 0), .int .i64 (o.st 1), .int .i64 (o.st 2), .int .i64 (o.st 3), .int .i64 (o.st 4), .int .i64 (o.st 5), .int .i64 (o.st 6), .int .i64 (o.st 7), .int .i64 (o.st 8), .int .i64 (o.st 9)]) rfl (by kernel_rfl) (by kernel_rfl) (by kernel_rfl) (by kernel_rfl) (by kernel_rfl) (fun _ _ _ h => h) (Or.inl ⟨by rfl, ?_⟩) (HKP.out _ hb1) ?_
                    · rintro w' ⟨hb', hc'⟩
                      go_simp
                    simp only [List.getElem_toArray, List.getElem_cons_zero, List.getElem_cons_succ, Act.put, List.setIfInBounds_toArray, List.set_cons_zero, List.set_cons_succ]
                    refine anyT_take 8 [] (.agg #[.int .i64 o.code, .int .i64 (o.regs 0), .int .i64 (o.regs 1), .int .i64 (o.regs 2), .int .i64 (o.regs 3)]) rfl (by kernel_rfl) (by kernel_rfl) (by kernel_rfl) (by kernel_rfl) (by kernel_rfl) (fun _ _ _ h => h) (Or.inl ⟨by rfl, ?_⟩) (HKP.out _ hb1) ?_
                    · rintro w' ⟨hb', hc'⟩
                      go_simp
                    simp only [List.getElem_toArray, List.getElem_cons_zero, List.getElem_cons_succ, Act.put, List.setIfInBounds_toArray, List.set_cons_zero, List.set_cons_succ]
                    refine anyT_ready [11] (by kernel_rfl) (by simp) ?_
                    refine EachT.cons rfl (fun K hK => ?_) EachT.nil
                    · simp only [List.getElem_toArray, List.getElem_cons_zero, List.getElem_cons_succ]
                      go_simp
                      refine hK.out _ _ (fun _ => HKP.out _ (tenOn_below hb1 (Nat.le_succ _) o.st)) ?_
                      clear hK K
                      refine anyT_ready [12] (by kernel_rfl) (by simp) ?_
                      refine EachT.cons rfl (fun K hK => ?_) EachT.nil
                      · simp only [List.getElem_toArray, List.getElem_cons_zero, List.getElem_cons_succ]
                        go_simp
                        refine hK.out _ _ (fun hl => absurd hl (by decide)) ?_
                        clear hK K
                        refine anyT_done (by kernel_rfl) ?_
                        go_wp2_with fail
                        go_meet
                        exact ⟨_, _, rfl, rfl, (Nat.le_succ _), (Nat.le_refl _), leaf_d (x := fun _ => 0) hb1 (Nat.le_succ _) (Nat.le_refl _) (by omega) (lt10 p0 p1 p2 p3 p4 p5 p6 p7 p8 p9) q0 q1 q2 q3 q4 o.st o.code o.regs⟩
            case rest =>
              obtain ⟨p, q, rfl, rfl, hp, hq, hX, hRs, hb⟩ := hcut
              have hF := HF.out.1.later hb
              have hB : Below w4.heap.size w4 wc := HF.out.2.trans (hb.mono HF.out.2.size)
              have hlt3 : w4.heap.size + 1 + 1 + 1 < wr.heap.size := HF.out.1.lt
              have hoS : ∀ g, vS.ownBlock = some g → w4.heap.size + 4 ≤ g ∧ g < wr.heap.size := fun g hg => owns_lt HF.out.1.so hg
              have hoR : ∀ g, vR.ownBlock = some g → w4.heap.size + 4 ≤ g ∧ g < wr.heap.size := fun g hg => owns_lt HF.out.1.ro hg
              have hst := rows_start (p := p) (q := q) rfl hF hB (by omega) (by omega) hX hRs
              have hnow := hF.now
              rw [← HE.out.1] at hnow
              obtain ⟨k0, k1, k2, k3, k4, k5, k6, k7, k8, k9⟩ := hnow.ten
              obtain ⟨y0, y1, y2, y3, y4, y5, y6, y7, y8, y9⟩ := hX.ten
              have f3 : ∀ k, wc.frozen? ⟨w4.heap.size + 1 + 1 + 1, k, none⟩ = false := hF.free 3 (by omega)
              have HO : Hid ((∀ g, vS.ownBlock = some g → w4.heap.size + 4 ≤ g ∧ g < wr.heap.size) ∧ (∀ g, vR.ownBlock = some g → w4.heap.size + 4 ≤ g ∧ g < wr.heap.size)) := ⟨hoS, hoR⟩
              have HST : Hid _ := hst
              clear HKP HDO c0 hF hnow hX hRs hoS hoR hst hb hB
              go_upto_region 16 with fail
              obtain ⟨T, eT⟩ : ∃ T, T = tenOn wc (w4.heap.size + 1 + 1 + 1) o.st := ⟨_, rfl⟩
              have hst := HST.out
              rw [← eT] at hst
              unfold tenOn at eT
              rw [← eT]
              clear eT HST k0 k1 k2 k3 k4 k5 k6 k7 k8 k9 y0 y1 y2 y3 y4 y5 y6 y7 y8 y9 f3
              obtain ⟨hrow, tp, sp, rp, now, free, bp, rq, t1, t2, t3⟩ := hst
              have nS : ∀ b, b = w4.heap.size + 1 ∨ b = w4.heap.size + 1 + 1 ∨ b = p ∨ b = q ∨ T.heap.size ≤ b → vS.ownBlock ≠ some b := fun b hb e => by have h1 := HO.out.1 b e; have h2 := (owns_lt hrow.so e).2; omega
              have nR : ∀ b, b = w4.heap.size + 1 ∨ b = w4.heap.size + 1 + 1 ∨ b = p ∨ b = q ∨ T.heap.size ≤ b → vR.ownBlock ≠ some b := fun b hb e => by have h1 := HO.out.2 b e; have h2 := (owns_lt hrow.ro e).2; omega
              have HKP : Hid (∀ w' vS' vR' m n xs ys, Rows2 T w4 (w4.heap.size + 4) vS vR w' vS' vR' m n xs ys → w'.cell? ⟨w4.heap.size + 1, 0, none⟩ = some vS ∧ w'.cell? ⟨w4.heap.size + 1 + 1, 0, none⟩ = some vR ∧ Box w' p o.st ∧ ResAt w' q o.code o.regs) := fun w' vS' vR' m n xs ys h =>
                ⟨(h.cell (p := ⟨w4.heap.size + 1, 0, none⟩) (by simp; omega) (nS _ (by simp)) (nR _ (by simp))).trans sp, (h.cell (p := ⟨w4.heap.size + 1 + 1, 0, none⟩) (by simp; omega) (nS _ (by simp)) (nR _ (by simp))).trans rp, fun i hi => (h.cell (p := ⟨p, i, none⟩) t2 (nS _ (by simp)) (nR _ (by simp))).trans (bp i hi), fun i u hu => (h.cell (p := ⟨q, i, none⟩) t3 (nS _ (by simp)) (nR _ (by simp))).trans (rq i u hu)⟩
              have HFZ : Hid (∀ w' vS' vR' m n xs ys, Rows2 T w4 (w4.heap.size + 4) vS vR w' vS' vR' m n xs ys → (∀ k, w'.frozen? ⟨w4.heap.size + 1, k, none⟩ = false) ∧ (∀ k, w'.frozen? ⟨w4.heap.size + 1 + 1, k, none⟩ = false)) := fun w' vS' vR' m n xs ys h =>
                ⟨fun k => (h.froz (p := ⟨w4.heap.size + 1, k, none⟩) (by simp; omega) (nS _ (by simp)) (nR _ (by simp))).trans (free 1 (by omega) k), fun k => (h.froz (p := ⟨w4.heap.size + 1 + 1, k, none⟩) (by simp; omega) (nS _ (by simp)) (nR _ (by simp))).trans (free 2 (by omega) k)⟩
              have HFN : Hid (∀ w' vS' vR' w3, Rows2 T w4 (w4.heap.size + 4) vS vR w' vS' vR' (j + 1) (j + 1) (stCells ((allOut s r).take j) ++ tenL o.st) (resCells ((allOut s r).take j) ++ fiveL o.code o.regs) → (w3 = (w'.setCell ⟨w4.heap.size + 1, 0, none⟩ vS').setCell ⟨w4.heap.size + 1 + 1, 0, none⟩ vR' ∨ w3 = (w'.setCell ⟨w4.heap.size + 1 + 1, 0, none⟩ vR').setCell ⟨w4.heap.size + 1, 0, none⟩ vS') → FillAt w3 w4.heap.size B (j + 1) s r vS' vR' ∧ Below w4.heap.size w4 w3) := fun w' vS' vR' w3 h h3 => by
                have e := HE.out.2
                have n2 := now
                rw [e] at h n2
                rw [← st_take hlt, ← res_take hlt] at h
                rw [← allSt_take hlt] at n2
                exact h.fill rfl (fun g hg => (HO.out.1 g hg).1) (fun g hg => (HO.out.2 g hg).1) t1 tp n2 free sp rp h3
              have HSN : Hid (vS.ownBlock ≠ some T.heap.size ∧ vS.ownBlock ≠ some (T.heap.size + 1)) := ⟨nS _ (by omega), nS _ (by omega)⟩
              have HR0 : Hid (Rows2 T w4 (w4.heap.size + 4) vS vR T vS vR j j (stCells ((allOut s r).take j)) (resCells ((allOut s r).take j))) := hrow
              have hT4 : w4.heap.size + 4 ≤ T.heap.size := by omega
              have h44 : w4.heap.size ≤ w4.heap.size + 4 := by omega
              have hj100 : j ≤ 100 := by omega
              generalize stCells ((allOut s r).take j) = xs at *
              generalize resCells ((allOut s r).take j) = ys at *
              clear hrow tp sp rp now free bp rq nS nR HO HF HE t1 t2 t3 hp hq hlt3
              refine wp_region_till (S := fun w' => w'.cell? ⟨w4.heap.size + 1, 0, none⟩ = some vS ∧ w'.cell? ⟨w4.heap.size + 1 + 1, 0, none⟩ = some vR ∧ Box w' p o.st ∧ ResAt w' q o.code o.regs) (fun i => i == 8 || i == 9) (by kernel_rfl) (HKP.out _ _ _ _ _ _ _ HR0.out.drew) (fun hS => ?_)
              refine anyT_take 0 [3, 7] (vS) rfl (by kernel_rfl) (by kernel_rfl) (by kernel_rfl) (by kernel_rfl) (by kernel_rfl) (fun _ _ _ h => h) (Or.inl ⟨by rfl, ?_⟩) hS ?_
              · rintro w' ⟨s1, s2, s3, s4⟩
                go_simp
              simp only [List.getElem_toArray, List.getElem_cons_zero, Act.put, List.setIfInBounds_toArray, List.set_cons_zero, List.set_cons_succ]
              refine anyT_take 1 [2, 3, 7] (.agg #[.int .i64 (o.st 0), .int .i64 (o.st 1), .int .i64 (o.st 2), .int .i64 (o.st 3), .int .i64 (o.st 4), .int .i64 (o.st 5), .int .i64 (o.st 6), .int .i64 (o.st 7), .int .i64 (o.st 8), .int .i64 (o.st 9)]) rfl (by kernel_rfl) (by kernel_rfl) (by kernel_rfl) (by kernel_rfl) (by kernel_rfl) (fun _ _ _ h => h) (Or.inl ⟨by rfl, ?_⟩) hS ?_
              · rintro w' ⟨s1, s2, s3, s4⟩
                obtain ⟨y0, y1, y2, y3, y4, y5, y6, y7, y8, y9⟩ := s3.ten
                go_simp
              simp only [List.getElem_toArray, List.getElem_cons_zero, List.getElem_cons_succ, Act.put, List.setIfInBounds_toArray, List.set_cons_zero, List.set_cons_succ]
              refine anyT_take 4 [7] (vR) rfl (by kernel_rfl) (by kernel_rfl) (by kernel_rfl) (by kernel_rfl) (by kernel_rfl) (fun _ _ _ h => h) (Or.inl ⟨by rfl, ?_⟩) hS ?_
              · rintro w' ⟨s1, s2, s3, s4⟩
                go_simp
              simp only [List.getElem_toArray, List.getElem_cons_zero, List.getElem_cons_succ, Act.put, List.setIfInBounds_toArray, List.set_cons_zero, List.set_cons_succ]
              refine anyT_take 5 [6, 7] (.agg #[.int .i64 o.code, .int .i64 (o.regs 0), .int .i64 (o.regs 1), .int .i64 (o.regs 2), .int .i64 (o.regs 3)]) rfl (by kernel_rfl) (by kernel_rfl) (by kernel_rfl) (by kernel_rfl) (by kernel_rfl) (fun _ _ _ h => h) (Or.inl ⟨by rfl, ?_⟩) hS ?_
              · rintro w' ⟨s1, s2, s3, s4⟩
                obtain ⟨y0, y1, y2, y3, y4⟩ := s4.five
                go_simp
              simp only [List.getElem_toArray, List.getElem_cons_zero, List.getElem_cons_succ, Act.put, List.setIfInBounds_toArray, List.set_cons_zero, List.set_cons_succ]
              refine anyT_ready [2, 6] (by kernel_rfl) (by simp) ?_
              refine EachT.cons rfl (fun K hK => ?_) (EachT.cons rfl (fun K hK => ?_) EachT.nil)
              · simp only [List.getElem_toArray, List.getElem_cons_zero, List.getElem_cons_succ]
                go_simp
                refine hK.out _ _ (fun _ => HKP.out _ _ _ _ _ _ _ ((Rows2.alloc HR0.out _).drew)) ?_
                clear hK K
                refine anyT_ready [3, 6] (by kernel_rfl) (by simp) ?_
                refine EachT.cons rfl (fun K hK => ?_) (EachT.cons rfl (fun K hK => ?_) EachT.nil)
                · refine step_S rfl (.tmp 61) (.tmp 63) rfl ((Rows2.alloc HR0.out _).drew) h44 hT4 hj100 (by simp [Act.eval]) (T.heap.size) (by simp [Act.eval]) o.st (box_drew (box_newAt T rfl o.st)) ?_
                  intro g1 cap1 w1 hrow1 hk1
                  refine hK.out _ _ (fun _ => HKP.out _ _ _ _ _ _ _ hrow1) ?_
                  clear hK K
                  simp only [List.getElem_toArray, List.getElem_cons_zero, List.getElem_cons_succ, Act.put, List.setIfInBounds_toArray, List.set_cons_zero, List.set_cons_succ]
                  refine anyT_ready [6] (by kernel_rfl) (by simp) ?_
                  refine EachT.cons rfl (fun K hK => ?_) EachT.nil
                  · simp only [List.getElem_toArray, List.getElem_cons_zero, List.getElem_cons_succ]
                    go_simp
                    refine hK.out _ _ (fun _ => HKP.out _ _ _ _ _ _ _ ((Rows2.alloc hrow1 _))) ?_
                    clear hK K
                    refine anyT_ready [7] (by kernel_rfl) (by simp) ?_
                    refine EachT.cons rfl (fun K hK => ?_) EachT.nil
                    · refine step_R rfl (.tmp 65) (.tmp 67) rfl ((Rows2.alloc hrow1 _)) h44 hT4 hj100 (by simp [Act.eval]) (w1.heap.size) (by simp [Act.eval]) o.code o.regs (res_new w1 rfl o.code o.regs) ?_
                      intro g2 cap2 w2 hrow2 hk2
                      obtain ⟨c1, c2, -, -⟩ := HKP.out _ _ _ _ _ _ _ hrow2
                      obtain ⟨f1, f2⟩ := HFZ.out _ _ _ _ _ _ _ hrow2
                      refine hK.out _ _ (fun _ => HKP.out _ _ _ _ _ _ _ hrow2) ?_
                      clear hK K
                      simp only [List.getElem_toArray, List.getElem_cons_zero, List.getElem_cons_succ, Act.put, List.setIfInBounds_toArray, List.set_cons_zero, List.set_cons_succ]
                      refine anyT_ready [8] (by kernel_rfl) (by simp) ?_
                      refine EachT.cons rfl (fun K hK => ?_) EachT.nil
                      · simp only [List.getElem_toArray, List.getElem_cons_zero, List.getElem_cons_succ]
                        go_simp
                        refine hK.out _ _ (fun hl => absurd hl (by decide)) ?_
                        clear hK K
                        refine anyT_ready [9] (by kernel_rfl) (by simp) ?_
                        refine EachT.cons rfl (fun K hK => ?_) EachT.nil
                        · simp only [List.getElem_toArray, List.getElem_cons_zero, List.getElem_cons_succ]
                          go_simp
                          refine hK.out _ _ (fun hl => absurd hl (by decide)) ?_
                          clear hK K
                          refine anyT_done (by kernel_rfl) ?_
                          have hfin := HFN.out _ _ _ _ hrow2 (.inl rfl)
                          clear HKP HFZ HFN HSN HR0 c1 c2 f1 f2 hk1 hk2 hrow1 hrow2 hS
                          go_wp2_with fail
                          go_roundg (r.length - (j + 1))
                          all_goals first | omega | exact ⟨j + 1, _, _, by omega, rfl, by go_num, hfin⟩
                · simp only [List.getElem_toArray, List.getElem_cons_zero, List.getElem_cons_succ]
                  go_simp
                  refine hK.out _ _ (fun _ => HKP.out _ _ _ _ _ _ _ ((Rows2.alloc (Rows2.alloc HR0.out _) _).drew)) ?_
                  clear hK K
                  refine anyT_ready [3] (by kernel_rfl) (by simp) ?_
                  refine EachT.cons rfl (fun K hK => ?_) EachT.nil
                  · refine step_S rfl (.tmp 61) (.tmp 63) rfl ((Rows2.alloc (Rows2.alloc HR0.out _) _).drew) h44 hT4 hj100 (by simp [Act.eval]) (T.heap.size) (by simp [Act.eval]) o.st (box_drew ((box_newAt T rfl o.st).later ((Below.refl _ _).alloc (Nat.le_refl _) _))) ?_
                    intro g1 cap1 w1 hrow1 hk1
                    refine hK.out _ _ (fun _ => HKP.out _ _ _ _ _ _ _ hrow1) ?_
                    clear hK K
                    simp only [List.getElem_toArray, List.getElem_cons_zero, List.getElem_cons_succ, Act.put, List.setIfInBounds_toArray, List.set_cons_zero, List.set_cons_succ]
                    refine anyT_ready [7] (by kernel_rfl) (by simp) ?_
                    refine EachT.cons rfl (fun K hK => ?_) EachT.nil
                    · refine step_R rfl (.tmp 65) (.tmp 67) rfl (hrow1) h44 hT4 hj100 (by simp [Act.eval]) (T.heap.size + 1) (by simp [Act.eval]) o.code o.regs (res_kept hk1 HSN.out.2 (ResAt.drew (res_new _ (by simp) o.code o.regs))) ?_
                      intro g2 cap2 w2 hrow2 hk2
                      obtain ⟨c1, c2, -, -⟩ := HKP.out _ _ _ _ _ _ _ hrow2
                      obtain ⟨f1, f2⟩ := HFZ.out _ _ _ _ _ _ _ hrow2
                      refine hK.out _ _ (fun _ => HKP.out _ _ _ _ _ _ _ hrow2) ?_
                      clear hK K
                      simp only [List.getElem_toArray, List.getElem_cons_zero, List.getElem_cons_succ, Act.put, List.setIfInBounds_toArray, List.set_cons_zero, List.set_cons_succ]
                      refine anyT_ready [8] (by kernel_rfl) (by simp) ?_
                      refine EachT.cons rfl (fun K hK => ?_) EachT.nil
                      · simp only [List.getElem_toArray, List.getElem_cons_zero, List.getElem_cons_succ]
                        go_simp
                        refine hK.out _ _ (fun hl => absurd hl (by decide)) ?_
                        clear hK K
                        refine anyT_ready [9] (by kernel_rfl) (by simp) ?_
                        refine EachT.cons rfl (fun K hK => ?_) EachT.nil
                        · simp only [List.getElem_toArray, List.getElem_cons_zero, List.getElem_cons_succ]
                          go_simp
                          refine hK.out _ _ (fun hl => absurd hl (by decide)) ?_
                          clear hK K
                          refine anyT_done (by kernel_rfl) ?_
                          have hfin := HFN.out _ _ _ _ hrow2 (.inl rfl)
                          clear HKP HFZ HFN HSN HR0 c1 c2 f1 f2 hk1 hk2 hrow1 hrow2 hS
                          go_wp2_with fail
                          go_roundg (r.length - (j + 1))
                          all_goals first | omega | exact ⟨j + 1, _, _, by omega, rfl, by go_num, hfin⟩
              · simp only [List.getElem_toArray, List.getElem_cons_zero, List.getElem_cons_succ]
                go_simp
                refine hK.out _ _ (fun _ => HKP.out _ _ _ _ _ _ _ ((Rows2.alloc HR0.out _).drew)) ?_
                clear hK K
                refine anyT_ready [2] (by kernel_rfl) (by simp) ?_
                refine EachT.cons rfl (fun K hK => ?_) EachT.nil
                · simp only [List.getElem_toArray, List.getElem_cons_zero, List.getElem_cons_succ]
                  go_simp
                  refine hK.out _ _ (fun _ => HKP.out _ _ _ _ _ _ _ ((Rows2.alloc (Rows2.alloc HR0.out _) _).drew)) ?_
                  clear hK K
                  refine anyT_ready [3] (by kernel_rfl) (by simp) ?_
                  refine EachT.cons rfl (fun K hK => ?_) EachT.nil
                  · refine step_S rfl (.tmp 61) (.tmp 63) rfl ((Rows2.alloc (Rows2.alloc HR0.out _) _).drew) h44 hT4 hj100 (by simp [Act.eval]) (T.heap.size + 1) (by simp [Act.eval]) o.st (box_drew (box_newAt _ (by simp) o.st)) ?_
                    intro g1 cap1 w1 hrow1 hk1
                    refine hK.out _ _ (fun _ => HKP.out _ _ _ _ _ _ _ hrow1) ?_
                    clear hK K
                    simp only [List.getElem_toArray, List.getElem_cons_zero, List.getElem_cons_succ, Act.put, List.setIfInBounds_toArray, List.set_cons_zero, List.set_cons_succ]
                    refine anyT_ready [7] (by kernel_rfl) (by simp) ?_
                    refine EachT.cons rfl (fun K hK => ?_) EachT.nil
                    · refine step_R rfl (.tmp 65) (.tmp 67) rfl (hrow1) h44 hT4 hj100 (by simp [Act.eval]) (T.heap.size) (by simp [Act.eval]) o.code o.regs (res_kept hk1 HSN.out.1 (ResAt.drew ((res_new T rfl o.code o.regs).later ((Below.refl _ _).alloc (Nat.le_refl _) _)))) ?_
                      intro g2 cap2 w2 hrow2 hk2
                      obtain ⟨c1, c2, -, -⟩ := HKP.out _ _ _ _ _ _ _ hrow2
                      obtain ⟨f1, f2⟩ := HFZ.out _ _ _ _ _ _ _ hrow2
                      refine hK.out _ _ (fun _ => HKP.out _ _ _ _ _ _ _ hrow2) ?_
                      clear hK K
                      simp only [List.getElem_toArray, List.getElem_cons_zero, List.getElem_cons_succ, Act.put, List.setIfInBounds_toArray, List.set_cons_zero, List.set_cons_succ]
                      refine anyT_ready [8] (by kernel_rfl) (by simp) ?_
                      refine EachT.cons rfl (fun K hK => ?_) EachT.nil
                      · simp only [List.getElem_toArray, List.getElem_cons_zero, List.getElem_cons_succ]
                        go_simp
                        refine hK.out _ _ (fun hl => absurd hl (by decide)) ?_
                        clear hK K
                        refine anyT_ready [9] (by kernel_rfl) (by simp) ?_
                        refine EachT.cons rfl (fun K hK => ?_) EachT.nil
                        · simp only [List.getElem_toArray, List.getElem_cons_zero, List.getElem_cons_succ]
                          go_simp
                          refine hK.out _ _ (fun hl => absurd hl (by decide)) ?_
                          clear hK K
                          refine anyT_done (by kernel_rfl) ?_
                          have hfin := HFN.out _ _ _ _ hrow2 (.inl rfl)
                          clear HKP HFZ HFN HSN HR0 c1 c2 f1 f2 hk1 hk2 hrow1 hrow2 hS
                          go_wp2_with fail
                          go_roundg (r.length - (j + 1))
                          all_goals first | omega | exact ⟨j + 1, _, _, by omega, rfl, by go_num, hfin⟩
          · obtain rfl : j = r.length := by omega
            obtain ⟨V1, eV1⟩ : ∃ V1, V1 = wr := ⟨_, rfl⟩
            subst eV1
            have hTw := HT.out.later hB
            rw [newF_fill] at hTw
            have hBQ : B < w4.heap.size := HT.out.lt
            have hBr : Below w.heap.size w V1 := hB4.trans (hB.mono hB4.size)
            have HFA : Hid (∀ i F w', i < r.length → TabAt w' B (fillF s r F) → V1.grownBy w' (some B) → Calls Tryd.prog 46 #[.int .i64 (i : Int), .pointer (some ⟨w4.heap.size + 1 + 1, 0, none⟩), .pointer (some ⟨w4.heap.size, 0, none⟩), .pointer (some ⟨w4.heap.size + 1, 0, none⟩)] w' fun e w'' => (∃ v, e = .returned v) ∧ TabAt w'' B (fillF s r (markTo F i 10)) ∧ V1.grownBy w'' (some B)) := fun i F w' hi hT hg => fill_any hF hBQ h8 i hi F w' hT hg
            have HN : Hid (Box V1 (w4.heap.size + 1 + 1 + 1) (allSt s r)) := by have := hF.now; rw [List.take_length] at this; exact this
            have HTP : Hid (V1.cell? ⟨w4.heap.size, 0, none⟩ = some (.pointer (some ⟨B, 0, none⟩))) := hF.tp
            have HBR : Hid (Below w.heap.size w V1) := hBr
            clear hF hB hBr HRD hj hlt
            go_wp2_with fail
            go_loopg [16] l.length (fun g x wr => ∃ (n : Nat) (F : Nat → Nat → Bool), n ≤ l.length ∧ g = l.length - n ∧ x = .int .i64 n ∧ TabAt wr B (fillF s r F) ∧ V1.grownBy wr (some B))
            case atStart => exact ⟨0, _, by omega, by omega, rfl, hTw, ⟨rfl, rfl, rfl, Nat.le_refl _, fun _ _ _ => rfl⟩⟩
            case round =>
              clear hTw
              obtain ⟨n, F, hn, hg2, rfl, hT2, hG2⟩ := hrel
              by_cases hnl : n < l.length ∧ 0 < r.length
              · obtain ⟨hn', h0⟩ := hnl
                obtain ⟨pb, poff, rfl, pc⟩ := HC.out n hn'
                have pne : pb ≠ B := by have := World.block_lt_of_cell? w _ pc; simp at this; omega
                replace pc := cell_grown' hG2 (cell_later HBR.out pc) pne
                obtain ⟨k, hk, ek⟩ := index_in l[n] r.length h0 h8
                have hni : (n : Int) < (l.length : Int) := by omega
                have h0i : (0 : Int) < (r.length : Int) := by omega
                have hle : ((r.length : Int) == 0) = false := by rw [beq_eq_false_iff_ne]; omega
                have hfl := HFA.out k F wr hk hT2 hG2
                clear hT2 hG2 pne
                go_wp2_with fail
                rw [ek]
                clear ek pc
                refine hfl.mono ?_
                clear hfl
                rintro e w2 ⟨⟨v, rfl⟩, hT2, hG2⟩
                go_wp2_with fail
                go_roundg (l.length - (n + 1))
                case measure => omega
                case rel => exact ⟨n + 1, _, by omega, rfl, by go_num, hT2, hG2⟩
              · by_cases hn' : n < l.length
                · have hni : (n : Int) < (l.length : Int) := by omega
                  have h0i : ¬ (0 : Int) < (r.length : Int) := fun h => hnl ⟨hn', by omega⟩
                  clear hnl
                  go_wp2_with fail
                  go_loopg [17] r.length (fun g x wr => ∃ (k : Nat) (F : Nat → Nat → Bool), k ≤ r.length ∧ g = r.length - k ∧ x = .int .i64 k ∧ TabAt wr B (fillF s r F) ∧ V1.grownBy wr (some B) ∧ Hid (∀ y, y < 10 → ∀ i, i < k → F i y = true))
                  case atStart => exact ⟨0, F, by omega, by omega, rfl, hT2, hG2, fun _ _ i hi => by omega⟩
                  case round =>
                    clear hT2 hG2
                    obtain ⟨k, F, hk, hg3, rfl, hT3, hG3, hfull⟩ := hrel
                    by_cases hkl : k < r.length
                    · have hki : (k : Int) < (r.length : Int) := by omega
                      have hfl := HFA.out k F wr hkl hT3 hG3
                      clear hT3 hG3
                      go_wp2_with fail
                      refine hfl.mono ?_
                      clear hfl
                      rintro e w3 ⟨⟨v, rfl⟩, hT3, hG3⟩
                      go_wp2_with fail
                      go_roundg (r.length - (k + 1))
                      case measure => omega
                      case rel => exact ⟨k + 1, _, by omega, rfl, by go_num, hT3, hG3, markTo_full hfull.out⟩
                    · obtain rfl : k = r.length := by omega
                      obtain ⟨x, ex⟩ : ∃ x, x = allSt s r := ⟨_, rfl⟩
                      have hq := cell_grown' hG3 HTP.out (show w4.heap.size ≠ B by omega)
                      have hat : Box wr (w4.heap.size + 1 + 1 + 1) x := fun i hi => by rw [ex]; exact cell_grown' hG3 (HN.out i hi) (show w4.heap.size + 1 + 1 + 1 ≠ B by omega)
                      have hBe : Below w.heap.size w wr := HBR.out.grown hG3 HBR.out.size (fun k hk => by cases hk; exact hBw)
                      have HS : Hid (∀ w', Below wr.heap.size wr w' → Calls Tryd.prog 37 #[.pointer (some ⟨B, 0, none⟩)] w' fun e w'' => e = .returned (.agg #[.int .i64 (x 0), .int .i64 (x 1), .int .i64 (x 2), .int .i64 (x 3), .int .i64 (x 4), .int .i64 (x 5), .int .i64 (x 6), .int .i64 (x 7), .int .i64 (x 8), .int .i64 (x 9)]) ∧ Below wr.heap.size wr w'') := fun w' hb => by
                        refine (state_any B _ w' (hT3.later hb) (fun k _ => full_known k)).mono ?_
                        rintro e w'' ⟨he, hb'⟩
                        rw [ret_st (full_val hck.out hfull.out), ← ex] at he
                        exact ⟨he, hb.trans (hb'.mono hb.size)⟩
                      have HV : Hid (∀ w', Below wr.heap.size wr w' → Calls Tryd.prog 35 #[.pointer (some ⟨B, 0, none⟩)] w' fun e w'' => e = .returned (.bool true) ∧ Below wr.heap.size wr w'') := fun w' hb => by
                        refine (over_any B _ w' (hT3.later hb)).mono ?_
                        rintro e w'' ⟨he, hb'⟩
                        rw [full_over hfull.out] at he
                        exact ⟨he, hb.trans (hb'.mono hb.size)⟩
                      have HKP : Hid (∀ w', Below wr.heap.size wr w' → Below wr.heap.size wr w' ∧ w'.rangeAt (w4.heap.size + 1 + 1 + 1) 0 [Value.int .i64 (x 0), .int .i64 (x 1), .int .i64 (x 2), .int .i64 (x 3), .int .i64 (x 4), .int .i64 (x 5), .int .i64 (x 6), .int .i64 (x 7), .int .i64 (x 8), .int .i64 (x 9)] ∧ w'.cell? ⟨w4.heap.size, 0, none⟩ = some (.pointer (some ⟨B, 0, none⟩))) := fun w' hb => ⟨hb, box_range (hat.later hb), cell_later hb hq⟩
                      have u1 : Tryd.prog.underlying 38 = some (.array 10 2) := Tryd.underlying38
                      have u2 : (Tryd.prog.info? 38).map (·.size) = some [Value.int .i64 (x 0), .int .i64 (x 1), .int .i64 (x 2), .int .i64 (x 3), .int .i64 (x 4), .int .i64 (x 5), .int .i64 (x 6), .int .i64 (x 7), .int .i64 (x 8), .int .i64 (x 9)].length := by kernel_rfl
                      have h38 := eq38 x
                      clear hT3 hG3 hq hat HFA HN HTP HBR hck hfull ex HT HC hrf
                      go_wp2_with fail
                      go_region_held3 (fun w' => Below wr.heap.size wr w' ∧ w'.rangeAt (w4.heap.size + 1 + 1 + 1) 0 [Value.int .i64 (x 0), .int .i64 (x 1), .int .i64 (x 2), .int .i64 (x 3), .int .i64 (x 4), .int .i64 (x 5), .int .i64 (x 6), .int .i64 (x 7), .int .i64 (x 8), .int .i64 (x 9)] ∧ w'.cell? ⟨w4.heap.size, 0, none⟩ = some (.pointer (some ⟨B, 0, none⟩))) (first | exact HKP.out _ (Below.refl _ _).drew | exact HKP.out _ hb9 | exact HKP.out _ hb8)
                        (first | (go_at_call 35; refine (HV.out _ (by first | exact (Below.refl _ _).drew | exact Below.refl _ _)).mono ?_; rintro e w8 ⟨rfl, hb8⟩) | (go_at_call 37; refine (HS.out _ hb8).mono ?_; rintro e w9 ⟨rfl, hb9⟩))
                      all_goals go_wp2_with fail
                      all_goals go_ret
                      all_goals exact ⟨rfl, hBe.trans (hb9.mono hBe.size)⟩
                · have hni : ¬ (n : Int) < (l.length : Int) := by omega
                  clear hnl
                  go_wp2_with fail
                  go_loopg [17] r.length (fun g x wr => ∃ (k : Nat) (F : Nat → Nat → Bool), k ≤ r.length ∧ g = r.length - k ∧ x = .int .i64 k ∧ TabAt wr B (fillF s r F) ∧ V1.grownBy wr (some B) ∧ Hid (∀ y, y < 10 → ∀ i, i < k → F i y = true))
                  case atStart => exact ⟨0, F, by omega, by omega, rfl, hT2, hG2, fun _ _ i hi => by omega⟩
                  case round =>
                    clear hT2 hG2
                    obtain ⟨k, F, hk, hg3, rfl, hT3, hG3, hfull⟩ := hrel
                    by_cases hkl : k < r.length
                    · have hki : (k : Int) < (r.length : Int) := by omega
                      have hfl := HFA.out k F wr hkl hT3 hG3
                      clear hT3 hG3
                      go_wp2_with fail
                      refine hfl.mono ?_
                      clear hfl
                      rintro e w3 ⟨⟨v, rfl⟩, hT3, hG3⟩
                      go_wp2_with fail
                      go_roundg (r.length - (k + 1))
                      case measure => omega
                      case rel => exact ⟨k + 1, _, by omega, rfl, by go_num, hT3, hG3, markTo_full hfull.out⟩
                    · obtain rfl : k = r.length := by omega
                      obtain ⟨x, ex⟩ : ∃ x, x = allSt s r := ⟨_, rfl⟩
                      have hq := cell_grown' hG3 HTP.out (show w4.heap.size ≠ B by omega)
                      have hat : Box wr (w4.heap.size + 1 + 1 + 1) x := fun i hi => by rw [ex]; exact cell_grown' hG3 (HN.out i hi) (show w4.heap.size + 1 + 1 + 1 ≠ B by omega)
                      have hBe : Below w.heap.size w wr := HBR.out.grown hG3 HBR.out.size (fun k hk => by cases hk; exact hBw)
                      have HS : Hid (∀ w', Below wr.heap.size wr w' → Calls Tryd.prog 37 #[.pointer (some ⟨B, 0, none⟩)] w' fun e w'' => e = .returned (.agg #[.int .i64 (x 0), .int .i64 (x 1), .int .i64 (x 2), .int .i64 (x 3), .int .i64 (x 4), .int .i64 (x 5), .int .i64 (x 6), .int .i64 (x 7), .int .i64 (x 8), .int .i64 (x 9)]) ∧ Below wr.heap.size wr w'') := fun w' hb => by
                        refine (state_any B _ w' (hT3.later hb) (fun k _ => full_known k)).mono ?_
                        rintro e w'' ⟨he, hb'⟩
                        rw [ret_st (full_val hck.out hfull.out), ← ex] at he
                        exact ⟨he, hb.trans (hb'.mono hb.size)⟩
                      have HV : Hid (∀ w', Below wr.heap.size wr w' → Calls Tryd.prog 35 #[.pointer (some ⟨B, 0, none⟩)] w' fun e w'' => e = .returned (.bool true) ∧ Below wr.heap.size wr w'') := fun w' hb => by
                        refine (over_any B _ w' (hT3.later hb)).mono ?_
                        rintro e w'' ⟨he, hb'⟩
                        rw [full_over hfull.out] at he
                        exact ⟨he, hb.trans (hb'.mono hb.size)⟩
                      have HKP : Hid (∀ w', Below wr.heap.size wr w' → Below wr.heap.size wr w' ∧ w'.rangeAt (w4.heap.size + 1 + 1 + 1) 0 [Value.int .i64 (x 0), .int .i64 (x 1), .int .i64 (x 2), .int .i64 (x 3), .int .i64 (x 4), .int .i64 (x 5), .int .i64 (x 6), .int .i64 (x 7), .int .i64 (x 8), .int .i64 (x 9)] ∧ w'.cell? ⟨w4.heap.size, 0, none⟩ = some (.pointer (some ⟨B, 0, none⟩))) := fun w' hb => ⟨hb, box_range (hat.later hb), cell_later hb hq⟩
                      have u1 : Tryd.prog.underlying 38 = some (.array 10 2) := Tryd.underlying38
                      have u2 : (Tryd.prog.info? 38).map (·.size) = some [Value.int .i64 (x 0), .int .i64 (x 1), .int .i64 (x 2), .int .i64 (x 3), .int .i64 (x 4), .int .i64 (x 5), .int .i64 (x 6), .int .i64 (x 7), .int .i64 (x 8), .int .i64 (x 9)].length := by kernel_rfl
                      have h38 := eq38 x
                      clear hT3 hG3 hq hat HFA HN HTP HBR hck hfull ex HT HC hrf
                      go_wp2_with fail
                      go_region_held3 (fun w' => Below wr.heap.size wr w' ∧ w'.rangeAt (w4.heap.size + 1 + 1 + 1) 0 [Value.int .i64 (x 0), .int .i64 (x 1), .int .i64 (x 2), .int .i64 (x 3), .int .i64 (x 4), .int .i64 (x 5), .int .i64 (x 6), .int .i64 (x 7), .int .i64 (x 8), .int .i64 (x 9)] ∧ w'.cell? ⟨w4.heap.size, 0, none⟩ = some (.pointer (some ⟨B, 0, none⟩))) (first | exact HKP.out _ (Below.refl _ _).drew | exact HKP.out _ hb9 | exact HKP.out _ hb8)
                        (first | (go_at_call 35; refine (HV.out _ (by first | exact (Below.refl _ _).drew | exact Below.refl _ _)).mono ?_; rintro e w8 ⟨rfl, hb8⟩) | (go_at_call 37; refine (HS.out _ hb8).mono ?_; rintro e w9 ⟨rfl, hb9⟩))
                      all_goals go_wp2_with fail
                      all_goals go_ret
                      all_goals exact ⟨rfl, hBe.trans (hb9.mono hBe.size)⟩
      · have t0 : (cc != 0) = true := by simp [h0]
        clear h0 HCC
        go_wp2_with fail
        go_ret
        exact ⟨rfl, hB3⟩
  · go_wp2_with fail
    go_ret
    exact ⟨rfl, hB1⟩
end Go.Proofs.YtjkffknipbddoaaDoor
