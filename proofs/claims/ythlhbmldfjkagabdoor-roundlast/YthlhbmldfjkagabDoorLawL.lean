/-
  The walk of the law RoundLast.
-/
import Derived.Test.YthlhbmldfjkagabDoorBegR
import Derived.Test.YthlhbmldfjkagabDoorDoA
import Derived.Test.YthlhbmldfjkagabDoorRndG
import Derived.Test.YthlhbmldfjkagabDoorSlotsA
namespace Go.Proofs.YthlhbmldfjkagabDoor
open Go.RowKit Go.Shelf

theorem isKey_in (k : Nat) (hk : k < 10) (w : World) : Calls Tryd.prog 41 #[.int .i64 (k : Int)] w fun e w' => e = .returned (.bool true) ∧ w' = w := by
  have hki : (k : Int) < 10 := by omega
  go_enter Tryd.func41, Tryd.ntmps41
  go_wp2_with fail
  go_ret
  exact ⟨rfl, rfl⟩
theorem isKey_out (k : Int) (hk : k < 0 ∨ 10 ≤ k) (w : World) : Calls Tryd.prog 41 #[.int .i64 k] w fun e w' => e = .returned (.bool false) ∧ w' = w := by
  by_cases h0 : k < 0
  · have h0' : ¬ 0 ≤ k := by omega
    go_enter Tryd.func41, Tryd.ntmps41
    go_wp2_with fail
    go_ret
    exact ⟨rfl, rfl⟩
  · have h0' : 0 ≤ k := by omega
    have h1 : ¬ k < 10 := by omega
    clear h0 hk
    go_enter Tryd.func41, Tryd.ntmps41
    go_wp2_with fail
    go_ret
    exact ⟨rfl, rfl⟩
theorem fold_known {L : List Slot4} (h : ∀ t ∈ L, t.op = false) : L.foldl (fun acc t => if (!t.vo) = true then t.n else acc) 0 = valF L := by
  have hc : lastF knownP L = lastF (fun t => !t.vo) L := lastF_congr fun t ht => by simp [knownP, h t ht]
  rw [← last_fold (fun t => !t.vo) L 0]
  unfold valF
  rw [hc]
  cases lastF (fun t => !t.vo) L <;> rfl
theorem NumsAt.later {w w' : World} {v : Value} {l : List Int} (h : NumsAt w v l) (hb : Below w.heap.size w w') : NumsAt w' v l := by
  obtain ⟨a, cap, rfl, h⟩ := h
  exact ⟨a, cap, rfl, fun i hi => by obtain ⟨b, off, e, hc⟩ := h i hi; exact ⟨b, off, e, cell_later hb hc⟩⟩

set_option maxRecDepth 100000 in
set_option maxHeartbeats 4000000 in
theorem last_law (v : Value) (r : List (List Op5)) (s : Nat → Int) (a : Option Addr) (cap : Nat) (l : List Int) (w : World) (hr : RoundAt w v r) (hf : Fits r) (hl : NumsAt w (.slice a l.length cap) l) (hmax : l.length ≤ 9223372036854775807) (kk : Int) (hL : Lim w) :
    Calls Tryd.prog 9 #[stV s, v, .slice a l.length cap, .int .i64 kk] w fun e w' => e = .returned (.bool true) ∧ Below w.heap.size w w' := by
  show Calls Tryd.prog 9 #[.agg #[.int .i64 (s 0), .int .i64 (s 1), .int .i64 (s 2), .int .i64 (s 3), .int .i64 (s 4), .int .i64 (s 5), .int .i64 (s 6), .int .i64 (s 7), .int .i64 (s 8), .int .i64 (s 9)], _, _, _] w _
  have hB0 : Below w.heap.size w (w.alloc (.cells #[.int .i64 (s 0), .int .i64 (s 1), .int .i64 (s 2), .int .i64 (s 3), .int .i64 (s 4), .int .i64 (s 5), .int .i64 (s 6), .int .i64 (s 7), .int .i64 (s 8), .int .i64 (s 9)] 23)) := (Below.refl _ _).alloc (Nat.le_refl _) _
  have hX0 := box_new w s
  have HNums : Hid (NumsAt w (.slice a l.length cap) l) := hl
  clear hl
  have HR := hr
  obtain ⟨ra, rcap, rfl, hr0⟩ := hr
  have hrm := hf.1
  go_enter Tryd.func9, Tryd.ntmps9
  go_wp2_with fail
  refine (begunR_any _ (hL.later hB0)).mono ?_
  rintro e w1 ⟨rfl, hb1⟩
  have hB1 : Below w.heap.size w w1 := hB0.trans (hb1.mono (by simp))
  have hX1 := hX0.later hb1
  clear hB0 hb1 hX0
  go_wp2_with fail
  refine (great_any _ r _ (HR.later hB1) hf).mono ?_
  rintro e w2 ⟨⟨g, rfl⟩, rfl⟩
  cases g
  · by_cases hp : 300 < l.length
    · have hpi : (300 : Int) < (l.length : Int) := by omega
      go_wp2_with fail
      go_ret
      exact ⟨rfl, hB1⟩
    · have hpi : ¬ (300 : Int) < (l.length : Int) := by omega
      by_cases hkk : 0 ≤ kk ∧ kk < 10
      · obtain ⟨k, rfl⟩ : ∃ k : Nat, kk = k := ⟨kk.toNat, by omega⟩
        have hk : k < 10 := by omega
        have hki : (k : Int) < 10 := by omega
        have hik := isKey_in k hk w2
        obtain ⟨k0, k1, k2, k3, k4, k5, k6, k7, k8, k9⟩ := hX1.ten
        by_cases h0 : roundF r = 0
        · have hck : Hid (∀ d ∈ r, (checkF d).1 = 0) := (roundF_zero.1 h0).2
          have h8 : r.length ≤ 8 := (roundF_zero.1 h0).1
          have H0 : Hid (roundF r = 0) := h0
          have hrun := run_good _ r s a cap l w2 (HR.later hB1) hf h0 (hL.later hB1) (HNums.out.later hB1) (by omega)
          obtain ⟨y, hy⟩ : ∃ y, y = allSt s r := ⟨_, rfl⟩
          rw [← hy] at hrun
          have HY : Hid (y = allSt s r) := hy
          simp only [stV] at hrun
          clear h0 hkk hy
          go_wp2_with fail
          refine hik.mono ?_
          rintro e wk ⟨rfl, rfl⟩
          clear hik
          go_wp2_with fail
          refine hrun.mono ?_
          clear hrun k0 k1 k2 k3 k4 k5 k6 k7 k8 k9
          rintro e w3 ⟨G, rfl, -, hb3⟩
          have hX3 := hX1.later hb3
          have hB3 : Below w.heap.size w w3 := hB1.trans (hb3.mono hB1.size)
          clear hb3 hX1 hB1
          obtain ⟨W3, e3⟩ : ∃ W3, W3 = w3.alloc (.cells #[.int .i64 (y 0), .int .i64 (y 1), .int .i64 (y 2), .int .i64 (y 3), .int .i64 (y 4), .int .i64 (y 5), .int .i64 (y 6), .int .i64 (y 7), .int .i64 (y 8), .int .i64 (y 9)] 23) := ⟨_, rfl⟩
          have hA3 : Below w3.heap.size w3 W3 := by rw [e3]; exact (Below.refl _ _).alloc (Nat.le_refl _) _
          have hY3 : Box W3 w3.heap.size y := by rw [e3]; exact box_new w3 y
          have hXW := hX3.later hA3
          have hBW : Below w.heap.size w W3 := hB3.trans (hA3.mono hB3.size)
          have hw3 : w.heap.size ≤ w3.heap.size := hB3.size
          have hxk := hXW k hk
          obtain ⟨k0, k1, k2, k3, k4, k5, k6, k7, k8, k9⟩ := hXW.ten
          have hlt0 : w.heap.size < W3.heap.size := World.block_lt_of_cell? W3 _ k0
          go_upto_region 6 with fail
          rw [← e3]
          clear e3 hA3 hX3 hB3
          have hfP : ∀ o, (W3.alloc (.cells #[.int .i64 (s 0), .int .i64 (s 1), .int .i64 (s 2), .int .i64 (s 3), .int .i64 (s 4), .int .i64 (s 5), .int .i64 (s 6), .int .i64 (s 7), .int .i64 (s 8), .int .i64 (s 9)] 23)).frozen? ⟨W3.heap.size, o, none⟩ = false := fun o => by go_simp
          have hbP : Box (W3.alloc (.cells #[.int .i64 (s 0), .int .i64 (s 1), .int .i64 (s 2), .int .i64 (s 3), .int .i64 (s 4), .int .i64 (s 5), .int .i64 (s 6), .int .i64 (s 7), .int .i64 (s 8), .int .i64 (s 9)] 23)) W3.heap.size s := box_new W3 s
          have hBP : Below W3.heap.size W3 (W3.alloc (.cells #[.int .i64 (s 0), .int .i64 (s 1), .int .i64 (s 2), .int .i64 (s 3), .int .i64 (s 4), .int .i64 (s 5), .int .i64 (s 6), .int .i64 (s 7), .int .i64 (s 8), .int .i64 (s 9)] 23)) := (Below.refl _ _).alloc (Nat.le_refl _) _
          go_upto_region 10 with fail
          generalize W3.alloc (.cells #[.int .i64 (s 0), .int .i64 (s 1), .int .i64 (s 2), .int .i64 (s 3), .int .i64 (s 4), .int .i64 (s 5), .int .i64 (s 6), .int .i64 (s 7), .int .i64 (s 8), .int .i64 (s 9)] 23) = V at *
          clear k0 k1 k2 k3 k4 k5 k6 k7 k8 k9 hxk
          have hs0 : Hid (s k = allSt s (r.take 0) k) := rfl
          go_wp2_with fail
          go_loopg [12, 14] r.length (fun g v i wr => ∃ j : Nat, j ≤ r.length ∧ g = r.length - j ∧ i = .int .i64 j ∧ v = .int .i64 (allSt s (r.take j) k) ∧ Box wr W3.heap.size (allSt s (r.take j)) ∧ (∀ o, wr.frozen? ⟨W3.heap.size, o, none⟩ = false) ∧ Below W3.heap.size W3 wr)
          case atStart => exact ⟨0, by omega, by omega, rfl, rfl, hbP, hfP, hBP⟩
          case round =>
            clear hbP hfP hBP
            obtain ⟨j, hj, hg, rfl, rfl, hN, hfr, hB⟩ := hrel
            have hBw : Below w.heap.size w wr := hBW.trans (hB.mono hBW.size)
            by_cases hlt : j < r.length
            · obtain ⟨b, off, rfl, dv, c0, hD⟩ := hr0 j hlt
              replace c0 := cell_later hBw c0
              replace hD := hD.later hBw
              have hji : (j : Int) < (r.length : Int) := by omega
              have hck' := hck.out r[j] (List.getElem_mem hlt)
              obtain ⟨x, ex⟩ : ∃ x, x = allSt s (r.take j) := ⟨_, rfl⟩
              obtain ⟨o, eo⟩ : ∃ o, o = outAt s r j := ⟨_, rfl⟩
              have hdo := allOut_get (s := s) hlt
              have hnx : Hid (allSt s (r.take (j + 1)) = o.st) := by show _ = _; rw [eo]; exact allSt_take hlt
              rw [← ex, ← eo] at hdo
              rw [← ex] at hN
              have HDO : Hid (∀ w', Below wr.heap.size wr w' → Calls Tryd.prog 42 #[.agg #[.int .i64 (x 0), .int .i64 (x 1), .int .i64 (x 2), .int .i64 (x 3), .int .i64 (x 4), .int .i64 (x 5), .int .i64 (x 6), .int .i64 (x 7), .int .i64 (x 8), .int .i64 (x 9)], dv] w' fun e w'' => e = .returned (.tuple #[.agg #[.int .i64 (o.st 0), .int .i64 (o.st 1), .int .i64 (o.st 2), .int .i64 (o.st 3), .int .i64 (o.st 4), .int .i64 (o.st 5), .int .i64 (o.st 6), .int .i64 (o.st 7), .int .i64 (o.st 8), .int .i64 (o.st 9)], .agg #[.int .i64 o.code, .int .i64 (o.regs 0), .int .i64 (o.regs 1), .int .i64 (o.regs 2), .int .i64 (o.regs 3)]]) ∧ Below wr.heap.size wr w'' ∧ Hid (Below w'.heap.size w' w'')) := fun w' hb => by
                refine (ref_any dv r[j] x w' (hD.later hb) (check_len hck') (checkF_alone hck')).mono ?_
                rintro e w'' ⟨he, hb'⟩
                rw [← hdo] at he
                exact ⟨he, hb.trans (hb'.mono hb.size), hb'⟩
              have HKP : Hid (∀ w', Below wr.heap.size wr w' → Box w' W3.heap.size x ∧ w'.cell? ⟨b, off + j, none⟩ = some dv) := fun w' hb => ⟨hN.later hb, cell_later hb c0⟩
              have HF : Hid (Box wr W3.heap.size x ∧ (∀ o, wr.frozen? ⟨W3.heap.size, o, none⟩ = false) ∧ Below W3.heap.size W3 wr) := ⟨hN, hfr, hB⟩
              have hPz : W3.heap.size < wr.heap.size := World.block_lt_of_cell? wr _ (hN 0 (by omega))
              clear hB hD hN hck' hdo ex eo hfr hBw
              go_wp2_with fail
              go_cut [15, 16] from 50 to 68 (fun c1 c2 wc => ∃ p q, c1 = .pointer (some ⟨p, 0, none⟩) ∧ c2 = .pointer (some ⟨q, 0, none⟩) ∧ wr.heap.size ≤ p ∧ wr.heap.size ≤ q ∧ Box wc p o.st ∧ ResAt wc q o.code o.regs ∧ Below wr.heap.size wr wc)
              case first =>
                refine wp_region_till (S := fun w' => Box w' W3.heap.size x ∧ w'.cell? ⟨b, off + j, none⟩ = some dv) (fun i => i == 12) (by kernel_rfl) (HKP.out _ (Below.refl _ _).drew) (fun hS => ?_)
                refine anyT_take 0 [] (.agg #[.int .i64 (x 0), .int .i64 (x 1), .int .i64 (x 2), .int .i64 (x 3), .int .i64 (x 4), .int .i64 (x 5), .int .i64 (x 6), .int .i64 (x 7), .int .i64 (x 8), .int .i64 (x 9)]) rfl (by kernel_rfl) (by kernel_rfl) (by kernel_rfl) (by kernel_rfl) (by kernel_rfl) (fun _ _ _ h => h) (Or.inl ⟨by rfl, ?_⟩) hS ?_
                · rintro w' ⟨hb', hc'⟩
                  obtain ⟨y0, y1, y2, y3, y4, y5, y6, y7, y8, y9⟩ := hb'.ten
                  go_simp
                simp only [List.getElem_toArray, List.getElem_cons_zero, Act.put, List.setIfInBounds_toArray, List.set_cons_zero, List.set_cons_succ]
                refine anyT_take 1 [] (.slice (some ⟨b, off, none⟩) r.length rcap) rfl (by kernel_rfl) (by kernel_rfl) (by kernel_rfl) (by kernel_rfl) (by kernel_rfl) (fun _ _ _ h => h) (Or.inl ⟨by rfl, ?_⟩) hS ?_
                · rintro w' ⟨hb', hc'⟩
                  go_simp
                simp only [List.getElem_toArray, List.getElem_cons_zero, List.getElem_cons_succ, Act.put, List.setIfInBounds_toArray, List.set_cons_zero, List.set_cons_succ]
                refine anyT_take 2 [] (.int .i64 (j : Int)) rfl (by kernel_rfl) (by kernel_rfl) (by kernel_rfl) (by kernel_rfl) (by kernel_rfl) (fun _ _ _ h => h) (Or.inl ⟨by rfl, ?_⟩) hS ?_
                · rintro w' ⟨hb', hc'⟩
                  go_simp
                simp only [List.getElem_toArray, List.getElem_cons_zero, List.getElem_cons_succ, Act.put, List.setIfInBounds_toArray, List.set_cons_zero, List.set_cons_succ]
                refine anyT_take 3 [] (.pointer (some ⟨b, off + j, none⟩)) rfl (by kernel_rfl) (by kernel_rfl) (by kernel_rfl) (by kernel_rfl) (by kernel_rfl) (fun _ _ _ h => h) (Or.inl ⟨by rfl, ?_⟩) hS ?_
                · rintro w' ⟨hb', hc'⟩
                  go_simp
                simp only [List.getElem_toArray, List.getElem_cons_zero, List.getElem_cons_succ, Act.put, List.setIfInBounds_toArray, List.set_cons_zero, List.set_cons_succ]
                refine anyT_take 4 [] (dv) rfl (by kernel_rfl) (by kernel_rfl) (by kernel_rfl) (by kernel_rfl) (by kernel_rfl) (fun _ _ _ h => h) (Or.inl ⟨by rfl, ?_⟩) hS ?_
                · rintro w' ⟨hb', hc'⟩
                  go_simp
                simp only [List.getElem_toArray, List.getElem_cons_zero, List.getElem_cons_succ, Act.put, List.setIfInBounds_toArray, List.set_cons_zero, List.set_cons_succ]
                refine anyT_ready [5, 9, 10] (by kernel_rfl) (by simp) ?_
                refine EachT.cons rfl (fun K hK => ?_) (EachT.cons rfl (fun K hK => ?_) (EachT.cons rfl (fun K hK => ?_) EachT.nil))
                · simp only [List.getElem_toArray, List.getElem_cons_zero, List.getElem_cons_succ]
                  go_simp
                  refine (HDO.out _ ((Below.refl _ _).drew)).mono ?_
                  rintro e w1 ⟨rfl, hb1, hl1⟩
                  clear hl1
                  (try go_wp2_with fail)
                  refine hK.out _ _ (fun _ => HKP.out _ hb1) ?_
                  clear hK K
                  refine anyT_take 6 [] (.tuple #[.agg #[.int .i64 (o.st 0), .int .i64 (o.st 1), .int .i64 (o.st 2), .int .i64 (o.st 3), .int .i64 (o.st 4), .int .i64 (o.st 5), .int .i64 (o.st 6), .int .i64 (o.st 7), .int .i64 (o.st 8), .int .i64 (o.st 9)], .agg #[.int .i64 o.code, .int .i64 (o.regs 0), .int .i64 (o.regs 1), .int .i64 (o.regs 2), .int .i64 (o.regs 3)]]) rfl (by kernel_rfl) (by kernel_rfl) (by kernel_rfl) (by kernel_rfl) (by kernel_rfl) (fun _ _ _ h => h) (Or.inl ⟨by rfl, ?_⟩) (HKP.out _ hb1) ?_
                  · rintro w' ⟨hb', hc'⟩
                    go_simp
                  simp only [List.getElem_toArray, List.getElem_cons_zero, List.getElem_cons_succ, Act.put, List.setIfInBounds_toArray, List.set_cons_zero, List.set_cons_succ]
                  refine anyT_take 7 [] (.agg #[.int .i64 (o.st 0), .int .i64 (o.st 1), .int .i64 (o.st 2), .int .i64 (o.st 3), .int .i64 (o.st 4), .int .i64 (o.st 5), .int .i64 (o.st 6), .int .i64 (o.st 7), .int .i64 (o.st 8), .int .i64 (o.st 9)]) rfl (by kernel_rfl) (by kernel_rfl) (by kernel_rfl) (by kernel_rfl) (by kernel_rfl) (fun _ _ _ h => h) (Or.inl ⟨by rfl, ?_⟩) (HKP.out _ hb1) ?_
                  · rintro w' ⟨hb', hc'⟩
                    go_simp
                  simp only [List.getElem_toArray, List.getElem_cons_zero, List.getElem_cons_succ, Act.put, List.setIfInBounds_toArray, List.set_cons_zero, List.set_cons_succ]
                  refine anyT_take 8 [] (.agg #[.int .i64 o.code, .int .i64 (o.regs 0), .int .i64 (o.regs 1), .int .i64 (o.regs 2), .int .i64 (o.regs 3)]) rfl (by kernel_rfl) (by kernel_rfl) (by kernel_rfl) (by kernel_rfl) (by kernel_rfl) (fun _ _ _ h => h) (Or.inl ⟨by rfl, ?_⟩) (HKP.out _ hb1) ?_
                  · rintro w' ⟨hb', hc'⟩
                    go_simp
                  simp only [List.getElem_toArray, List.getElem_cons_zero, List.getElem_cons_succ, Act.put, List.setIfInBounds_toArray, List.set_cons_zero, List.set_cons_succ]
                  refine anyT_ready [9, 10] (by kernel_rfl) (by simp) ?_
                  refine EachT.cons rfl (fun K hK => ?_) (EachT.cons rfl (fun K hK => ?_) EachT.nil)
                  · simp only [List.getElem_toArray, List.getElem_cons_zero, List.getElem_cons_succ]
                    go_simp
                    refine hK.out _ _ (fun _ => HKP.out _ (below_on hb1 _)) ?_
                    clear hK K
                    refine anyT_ready [10] (by kernel_rfl) (by simp) ?_
                    refine EachT.cons rfl (fun K hK => ?_) EachT.nil
                    · simp only [List.getElem_toArray, List.getElem_cons_zero, List.getElem_cons_succ]
                      go_simp
                      refine hK.out _ _ (fun _ => HKP.out _ (below_on (below_on hb1 _) _)) ?_
                      clear hK K
                      refine anyT_ready [11] (by kernel_rfl) (by simp) ?_
                      refine EachT.cons rfl (fun K hK => ?_) EachT.nil
                      · simp only [List.getElem_toArray, List.getElem_cons_zero, List.getElem_cons_succ]
                        go_simp
                        refine hK.out _ _ (fun _ => HKP.out _ (below_on (below_on hb1 _) _)) ?_
                        clear hK K
                        refine anyT_ready [12] (by kernel_rfl) (by simp) ?_
                        refine EachT.cons rfl (fun K hK => ?_) EachT.nil
                        · simp only [List.getElem_toArray, List.getElem_cons_zero, List.getElem_cons_succ]
                          go_simp
                          refine hK.out _ _ (fun hl => absurd hl (by decide)) ?_
                          clear hK K
                          refine anyT_done (by kernel_rfl) ?_
                          go_wp2_with fail
                          go_meet
                          exact ⟨_, _, rfl, rfl, hb1.size, (Nat.le_succ_of_le hb1.size), lt10 (by go_simp) (by go_simp) (by go_simp) (by go_simp) (by go_simp) (by go_simp) (by go_simp) (by go_simp) (by go_simp) (by go_simp), res_of (by go_simp) (by go_simp) (by go_simp) (by go_simp) (by go_simp), below_on (below_on hb1 _) _⟩
                  · simp only [List.getElem_toArray, List.getElem_cons_zero, List.getElem_cons_succ]
                    go_simp
                    refine hK.out _ _ (fun _ => HKP.out _ (below_on hb1 _)) ?_
                    clear hK K
                    refine anyT_ready [9] (by kernel_rfl) (by simp) ?_
                    refine EachT.cons rfl (fun K hK => ?_) EachT.nil
                    · simp only [List.getElem_toArray, List.getElem_cons_zero, List.getElem_cons_succ]
                      go_simp
                      refine hK.out _ _ (fun _ => HKP.out _ (below_on (below_on hb1 _) _)) ?_
                      clear hK K
                      refine anyT_ready [11] (by kernel_rfl) (by simp) ?_
                      refine EachT.cons rfl (fun K hK => ?_) EachT.nil
                      · simp only [List.getElem_toArray, List.getElem_cons_zero, List.getElem_cons_succ]
                        go_simp
                        refine hK.out _ _ (fun _ => HKP.out _ (below_on (below_on hb1 _) _)) ?_
                        clear hK K
                        refine anyT_ready [12] (by kernel_rfl) (by simp) ?_
                        refine EachT.cons rfl (fun K hK => ?_) EachT.nil
                        · simp only [List.getElem_toArray, List.getElem_cons_zero, List.getElem_cons_succ]
                          go_simp
                          refine hK.out _ _ (fun hl => absurd hl (by decide)) ?_
                          clear hK K
                          refine anyT_done (by kernel_rfl) ?_
                          go_wp2_with fail
                          go_meet
                          exact ⟨_, _, rfl, rfl, (Nat.le_succ_of_le hb1.size), hb1.size, lt10 (by go_simp) (by go_simp) (by go_simp) (by go_simp) (by go_simp) (by go_simp) (by go_simp) (by go_simp) (by go_simp) (by go_simp), res_of (by go_simp) (by go_simp) (by go_simp) (by go_simp) (by go_simp), below_on (below_on hb1 _) _⟩
                · simp only [List.getElem_toArray, List.getElem_cons_zero, List.getElem_cons_succ]
                  go_simp
                  refine hK.out _ _ (fun _ => HKP.out _ ((below_on (Below.refl _ _) _).drew)) ?_
                  clear hK K
                  refine anyT_ready [5, 10] (by kernel_rfl) (by simp) ?_
                  refine EachT.cons rfl (fun K hK => ?_) (EachT.cons rfl (fun K hK => ?_) EachT.nil)
                  · simp only [List.getElem_toArray, List.getElem_cons_zero, List.getElem_cons_succ]
                    go_simp
                    refine (HDO.out _ ((below_on (Below.refl _ _) _).drew)).mono ?_
                    rintro e w1 ⟨rfl, hb1, hl1⟩
                    obtain ⟨p0, p1, p2, p3, p4, p5, p6, p7, p8, p9, pf⟩ := z10 rfl (und hl1.out)
                    have hs1 : wr.heap.size < w1.heap.size := World.block_lt_of_cell? w1 _ p0
                    clear hl1
                    (try go_wp2_with fail)
                    refine hK.out _ _ (fun _ => HKP.out _ hb1) ?_
                    clear hK K
                    refine anyT_take 6 [] (.tuple #[.agg #[.int .i64 (o.st 0), .int .i64 (o.st 1), .int .i64 (o.st 2), .int .i64 (o.st 3), .int .i64 (o.st 4), .int .i64 (o.st 5), .int .i64 (o.st 6), .int .i64 (o.st 7), .int .i64 (o.st 8), .int .i64 (o.st 9)], .agg #[.int .i64 o.code, .int .i64 (o.regs 0), .int .i64 (o.regs 1), .int .i64 (o.regs 2), .int .i64 (o.regs 3)]]) rfl (by kernel_rfl) (by kernel_rfl) (by kernel_rfl) (by kernel_rfl) (by kernel_rfl) (fun _ _ _ h => h) (Or.inl ⟨by rfl, ?_⟩) (HKP.out _ hb1) ?_
                    · rintro w' ⟨hb', hc'⟩
                      go_simp
                    simp only [List.getElem_toArray, List.getElem_cons_zero, List.getElem_cons_succ, Act.put, List.setIfInBounds_toArray, List.set_cons_zero, List.set_cons_succ]
                    refine anyT_take 7 [] (.agg #[.int .i64 (o.st 0), .int .i64 (o.st 1), .int .i64 (o.st 2), .int .i64 (o.st 3), .int .i64 (o.st 4), .int .i64 (o.st 5), .int .i64 (o.st 6), .int .i64 (o.st 7), .int .i64 (o.st 8), .int .i64 (o.st 9)]) rfl (by kernel_rfl) (by kernel_rfl) (by kernel_rfl) (by kernel_rfl) (by kernel_rfl) (fun _ _ _ h => h) (Or.inl ⟨by rfl, ?_⟩) (HKP.out _ hb1) ?_
                    · rintro w' ⟨hb', hc'⟩
                      go_simp
                    simp only [List.getElem_toArray, List.getElem_cons_zero, List.getElem_cons_succ, Act.put, List.setIfInBounds_toArray, List.set_cons_zero, List.set_cons_succ]
                    refine anyT_take 8 [] (.agg #[.int .i64 o.code, .int .i64 (o.regs 0), .int .i64 (o.regs 1), .int .i64 (o.regs 2), .int .i64 (o.regs 3)]) rfl (by kernel_rfl) (by kernel_rfl) (by kernel_rfl) (by kernel_rfl) (by kernel_rfl) (fun _ _ _ h => h) (Or.inl ⟨by rfl, ?_⟩) (HKP.out _ hb1) ?_
                    · rintro w' ⟨hb', hc'⟩
                      go_simp
                    simp only [List.getElem_toArray, List.getElem_cons_zero, List.getElem_cons_succ, Act.put, List.setIfInBounds_toArray, List.set_cons_zero, List.set_cons_succ]
                    refine anyT_ready [10] (by kernel_rfl) (by simp) ?_
                    refine EachT.cons rfl (fun K hK => ?_) EachT.nil
                    · simp only [List.getElem_toArray, List.getElem_cons_zero, List.getElem_cons_succ]
                      go_simp
                      refine hK.out _ _ (fun _ => HKP.out _ (below_on hb1 _)) ?_
                      clear hK K
                      refine anyT_ready [11] (by kernel_rfl) (by simp) ?_
                      refine EachT.cons rfl (fun K hK => ?_) EachT.nil
                      · simp only [List.getElem_toArray, List.getElem_cons_zero, List.getElem_cons_succ]
                        go_simp
                        refine hK.out _ _ (fun _ => HKP.out _ (below_on (tenOn_below hb1 (Nat.le_refl _) o.st) _)) ?_
                        clear hK K
                        refine anyT_ready [12] (by kernel_rfl) (by simp) ?_
                        refine EachT.cons rfl (fun K hK => ?_) EachT.nil
                        · simp only [List.getElem_toArray, List.getElem_cons_zero, List.getElem_cons_succ]
                          go_simp
                          refine hK.out _ _ (fun hl => absurd hl (by decide)) ?_
                          clear hK K
                          refine anyT_done (by kernel_rfl) ?_
                          go_wp2_with fail
                          go_meet
                          exact ⟨_, _, rfl, rfl, (Nat.le_refl _), hb1.size, leaf_b (x := fun _ => 0) hb1 (Nat.le_refl _) (lt10 p0 p1 p2 p3 p4 p5 p6 p7 p8 p9) o.st o.code o.regs⟩
                  · simp only [List.getElem_toArray, List.getElem_cons_zero, List.getElem_cons_succ]
                    go_simp
                    refine hK.out _ _ (fun _ => HKP.out _ ((below_on (below_on (Below.refl _ _) _) _).drew)) ?_
                    clear hK K
                    refine anyT_ready [5] (by kernel_rfl) (by simp) ?_
                    refine EachT.cons rfl (fun K hK => ?_) EachT.nil
                    · simp only [List.getElem_toArray, List.getElem_cons_zero, List.getElem_cons_succ]
                      go_simp
                      refine (HDO.out _ ((below_on (below_on (Below.refl _ _) _) _).drew)).mono ?_
                      rintro e w1 ⟨rfl, hb1, hl1⟩
                      obtain ⟨q0, q1, q2, q3, q4, qf⟩ := z5 (p := wr.heap.size + 1) (by simp) (und hl1.out)
                      obtain ⟨p0, p1, p2, p3, p4, p5, p6, p7, p8, p9, pf⟩ := z10 rfl (inner (und hl1.out))
                      have hs1 : wr.heap.size < w1.heap.size := World.block_lt_of_cell? w1 _ p0
                      have hs2 : wr.heap.size + 1 < w1.heap.size := World.block_lt_of_cell? w1 _ q0
                      clear hl1
                      (try go_wp2_with fail)
                      refine hK.out _ _ (fun _ => HKP.out _ hb1) ?_
                      clear hK K
                      refine anyT_take 6 [] (.tuple #[.agg #[.int .i64 (o.st 0), .int .i64 (o.st 1), .int .i64 (o.st 2), .int .i64 (o.st 3), .int .i64 (o.st 4), .int .i64 (o.st 5), .int .i64 (o.st 6), .int .i64 (o.st 7), .int .i64 (o.st 8), .int .i64 (o.st 9)], .agg #[.int .i64 o.code, .int .i64 (o.regs 0), .int .i64 (o.regs 1), .int .i64 (o.regs 2), .int .i64 (o.regs 3)]]) rfl (by kernel_rfl) (by kernel_rfl) (by kernel_rfl) (by kernel_rfl) (by kernel_rfl) (fun _ _ _ h => h) (Or.inl ⟨by rfl, ?_⟩) (HKP.out _ hb1) ?_
                      · rintro w' ⟨hb', hc'⟩
                        go_simp
                      simp only [List.getElem_toArray, List.getElem_cons_zero, List.getElem_cons_succ, Act.put, List.setIfInBounds_toArray, List.set_cons_zero, List.set_cons_succ]
                      refine anyT_take 7 [] (.agg #[.int .i64 (o.st 0), .int .i64 (o.st 1), .int .i64 (o.st 2), .int .i64 (o.st 3), .int .i64 (o.st 4), .int .i64 (o.st 5), .int .i64 (o.st 6), .int .i64 (o.st 7), .int .i64 (o.st 8), .int .i64 (o.st 9)]) rfl (by kernel_rfl) (by kernel_rfl) (by kernel_rfl) (by kernel_rfl) (by kernel_rfl) (fun _ _ _ h => h) (Or.inl ⟨by rfl, ?_⟩) (HKP.out _ hb1) ?_
                      · rintro w' ⟨hb', hc'⟩
                        go_simp
                      simp only [List.getElem_toArray, List.getElem_cons_zero, List.getElem_cons_succ, Act.put, List.setIfInBounds_toArray, List.set_cons_zero, List.set_cons_succ]
                      refine anyT_take 8 [] (.agg #[.int .i64 o.code, .int .i64 (o.regs 0), .int .i64 (o.regs 1), .int .i64 (o.regs 2), .int .i64 (o.regs 3)]) rfl (by kernel_rfl) (by kernel_rfl) (by kernel_rfl) (by kernel_rfl) (by kernel_rfl) (fun _ _ _ h => h) (Or.inl ⟨by rfl, ?_⟩) (HKP.out _ hb1) ?_
                      · rintro w' ⟨hb', hc'⟩
                        go_simp
                      simp only [List.getElem_toArray, List.getElem_cons_zero, List.getElem_cons_succ, Act.put, List.setIfInBounds_toArray, List.set_cons_zero, List.set_cons_succ]
                      refine anyT_ready [11] (by kernel_rfl) (by simp) ?_
                      refine EachT.cons rfl (fun K hK => ?_) EachT.nil
                      · simp only [List.getElem_toArray, List.getElem_cons_zero, List.getElem_cons_succ]
                        go_simp
                        refine hK.out _ _ (fun _ => HKP.out _ (tenOn_below hb1 (Nat.le_refl _) o.st)) ?_
                        clear hK K
                        refine anyT_ready [12] (by kernel_rfl) (by simp) ?_
                        refine EachT.cons rfl (fun K hK => ?_) EachT.nil
                        · simp only [List.getElem_toArray, List.getElem_cons_zero, List.getElem_cons_succ]
                          go_simp
                          refine hK.out _ _ (fun hl => absurd hl (by decide)) ?_
                          clear hK K
                          refine anyT_done (by kernel_rfl) ?_
                          go_wp2_with fail
                          go_meet
                          exact ⟨_, _, rfl, rfl, (Nat.le_refl _), (Nat.le_succ _), leaf_d (x := fun _ => 0) hb1 (Nat.le_refl _) (Nat.le_succ _) (by omega) (lt10 p0 p1 p2 p3 p4 p5 p6 p7 p8 p9) q0 q1 q2 q3 q4 o.st o.code o.regs⟩
                · simp only [List.getElem_toArray, List.getElem_cons_zero, List.getElem_cons_succ]
                  go_simp
                  refine hK.out _ _ (fun _ => HKP.out _ ((below_on (Below.refl _ _) _).drew)) ?_
                  clear hK K
                  refine anyT_ready [5, 9] (by kernel_rfl) (by simp) ?_
                  refine EachT.cons rfl (fun K hK => ?_) (EachT.cons rfl (fun K hK => ?_) EachT.nil)
                  · simp only [List.getElem_toArray, List.getElem_cons_zero, List.getElem_cons_succ]
                    go_simp
                    refine (HDO.out _ ((below_on (Below.refl _ _) _).drew)).mono ?_
                    rintro e w1 ⟨rfl, hb1, hl1⟩
                    obtain ⟨q0, q1, q2, q3, q4, qf⟩ := z5 rfl (und hl1.out)
                    have hs1 : wr.heap.size < w1.heap.size := World.block_lt_of_cell? w1 _ q0
                    clear hl1
                    (try go_wp2_with fail)
                    refine hK.out _ _ (fun _ => HKP.out _ hb1) ?_
                    clear hK K
                    refine anyT_take 6 [] (.tuple #[.agg #[.int .i64 (o.st 0), .int .i64 (o.st 1), .int .i64 (o.st 2), .int .i64 (o.st 3), .int .i64 (o.st 4), .int .i64 (o.st 5), .int .i64 (o.st 6), .int .i64 (o.st 7), .int .i64 (o.st 8), .int .i64 (o.st 9)], .agg #[.int .i64 o.code, .int .i64 (o.regs 0), .int .i64 (o.regs 1), .int .i64 (o.regs 2), .int .i64 (o.regs 3)]]) rfl (by kernel_rfl) (by kernel_rfl) (by kernel_rfl) (by kernel_rfl) (by kernel_rfl) (fun _ _ _ h => h) (Or.inl ⟨by rfl, ?_⟩) (HKP.out _ hb1) ?_
                    · rintro w' ⟨hb', hc'⟩
                      go_simp
                    simp only [List.getElem_toArray, List.getElem_cons_zero, List.getElem_cons_succ, Act.put, List.setIfInBounds_toArray, List.set_cons_zero, List.set_cons_succ]
                    refine anyT_take 7 [] (.agg #[.int .i64 (o.st 0), .int .i64 (o.st 1), .int .i64 (o.st 2), .int .i64 (o.st 3), .int .i64 (o.st 4), .int .i64 (o.st 5), .int .i64 (o.st 6), .int .i64 (o.st 7), .int .i64 (o.st 8), .int .i64 (o.st 9)]) rfl (by kernel_rfl) (by kernel_rfl) (by kernel_rfl) (by kernel_rfl) (by kernel_rfl) (fun _ _ _ h => h) (Or.inl ⟨by rfl, ?_⟩) (HKP.out _ hb1) ?_
                    · rintro w' ⟨hb', hc'⟩
                      go_simp
                    simp only [List.getElem_toArray, List.getElem_cons_zero, List.getElem_cons_succ, Act.put, List.setIfInBounds_toArray, List.set_cons_zero, List.set_cons_succ]
                    refine anyT_take 8 [] (.agg #[.int .i64 o.code, .int .i64 (o.regs 0), .int .i64 (o.regs 1), .int .i64 (o.regs 2), .int .i64 (o.regs 3)]) rfl (by kernel_rfl) (by kernel_rfl) (by kernel_rfl) (by kernel_rfl) (by kernel_rfl) (fun _ _ _ h => h) (Or.inl ⟨by rfl, ?_⟩) (HKP.out _ hb1) ?_
                    · rintro w' ⟨hb', hc'⟩
                      go_simp
                    simp only [List.getElem_toArray, List.getElem_cons_zero, List.getElem_cons_succ, Act.put, List.setIfInBounds_toArray, List.set_cons_zero, List.set_cons_succ]
                    refine anyT_ready [9] (by kernel_rfl) (by simp) ?_
                    refine EachT.cons rfl (fun K hK => ?_) EachT.nil
                    · simp only [List.getElem_toArray, List.getElem_cons_zero, List.getElem_cons_succ]
                      go_simp
                      refine hK.out _ _ (fun _ => HKP.out _ (below_on hb1 _)) ?_
                      clear hK K
                      refine anyT_ready [11] (by kernel_rfl) (by simp) ?_
                      refine EachT.cons rfl (fun K hK => ?_) EachT.nil
                      · simp only [List.getElem_toArray, List.getElem_cons_zero, List.getElem_cons_succ]
                        go_simp
                        refine hK.out _ _ (fun _ => HKP.out _ (below_on hb1 _)) ?_
                        clear hK K
                        refine anyT_ready [12] (by kernel_rfl) (by simp) ?_
                        refine EachT.cons rfl (fun K hK => ?_) EachT.nil
                        · simp only [List.getElem_toArray, List.getElem_cons_zero, List.getElem_cons_succ]
                          go_simp
                          refine hK.out _ _ (fun hl => absurd hl (by decide)) ?_
                          clear hK K
                          refine anyT_done (by kernel_rfl) ?_
                          go_wp2_with fail
                          go_meet
                          exact ⟨_, _, rfl, rfl, hb1.size, (Nat.le_refl _), leaf_c hb1 (Nat.le_refl _) q0 q1 q2 q3 q4 o.st o.code o.regs⟩
                  · simp only [List.getElem_toArray, List.getElem_cons_zero, List.getElem_cons_succ]
                    go_simp
                    refine hK.out _ _ (fun _ => HKP.out _ ((below_on (below_on (Below.refl _ _) _) _).drew)) ?_
                    clear hK K
                    refine anyT_ready [5] (by kernel_rfl) (by simp) ?_
                    refine EachT.cons rfl (fun K hK => ?_) EachT.nil
                    · simp only [List.getElem_toArray, List.getElem_cons_zero, List.getElem_cons_succ]
                      go_simp
                      refine (HDO.out _ ((below_on (below_on (Below.refl _ _) _) _).drew)).mono ?_
                      rintro e w1 ⟨rfl, hb1, hl1⟩
                      obtain ⟨p0, p1, p2, p3, p4, p5, p6, p7, p8, p9, pf⟩ := z10 (p := wr.heap.size + 1) (by simp) (und hl1.out)
                      obtain ⟨q0, q1, q2, q3, q4, qf⟩ := z5 rfl (inner (und hl1.out))
                      have hs1 : wr.heap.size < w1.heap.size := World.block_lt_of_cell? w1 _ q0
                      have hs2 : wr.heap.size + 1 < w1.heap.size := World.block_lt_of_cell? w1 _ p0
                      clear hl1
                      (try go_wp2_with fail)
                      refine hK.out _ _ (fun _ => HKP.out _ hb1) ?_
                      clear hK K
                      refine anyT_take 6 [] (.tuple #[.agg #[.int .i64 (o.st 0), .int .i64 (o.st 1), .int .i64 (o.st 2), .int .i64 (o.st 3), .int .i64 (o.st 4), .int .i64 (o.st 5), .int .i64 (o.st 6), .int .i64 (o.st 7), .int .i64 (o.st 8), .int .i64 (o.st 9)], .agg #[.int .i64 o.code, .int .i64 (o.regs 0), .int .i64 (o.regs 1), .int .i64 (o.regs 2), .int .i64 (o.regs 3)]]) rfl (by kernel_rfl) (by kernel_rfl) (by kernel_rfl) (by kernel_rfl) (by kernel_rfl) (fun _ _ _ h => h) (Or.inl ⟨by rfl, ?_⟩) (HKP.out _ hb1) ?_
                      · rintro w' ⟨hb', hc'⟩
                        go_simp
                      simp only [List.getElem_toArray, List.getElem_cons_zero, List.getElem_cons_succ, Act.put, List.setIfInBounds_toArray, List.set_cons_zero, List.set_cons_succ]
                      refine anyT_take 7 [] (.agg #[.int .i64 (o.st 0), .int .i64 (o.st 1), .int .i64 (o.st 2), .int .i64 (o.st 3), .int .i64 (o.st 4), .int .i64 (o.st 5), .int .i64 (o.st 6), .int .i64 (o.st 7), .int .i64 (o.st 8), .int .i64 (o.st 9)]) rfl (by kernel_rfl) (by kernel_rfl) (by kernel_rfl) (by kernel_rfl) (by kernel_rfl) (fun _ _ _ h => h) (Or.inl ⟨by rfl, ?_⟩) (HKP.out _ hb1) ?_
                      · rintro w' ⟨hb', hc'⟩
                        go_simp
                      simp only [List.getElem_toArray, List.getElem_cons_zero, List.getElem_cons_succ, Act.put, List.setIfInBounds_toArray, List.set_cons_zero, List.set_cons_succ]
                      refine anyT_take 8 [] (.agg #[.int .i64 o.code, .int .i64 (o.regs 0), .int .i64 (o.regs 1), .int .i64 (o.regs 2), .int .i64 (o.regs 3)]) rfl (by kernel_rfl) (by kernel_rfl) (by kernel_rfl) (by kernel_rfl) (by kernel_rfl) (fun _ _ _ h => h) (Or.inl ⟨by rfl, ?_⟩) (HKP.out _ hb1) ?_
                      · rintro w' ⟨hb', hc'⟩
                        go_simp
                      simp only [List.getElem_toArray, List.getElem_cons_zero, List.getElem_cons_succ, Act.put, List.setIfInBounds_toArray, List.set_cons_zero, List.set_cons_succ]
                      refine anyT_ready [11] (by kernel_rfl) (by simp) ?_
                      refine EachT.cons rfl (fun K hK => ?_) EachT.nil
                      · simp only [List.getElem_toArray, List.getElem_cons_zero, List.getElem_cons_succ]
                        go_simp
                        refine hK.out _ _ (fun _ => HKP.out _ (tenOn_below hb1 (Nat.le_succ _) o.st)) ?_
                        clear hK K
                        refine anyT_ready [12] (by kernel_rfl) (by simp) ?_
                        refine EachT.cons rfl (fun K hK => ?_) EachT.nil
                        · simp only [List.getElem_toArray, List.getElem_cons_zero, List.getElem_cons_succ]
                          go_simp
                          refine hK.out _ _ (fun hl => absurd hl (by decide)) ?_
                          clear hK K
                          refine anyT_done (by kernel_rfl) ?_
                          go_wp2_with fail
                          go_meet
                          exact ⟨_, _, rfl, rfl, (Nat.le_succ _), (Nat.le_refl _), leaf_d (x := fun _ => 0) hb1 (Nat.le_succ _) (Nat.le_refl _) (by omega) (lt10 p0 p1 p2 p3 p4 p5 p6 p7 p8 p9) q0 q1 q2 q3 q4 o.st o.code o.regs⟩
              case rest =>
                obtain ⟨p, q, rfl, rfl, hp, hq, hbp, -, hbc⟩ := hcut
                obtain ⟨hN, hfr, hB⟩ := HF.out
                have hNc := hN.later hbc
                have hfc : ∀ o, wc.frozen? ⟨W3.heap.size, o, none⟩ = false := fun o => by rw [hbc.frozen (p := ⟨W3.heap.size, o, none⟩) hPz]; exact hfr o
                have HT : Hid (Box (tenOn wc W3.heap.size o.st) W3.heap.size o.st ∧ Below W3.heap.size W3 (tenOn wc W3.heap.size o.st) ∧ ∀ m, (tenOn wc W3.heap.size o.st).frozen? ⟨W3.heap.size, m, none⟩ = false) := ⟨tenOn_box hNc o.st, tenOn_below (hB.trans (hbc.mono hB.size)) (Nat.le_refl _) o.st, fun m => by rw [tenOn_froz]; exact hfc m⟩
                obtain ⟨k0, k1, k2, k3, k4, k5, k6, k7, k8, k9⟩ := hNc.ten
                obtain ⟨y0, y1, y2, y3, y4, y5, y6, y7, y8, y9⟩ := hbp.ten
                clear HKP HDO c0 hN hfr hB hbc hbp HF hNc
                go_upto_region 15 with fail
                obtain ⟨W', eT⟩ : ∃ W', W' = tenOn wc W3.heap.size o.st := ⟨_, rfl⟩
                obtain ⟨hT, hTB, hTf⟩ := HT.out
                rw [← eT] at hT hTB hTf
                unfold tenOn at eT
                rw [← eT]
                clear eT HT k0 k1 k2 k3 k4 k5 k6 k7 k8 k9 y0 y1 y2 y3 y4 y5 y6 y7 y8 y9 hfc
                have hTk := hT k hk
                go_wp2_with fail
                go_roundg (r.length - (j + 1))
                case measure => omega
                case rel => exact ⟨j + 1, by omega, rfl, by go_num, by rw [hnx.out], by rw [hnx.out]; exact hT, hTf, hTB⟩
            · obtain rfl : j = r.length := by omega
              rw [List.take_length] at hN
              have hXr : Box wr w.heap.size s := fun i hi => by rw [hB.cell (p := ⟨w.heap.size, i, none⟩) hlt0]; exact hXW i hi
              have hYr : Box wr w3.heap.size y := fun i hi => by rw [hB.cell (p := ⟨w3.heap.size, i, none⟩) (World.block_lt_of_cell? W3 ⟨w3.heap.size, 0, none⟩ (hY3 0 (by omega)))]; exact hY3 i hi
              have hyk : Hid (allSt s (r.take r.length) k = y k) := by show _ = _; rw [List.take_length, HY.out]
              rw [hyk.out]
              have hnew := round_new _ r s wr (HR.later hBw) hf H0.out (hL.later hBw)
              obtain ⟨k0, k1, k2, k3, k4, k5, k6, k7, k8, k9⟩ := hXr.ten
              have hw3r : w3.heap.size < wr.heap.size := World.block_lt_of_cell? wr _ (hYr 0 (by omega))
              clear hr0 hN hfr hB
              go_wp2_with fail
              refine hnew.mono ?_
              clear hnew k0 k1 k2 k3 k4 k5 k6 k7 k8 k9 hXr
              rintro e w4 ⟨c, E, B, vW, C, U, rfl, h4, hb4⟩
              have hY4 := hYr.later hb4
              have hB4 : Below w.heap.size w w4 := hBw.trans (hb4.mono hBw.size)
              have hfi := finish_any h4
              clear hYr hb4
              go_wp2_with fail
              refine hfi.mono ?_
              clear hfi
              rintro e w5 ⟨rfl, X5, T5, h5, hg5, ha5⟩
              have hB5 := h4.below hg5 hB4 hBw.size hB4.size
              have hY5 : Box w5 w3.heap.size y := fun i hi => hg5.cell (hY4 i hi) (fun hk => by have := h4.at'.high hk; dsimp only at this; omega)
              have hno : Hid (∀ t ∈ T5 k, t.op = false) := h5.ord.noOpen ha5 k hk
              have hval : Hid (valF (T5 k) = y k) := by show _ = _; rw [h5.ord.value h5.ck ha5 k hk, HY.out]
              have hfst : Hid ((T5 k)[0]? = some ⟨-1, false, false, s k⟩) := by show _ = _; rw [h5.ord.tab k hk]; rfl
              have hlen9 := (h5.at'.tab.row k hk).len
              have hlen1 : 0 < (T5 k).length := by
                have := hfst.out
                exact (List.getElem?_eq_some_iff.1 this).1
              have hsl := slots_any B k hk T5 w5 h5.at'.tab
              have q0 := h5.at'.ft
              clear h4 hg5 hB4 hY4 ha5
              generalize T5 k = L at *
              go_wp2_with fail
              refine hsl.mono ?_
              clear hsl q0 h5
              rintro e w6 ⟨⟨u, rfl, ho⟩, hb6⟩
              have hY6 := hY5.later hb6
              have hB6 : Below w.heap.size w w6 := hB5.trans (hb6.mono hB5.size)
              obtain ⟨sa, scap, rfl, hsc⟩ := slotsAt_of_owns ho
              obtain ⟨sb, soff, rfl, -, -, -, c3⟩ := hsc 0 hlen1
              have hl0 : ((L.length : Int) == 0) = false := by rw [beq_eq_false_iff_ne]; omega
              have hl1 : (0 : Int) < (L.length : Int) := by omega
              have hs0 : slotAt L 0 = ⟨-1, false, false, s k⟩ := by unfold slotAt; rw [hfst.out]; rfl
              rw [hs0] at c3
              have HST : Hid (s k = (L.take 1).foldl (fun acc t => if (!t.vo) = true then t.n else acc) 0) := by
                show _ = _
                have hcons := List.getElem?_eq_some_iff.1 hfst.out
                rw [List.take_succ_eq_append_getElem hlen1, List.take_zero, List.nil_append]
                simp only [List.foldl_cons, List.foldl_nil]
                rw [hcons.2]; rfl
              clear ho hb6 hY5 hB5 hs0 hfst
              simp only [Nat.zero_mul, Nat.add_zero] at c3
              go_wp2_with fail
              rw [HST.out]
              go_loopg [20, 21] (L.length - 1) (fun g v i wq => ∃ m : Nat, 1 ≤ m ∧ m ≤ L.length ∧ g = L.length - m ∧ i = .int .i64 m ∧ v = .int .i64 ((L.take m).foldl (fun acc t => if (!t.vo) = true then t.n else acc) 0) ∧ wq = w6)
              case atStart => exact ⟨1, by omega, by omega, rfl, rfl, rfl, rfl⟩
              case round =>
                obtain ⟨m, hm1, hm, hg3, rfl, rfl, rfl⟩ := hrel
                clear c3
                by_cases hml : m < L.length
                · obtain ⟨sb', soff', e', -, d1, d2, d3⟩ := hsc m hml
                  cases e'
                  have hmi : (m : Int) < (L.length : Int) := by omega
                  have hop : (slotAt L m).op = false := hno.out _ (by rw [slotAt_get hml]; exact List.getElem_mem _)
                  have hstep : Hid ((L.take (m + 1)).foldl (fun acc t => if (!t.vo) = true then t.n else acc) 0 = if (!(slotAt L m).vo) = true then (slotAt L m).n else (L.take m).foldl (fun acc t => if (!t.vo) = true then t.n else acc) 0) := by
                    show _ = _
                    rw [List.take_succ_eq_append_getElem hml, List.foldl_append, slotAt_get hml]; rfl
                  rw [hop] at d1
                  generalize (L.take m).foldl (fun acc t => if (!t.vo) = true then t.n else acc) 0 = acc at *
                  generalize (slotAt L m).n = nn at *
                  clear hop hsc
                  cases hvo : (slotAt L m).vo with
                  | true =>
                    rw [hvo] at d2 hstep
                    go_wp2_with fail
                    go_roundg (L.length - (m + 1))
                    case measure => omega
                    case rel => exact ⟨m + 1, by omega, by omega, rfl, by go_num, by rw [hstep.out]; rfl, rfl⟩
                  | false =>
                    rw [hvo] at d2 hstep
                    go_wp2_with fail
                    go_roundg (L.length - (m + 1))
                    case measure => omega
                    case rel => exact ⟨m + 1, by omega, by omega, rfl, by go_num, by rw [hstep.out]; rfl, rfl⟩
                · obtain rfl : m = L.length := by omega
                  have hfold : (L.take L.length).foldl (fun acc t => if (!t.vo) = true then t.n else acc) 0 = y k := by
                    rw [List.take_length, fold_known hno.out, hval.out]
                  rw [hfold]
                  have hyk6 := hY6 k hk
                  clear hfold hsc
                  generalize y k = yk at *
                  go_wp2_with fail
                  go_ret
                  exact ⟨rfl, hB6⟩
        · have hrun := run_bad _ r s a cap l.length w2 (HR.later hB1) hf h0 (hL.later hB1)
          have t0 : (roundF r != 0) = true := by simp [h0]
          generalize roundF r = cc at *
          simp only [stV] at hrun
          clear h0 hkk
          go_wp2_with fail
          refine hik.mono ?_
          rintro e wk ⟨rfl, rfl⟩
          clear hik
          go_wp2_with fail
          refine hrun.mono ?_
          clear hrun k0 k1 k2 k3 k4 k5 k6 k7 k8 k9 hX1
          rintro e w3 ⟨rfl, hb3⟩
          have hB3 : Below w.heap.size w w3 := hB1.trans (hb3.mono hB1.size)
          go_wp2_with fail
          go_ret
          exact ⟨rfl, hB3.alloc hB3.size _⟩
      · have hik := isKey_out kk (by omega) w2
        go_wp2_with fail
        refine hik.mono ?_
        rintro e wk ⟨rfl, rfl⟩
        go_wp2_with fail
        go_ret
        exact ⟨rfl, hB1⟩
  · go_wp2_with fail
    go_ret
    exact ⟨rfl, hB1⟩
end Go.Proofs.YthlhbmldfjkagabDoor
