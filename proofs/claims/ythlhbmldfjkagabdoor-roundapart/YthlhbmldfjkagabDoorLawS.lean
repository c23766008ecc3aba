/-
  The walk of the law RoundApart.
-/
import Derived.Test.YthlhbmldfjkagabDoorBegR
import Derived.Test.YthlhbmldfjkagabDoorResA
import Derived.Test.YthlhbmldfjkagabDoorLoadA
import Derived.Test.YthlhbmldfjkagabDoorOwnR
import Derived.Test.YthlhbmldfjkagabDoorWalkT
namespace Go.Proofs.YthlhbmldfjkagabDoor
open Go.RowKit Go.Shelf

/-- The row behind the exchange of two deeds. -/
theorem swap_round {w4 : World} {N g ocap k : Nat} {D : Nat → Value} {r : List (List Op5)} (hO : OwnAt w4 N (.slice (some ⟨g, 0, none⟩) r.length ocap) r.length D r) (hk : k + 1 < r.length) :
    RoundAt ((w4.setCell ⟨g, k, none⟩ (D (k + 1))).setCell ⟨g, k + 1, none⟩ (D k)) (.slice (some ⟨g, 0, none⟩) r.length ocap) (swapR r k) := by
  obtain ⟨g', cap', e', hgc⟩ := owns_cells hO.row (by omega)
  cases e'
  have hc : ∀ i, i < r.length → w4.cell? ⟨g, i, none⟩ = some (D i) := fun i hi => hgc i (D i) (by simp [hi])
  have hgs : Grew (fun b => b = g) w4 ((w4.setCell ⟨g, k, none⟩ (D (k + 1))).setCell ⟨g, k + 1, none⟩ (D k)) := Grew.of_grown (grown_trans (grown_setCell w4 ⟨g, k, none⟩ _) (grown_setCell _ ⟨g, k + 1, none⟩ _)) rfl
  refine ⟨_, ocap, by rw [swapR_length hk], fun i hi => ⟨g, 0, rfl, D (swapI k i), ?_, ?_⟩⟩
  · have hi' : i < r.length := by rw [← swapR_length hk]; exact hi
    rw [Nat.zero_add]
    unfold swapI
    by_cases h1 : i = k
    · rw [if_pos h1, h1, cell_apart _ (by omega)]
      exact World.cell?_setCell_same _ _ _ (hc k (by omega))
    · rw [if_neg h1]
      by_cases h2 : i = k + 1
      · rw [if_pos h2, h2]
        exact World.cell?_setCell_same _ _ _ (by rw [cell_apart _ (by omega)]; exact hc (k + 1) hk)
      · rw [if_neg h2, cell_apart _ (by omega), cell_apart _ (by omega)]
        exact hc i hi'
  · rw [swapR_at hk hi]
    exact ((hO.dd (swapI k i) (swapI_lt hk (by rw [← swapR_length hk]; exact hi)) (swapI_lt hk (by rw [← swapR_length hk]; exact hi))).grew hgs (fun b hb e => hb (by rw [e]; rfl))).at
def fiveAt (W : World) (G a : Nat) (c : Int) (g : Nat → Int) : World := ((((W.setCell ⟨G, a, none⟩ (.int .i64 c)).setCell ⟨G, a + 1, none⟩ (.int .i64 (g 0))).setCell ⟨G, a + 2, none⟩ (.int .i64 (g 1))).setCell ⟨G, a + 3, none⟩ (.int .i64 (g 2))).setCell ⟨G, a + 4, none⟩ (.int .i64 (g 3))
theorem fiveAt_other (W : World) (G a : Nat) (c : Int) (g : Nat → Int) {o : Nat} (h : o < a ∨ a + 5 ≤ o) : (fiveAt W G a c g).cell? ⟨G, o, none⟩ = W.cell? ⟨G, o, none⟩ := by
  unfold fiveAt
  rw [cell_apart _ (by omega), cell_apart _ (by omega), cell_apart _ (by omega), cell_apart _ (by omega), cell_apart _ (by omega)]
theorem fiveAt_same {W : World} {G a : Nat} {u0 u1 u2 u3 u4 : Value} (h0 : W.cell? ⟨G, a, none⟩ = some u0) (h1 : W.cell? ⟨G, a + 1, none⟩ = some u1) (h2 : W.cell? ⟨G, a + 2, none⟩ = some u2) (h3 : W.cell? ⟨G, a + 3, none⟩ = some u3) (h4 : W.cell? ⟨G, a + 4, none⟩ = some u4) (c : Int) (g : Nat → Int) :
    (fiveAt W G a c g).cell? ⟨G, a, none⟩ = some (.int .i64 c) ∧ (fiveAt W G a c g).cell? ⟨G, a + 1, none⟩ = some (.int .i64 (g 0)) ∧ (fiveAt W G a c g).cell? ⟨G, a + 2, none⟩ = some (.int .i64 (g 1)) ∧ (fiveAt W G a c g).cell? ⟨G, a + 3, none⟩ = some (.int .i64 (g 2)) ∧ (fiveAt W G a c g).cell? ⟨G, a + 4, none⟩ = some (.int .i64 (g 3)) := by
  unfold fiveAt
  refine ⟨?_, ?_, ?_, ?_, ?_⟩
  · rw [cell_apart _ (by omega), cell_apart _ (by omega), cell_apart _ (by omega), cell_apart _ (by omega)]; exact World.cell?_setCell_same _ _ _ h0
  · rw [cell_apart _ (by omega), cell_apart _ (by omega), cell_apart _ (by omega)]; exact World.cell?_setCell_same _ _ _ (by rw [cell_apart _ (by omega)]; exact h1)
  · rw [cell_apart _ (by omega), cell_apart _ (by omega)]; exact World.cell?_setCell_same _ _ _ (by rw [cell_apart _ (by omega), cell_apart _ (by omega)]; exact h2)
  · rw [cell_apart _ (by omega)]; exact World.cell?_setCell_same _ _ _ (by rw [cell_apart _ (by omega), cell_apart _ (by omega), cell_apart _ (by omega)]; exact h3)
  · exact World.cell?_setCell_same _ _ _ (by rw [cell_apart _ (by omega), cell_apart _ (by omega), cell_apart _ (by omega), cell_apart _ (by omega)]; exact h4)
theorem fiveAt_grown (W : World) (G a : Nat) (c : Int) (g : Nat → Int) : W.grownBy (fiveAt W G a c g) (some G) :=
  grown_trans (grown_trans (grown_trans (grown_trans (grown_setCell W ⟨G, a, none⟩ _) (grown_setCell _ ⟨G, a + 1, none⟩ _)) (grown_setCell _ ⟨G, a + 2, none⟩ _)) (grown_setCell _ ⟨G, a + 3, none⟩ _)) (grown_setCell _ ⟨G, a + 4, none⟩ _)
/-- The row behind the exchange of two results. -/
theorem swap_res {W : World} {G n k : Nat} {co : Nat → Int} {re : Nat → Nat → Int} (h : ResRow W G n co re) (hk : k + 1 < n) :
    ResRow (fiveAt (fiveAt W G (k * 5) (co (k + 1)) (re (k + 1))) G ((k + 1) * 5) (co k) (re k)) G n (fun i => co (swapI k i)) (fun i => re (swapI k i)) := ⟨fun i hi => by
  obtain ⟨a0, a1, a2, a3, a4⟩ := h.at' k (by omega)
  obtain ⟨b0, b1, b2, b3, b4⟩ := h.at' (k + 1) hk
  have hoth : ∀ o, o < (k + 1) * 5 ∨ (k + 1) * 5 + 5 ≤ o → (fiveAt (fiveAt W G (k * 5) (co (k + 1)) (re (k + 1))) G ((k + 1) * 5) (co k) (re k)).cell? ⟨G, o, none⟩ = (fiveAt W G (k * 5) (co (k + 1)) (re (k + 1))).cell? ⟨G, o, none⟩ := fun o ho => fiveAt_other _ _ _ _ _ ho
  have hin : ∀ o, o < k * 5 ∨ k * 5 + 5 ≤ o → (fiveAt W G (k * 5) (co (k + 1)) (re (k + 1))).cell? ⟨G, o, none⟩ = W.cell? ⟨G, o, none⟩ := fun o ho => fiveAt_other _ _ _ _ _ ho
  unfold swapI
  by_cases h1 : i = k
  · subst h1
    rw [if_pos rfl]
    rw [hoth _ (by omega), hoth _ (by omega), hoth _ (by omega), hoth _ (by omega), hoth _ (by omega)]
    exact fiveAt_same a0 a1 a2 a3 a4 _ _
  · rw [if_neg h1]
    by_cases h2 : i = k + 1
    · subst h2
      rw [if_pos rfl]
      exact fiveAt_same ((hin _ (by omega)).trans b0) ((hin _ (by omega)).trans b1) ((hin _ (by omega)).trans b2) ((hin _ (by omega)).trans b3) ((hin _ (by omega)).trans b4) _ _
    · rw [if_neg h2]
      have : i * 5 + 5 ≤ k * 5 ∨ (k + 1) * 5 + 5 ≤ i * 5 := by omega
      rw [hoth _ (by omega), hoth _ (by omega), hoth _ (by omega), hoth _ (by omega), hoth _ (by omega), hin _ (by omega), hin _ (by omega), hin _ (by omega), hin _ (by omega), hin _ (by omega)]
      exact h.at' i hi⟩

theorem NumsAt.later {w w' : World} {v : Value} {l : List Int} (h : NumsAt w v l) (hb : Below w.heap.size w w') : NumsAt w' v l := by
  obtain ⟨a, cap, rfl, h⟩ := h
  exact ⟨a, cap, rfl, fun i hi => by obtain ⟨b, off, e, hc⟩ := h i hi; exact ⟨b, off, e, cell_later hb hc⟩⟩

set_option maxRecDepth 100000 in
set_option maxHeartbeats 8000000 in
theorem apart_law (v : Value) (r : List (List Op5)) (s : Nat → Int) (a : Option Addr) (cap : Nat) (l : List Int) (w : World) (hr : RoundAt w v r) (hf : Fits r) (hl : NumsAt w (.slice a l.length cap) l) (hmax : l.length ≤ 9223372036854775807) (kk : Int) (hL : Lim w) :
    Calls Tryd.prog 10 #[stV s, v, .slice a l.length cap, .int .i64 kk] w fun e w' => e = .returned (.bool true) ∧ Below w.heap.size w w' := by
  show Calls Tryd.prog 10 #[.agg #[.int .i64 (s 0), .int .i64 (s 1), .int .i64 (s 2), .int .i64 (s 3), .int .i64 (s 4), .int .i64 (s 5), .int .i64 (s 6), .int .i64 (s 7), .int .i64 (s 8), .int .i64 (s 9)], _, _, _] w _
  have hB0 : Below w.heap.size w (w.alloc (.cells #[.int .i64 (s 0), .int .i64 (s 1), .int .i64 (s 2), .int .i64 (s 3), .int .i64 (s 4), .int .i64 (s 5), .int .i64 (s 6), .int .i64 (s 7), .int .i64 (s 8), .int .i64 (s 9)] 23)) := (Below.refl _ _).alloc (Nat.le_refl _) _
  have hX0 := box_new w s
  have HNums : Hid (NumsAt w (.slice a l.length cap) l) := hl
  clear hl
  have HR := hr
  obtain ⟨ra, rcap, rfl, hr0⟩ := hr
  have hrm := hf.1
  go_enter Tryd.func10, Tryd.ntmps10
  go_wp2_with fail
  refine (begunR_any _ (hL.later hB0)).mono ?_
  rintro e w1 ⟨rfl, hb1⟩
  have hB1 : Below w.heap.size w w1 := hB0.trans (hb1.mono (by simp))
  have hX1 := hX0.later hb1
  clear hB0 hb1 hX0
  go_wp2_with fail
  refine (great_any _ r _ (HR.later hB1) hf).mono ?_
  rintro e w2 ⟨⟨g, rfl⟩, rfl⟩
  cases g
  · by_cases hp : 300 < l.length
    · have hpi : (300 : Int) < (l.length : Int) := by omega
      go_wp2_with fail
      go_ret
      exact ⟨rfl, hB1⟩
    · have hpi : ¬ (300 : Int) < (l.length : Int) := by omega
      by_cases hl2 : r.length < 2
      · have hl2i : (r.length : Int) < 2 := by omega
        go_wp2_with fail
        go_ret
        exact ⟨rfl, hB1⟩
      have hl2i : ¬ (r.length : Int) < 2 := by omega
      have hfa := faults_any _ r w2 (HR.later hB1) hf
      go_wp2_with fail
      refine hfa.mono ?_
      clear hfa
      rintro e w3 ⟨⟨cc, rfl, hcc⟩, hb3⟩
      have hB3 : Below w.heap.size w w3 := hB1.trans (hb3.mono hB1.size)
      have hX3 := hX1.later hb3
      have HCC : Hid (cc = 0 → roundF r = 0) := hcc
      clear hcc hb3 hX1 hB1
      by_cases h0 : cc = 0
      · have H0 : Hid (roundF r = 0) := HCC.out h0
        subst h0
        have h8 : r.length ≤ 8 := (roundF_zero.1 H0.out).1
        have hck : Hid (∀ d ∈ r, (checkF d).1 = 0) := (roundF_zero.1 H0.out).2
        obtain ⟨n1, hn1⟩ : ∃ n1 : Nat, r.length = n1 + 1 := ⟨r.length - 1, by omega⟩
        obtain ⟨k, hk, ek⟩ := index_lt kk n1 (by omega) (by omega)
        have hkr : k + 1 < r.length := hn1 ▸ Nat.succ_lt_succ hk
        have hk0 : k < r.length := Nat.lt_of_succ_lt hkr
        rw [hn1] at HR
        obtain ⟨b, off, rfl, dv, c0, hD⟩ := hr0 k hk0
        obtain ⟨b', off', e', dv1, c1, hD1⟩ := hr0 (k + 1) hkr
        cases e'
        have hki : (k : Int) < (n1 : Int) + 1 := by omega
        have hki1 : (k : Int) + 1 < (n1 : Int) + 1 := by omega
        have hki2 : (k : Int) < (n1 : Int) := by omega
        have hki3 : (0 : Int) ≤ (k : Int) + 1 := by omega
        have hki4 : wrap64 ((k : Int) + 1) = (k : Int) + 1 := IntWalk.wrap64_in ((k : Int) + 1) ⟨by omega, by omega⟩
        have hki5 : ((k : Int) + 1).toNat = k + 1 := by omega
        have hl0 : r[k].length ≤ 14 := check_len (hck.out _ (List.getElem_mem hk0))
        have hl1 : r[k + 1].length ≤ 14 := check_len (hck.out _ (List.getElem_mem hkr))
        go_wp2_with fail
        rw [ek]
        clear ek
        go_loopg [9] 10 (fun g i wr => ∃ j : Nat, j ≤ 10 ∧ g = 10 - j ∧ i = .int .i64 j ∧ Hid (∀ q : Nat, q < j → apartB r[k] r[k + 1] (q : Int)) ∧ Below w3.heap.size w3 wr)
        case atStart => exact ⟨0, by omega, by omega, rfl, fun q hq => by omega, Below.refl _ _⟩
        case round =>
          obtain ⟨j, hj, hg, rfl, hap, hBl⟩ := hrel
          have hBw : Below w.heap.size w wr := hB3.trans (hBl.mono hB3.size)
          by_cases hlt : j < 10
          · have hji : (j : Int) < 10 := by omega
            replace c0 := cell_later hBw c0
            replace c1 := cell_later hBw c1
            have HS0 : Hid (∀ w', Below wr.heap.size wr w' → Calls Tryd.prog 43 #[dv, .int .i64 (j : Int)] w' fun e w'' => e = .returned (.bool (storesI r[k] j)) ∧ w'' = w') := fun w' hb => stores_any dv r[k] j w' ((hD.later hBw).later hb) (by omega)
            have HS1 : Hid (∀ w', Below wr.heap.size wr w' → Calls Tryd.prog 43 #[dv1, .int .i64 (j : Int)] w' fun e w'' => e = .returned (.bool (storesI r[k + 1] j)) ∧ w'' = w') := fun w' hb => stores_any dv1 r[k + 1] j w' ((hD1.later hBw).later hb) (by omega)
            have HL0 : Hid (∀ w', Below wr.heap.size wr w' → Calls Tryd.prog 44 #[dv, .int .i64 (j : Int)] w' fun e w'' => e = .returned (.bool (loadsI r[k] j)) ∧ w'' = w') := fun w' hb => loads_any dv r[k] j w' ((hD.later hBw).later hb) (by omega)
            have HL1 : Hid (∀ w', Below wr.heap.size wr w' → Calls Tryd.prog 44 #[dv1, .int .i64 (j : Int)] w' fun e w'' => e = .returned (.bool (loadsI r[k + 1] j)) ∧ w'' = w') := fun w' hb => loads_any dv1 r[k + 1] j w' ((hD1.later hBw).later hb) (by omega)
            have HN : Hid (apartB r[k] r[k + 1] (j : Int) → ∀ q : Nat, q < j + 1 → apartB r[k] r[k + 1] (q : Int)) := fun h q hq => by
              by_cases e : q = j
              · rw [e]; exact h
              · exact hap.out q (by omega)
            have HAP : Hid (apartB r[k] r[k + 1] (j : Int) ↔ ¬ (storesI r[k] j = true ∧ (storesI r[k + 1] j = true ∨ loadsI r[k + 1] j = true)) ∧ ¬ (storesI r[k + 1] j = true ∧ loadsI r[k] j = true)) := Iff.rfl
            clear hap hD hD1 hX3 hB3 hr0
            generalize storesI r[k] j = sa at *
            generalize storesI r[k + 1] j = sb at *
            generalize loadsI r[k] j = la at *
            generalize loadsI r[k + 1] j = lb at *
            cases sa
            · cases sb
              · replace HN : Hid _ := HN.out (HAP.out.2 (by simp))
                go_wp2_with fail
                go_quiet (first | (go_at_call 43; with_reducible refine Calls.quiet_of_same (HS0.out _ (drewN_below (Below.refl _ _) _))) | (go_at_call 43; with_reducible refine Calls.quiet_of_same (HS1.out _ (drewN_below (Below.refl _ _) _))))
                all_goals go_wp2_with (go_at_call 44; refine (HL0.out _ (by first | exact Below.refl _ _ | exact (Below.refl _ _).drew | exact drewN_below (Below.refl _ _) _)).mono ?_; rintro e w5 ⟨rfl, rfl⟩)
                all_goals go_roundg (10 - (j + 1))
                all_goals first | omega | exact ⟨j + 1, by omega, rfl, by go_num, HN.out, (by first | exact hBl | exact hBl.drew | exact drewN_below hBl _)⟩
              · cases la
                · replace HN : Hid _ := HN.out (HAP.out.2 (by simp))
                  go_wp2_with fail
                  go_quiet (first | (go_at_call 43; with_reducible refine Calls.quiet_of_same (HS0.out _ (drewN_below (Below.refl _ _) _))) | (go_at_call 43; with_reducible refine Calls.quiet_of_same (HS1.out _ (drewN_below (Below.refl _ _) _))))
                  all_goals go_wp2_with (go_at_call 44; refine (HL0.out _ (by first | exact Below.refl _ _ | exact (Below.refl _ _).drew | exact drewN_below (Below.refl _ _) _)).mono ?_; rintro e w5 ⟨rfl, rfl⟩)
                  all_goals go_roundg (10 - (j + 1))
                  all_goals first | omega | exact ⟨j + 1, by omega, rfl, by go_num, HN.out, (by first | exact hBl | exact hBl.drew | exact drewN_below hBl _)⟩
                · clear HN HAP
                  go_wp2_with fail
                  go_quiet (first | (go_at_call 43; with_reducible refine Calls.quiet_of_same (HS0.out _ (drewN_below (Below.refl _ _) _))) | (go_at_call 43; with_reducible refine Calls.quiet_of_same (HS1.out _ (drewN_below (Below.refl _ _) _))))
                  all_goals go_wp2_with (go_at_call 44; refine (HL0.out _ (by first | exact Below.refl _ _ | exact (Below.refl _ _).drew | exact drewN_below (Below.refl _ _) _)).mono ?_; rintro e w5 ⟨rfl, rfl⟩)
                  all_goals go_ret
                  all_goals exact ⟨rfl, (by first | exact hBw | exact hBw.drew | exact drewN_below hBw _)⟩
            · cases sb
              · cases lb
                · replace HN : Hid _ := HN.out (HAP.out.2 (by simp))
                  go_wp2_with fail
                  go_quiet (first | (go_at_call 43; with_reducible refine Calls.quiet_of_same (HS0.out _ (drewN_below (Below.refl _ _) _))) | (go_at_call 43; with_reducible refine Calls.quiet_of_same (HS1.out _ (drewN_below (Below.refl _ _) _))))
                  all_goals go_wp2_with (go_at_call 44; refine (HL1.out _ (by first | exact Below.refl _ _ | exact (Below.refl _ _).drew | exact drewN_below (Below.refl _ _) _)).mono ?_; rintro e w5 ⟨rfl, rfl⟩)
                  all_goals go_roundg (10 - (j + 1))
                  all_goals first | omega | exact ⟨j + 1, by omega, rfl, by go_num, HN.out, (by first | exact hBl | exact hBl.drew | exact drewN_below hBl _)⟩
                · clear HN HAP
                  go_wp2_with fail
                  go_quiet (first | (go_at_call 43; with_reducible refine Calls.quiet_of_same (HS0.out _ (drewN_below (Below.refl _ _) _))) | (go_at_call 43; with_reducible refine Calls.quiet_of_same (HS1.out _ (drewN_below (Below.refl _ _) _))))
                  all_goals go_wp2_with (go_at_call 44; refine (HL1.out _ (by first | exact Below.refl _ _ | exact (Below.refl _ _).drew | exact drewN_below (Below.refl _ _) _)).mono ?_; rintro e w5 ⟨rfl, rfl⟩)
                  all_goals go_ret
                  all_goals exact ⟨rfl, (by first | exact hBw | exact hBw.drew | exact drewN_below hBw _)⟩
              · clear HN HAP
                go_wp2_with fail
                go_quiet (first | (go_at_call 43; with_reducible refine Calls.quiet_of_same (HS0.out _ (drewN_below (Below.refl _ _) _))) | (go_at_call 43; with_reducible refine Calls.quiet_of_same (HS1.out _ (drewN_below (Below.refl _ _) _))))
                all_goals go_wp2_with (go_at_call 44; refine (HL1.out _ (by first | exact Below.refl _ _ | exact (Below.refl _ _).drew | exact drewN_below (Below.refl _ _) _)).mono ?_; rintro e w5 ⟨rfl, rfl⟩)
                all_goals go_ret
                all_goals exact ⟨rfl, (by first | exact hBw | exact hBw.drew | exact drewN_below hBw _)⟩
          · obtain rfl : j = 10 := by omega
            have hA : Hid (Apart r[k] r[k + 1]) := apart_of (hck.out _ (List.getElem_mem hk0)) (hck.out _ (List.getElem_mem hkr)) hap.out
            have hXr := hX3.later hBl
            have hown := ownR_any _ r wr (HR.later hBw) h8 (fun i hi => check_len (hck.out _ (List.getElem_mem hi)))
            clear c0 c1 hD hD1 hr0 hap hX3 hB3 hBl
            go_wp2_with fail
            refine hown.mono ?_
            clear hown
            rintro e w4 ⟨u, D, rfl, hO, hb4⟩
            have hXlt : w.heap.size < wr.heap.size := World.block_lt_of_cell? wr _ (hXr 0 (by omega))
            obtain ⟨g, ocap, rfl, hgc⟩ := owns_cells hO.row (by omega)
            have hgN := owns_lt hO.row (g := g) rfl
            have d0 := hgc k (D k) (by simp [hk0])
            have d1 := hgc (k + 1) (D (k + 1)) (by simp [hkr])
            have hfz := hO.row.frozenAt
            obtain ⟨da0, dc0, e0, -⟩ := hO.dd k hk0 hk0
            obtain ⟨da1, dc1, e1, -⟩ := hO.dd (k + 1) hkr hkr
            have HSW : Hid (∀ W, Below w4.heap.size ((w4.setCell ⟨g, k, none⟩ (D (k + 1))).setCell ⟨g, k + 1, none⟩ (D k)) W → RoundAt W (.slice (some ⟨g, 0, none⟩) r.length ocap) (swapR r k) ∧ Below wr.heap.size wr W) := fun W hW => by
              have hz : ((w4.setCell ⟨g, k, none⟩ (D (k + 1))).setCell ⟨g, k + 1, none⟩ (D k)).heap.size = w4.heap.size := by simp [World.setCell]
              have hW' : Below ((w4.setCell ⟨g, k, none⟩ (D (k + 1))).setCell ⟨g, k + 1, none⟩ (D k)).heap.size ((w4.setCell ⟨g, k, none⟩ (D (k + 1))).setCell ⟨g, k + 1, none⟩ (D k)) W := hz ▸ hW
              exact ⟨(swap_round hO hkr).later hW', ((hb4.setCell (p := ⟨g, k, none⟩) hgN.1 _).setCell (p := ⟨g, k + 1, none⟩) hgN.1 _).trans (hW.mono hb4.size)⟩
            rw [e0, e1] at HSW
            rw [e0] at d0
            rw [e1] at d1
            rw [hn1] at HSW ⊢
            clear hO hgc e0 e1
            generalize r[k].length = dl0 at *
            generalize r[k + 1].length = dl1 at *
            go_wp2_with fail
            go_cut [12] from 89 (fun u' wc => u' = .slice (some ⟨g, 0, none⟩) (n1 + 1) ocap ∧ RoundAt wc (.slice (some ⟨g, 0, none⟩) (n1 + 1) ocap) (swapR r k) ∧ Below wr.heap.size wr wc)
            case first =>
              go_region
              all_goals go_wp2_with fail
              all_goals go_meet
              all_goals exact ⟨rfl, HSW.out _ (Below.refl _ _).drew⟩
            case rest =>
              obtain ⟨rfl, hRV, hbc⟩ := hcut
              obtain ⟨V, hV⟩ : ∃ V, V = wc := ⟨_, rfl⟩
              subst hV
              have hXV := hXr.later hbc
              have hBV : Below w.heap.size w V := hBw.trans (hbc.mono hBw.size)
              obtain ⟨y, hy⟩ : ∃ y, y = allSt s r := ⟨_, rfl⟩
              have hrun := run_good _ r s a cap l V (HR.later hBV) hf H0.out (hL.later hBV) (HNums.out.later hBV) (by omega)
              rw [← hy, rowC_out] at hrun
              rw [hn1] at hrun
              simp only [stV] at hrun
              have HY : Hid (y = allSt s r) := hy
              obtain ⟨k0, k1, k2, k3, k4, k5, k6, k7, k8, k9⟩ := hXV.ten
              clear hy HSW d0 d1 hfz hgN hXr hbc hBw hb4
              go_wp2_with fail
              refine hrun.mono ?_
              clear hrun k0 k1 k2 k3 k4 k5 k6 k7 k8 k9
              rintro e w5 ⟨G1, rfl, hO5, hb5⟩
              have hR5 := resRow_of_owns hO5
              have hA5 : Below w5.heap.size w5 (w5.alloc (.cells #[.int .i64 (y 0), .int .i64 (y 1), .int .i64 (y 2), .int .i64 (y 3), .int .i64 (y 4), .int .i64 (y 5), .int .i64 (y 6), .int .i64 (y 7), .int .i64 (y 8), .int .i64 (y 9)] 23)) := (Below.refl _ _).alloc (Nat.le_refl _) _
              have hP5 : Box (w5.alloc (.cells #[.int .i64 (y 0), .int .i64 (y 1), .int .i64 (y 2), .int .i64 (y 3), .int .i64 (y 4), .int .i64 (y 5), .int .i64 (y 6), .int .i64 (y 7), .int .i64 (y 8), .int .i64 (y 9)] 23)) w5.heap.size y := box_new w5 y
              have hb5' : Below V.heap.size V (w5.alloc (.cells #[.int .i64 (y 0), .int .i64 (y 1), .int .i64 (y 2), .int .i64 (y 3), .int .i64 (y 4), .int .i64 (y 5), .int .i64 (y 6), .int .i64 (y 7), .int .i64 (y 8), .int .i64 (y 9)] 23)) := hb5.alloc hb5.size _
              have hG1 := (owns_lt hO5 (g := G1) rfl).2
              have hz5 := hb5.size
              clear hO5 hb5
              go_upto_region 15 with fail
              obtain ⟨W5, e5⟩ : ∃ W5, W5 = w5.alloc (.cells #[.int .i64 (y 0), .int .i64 (y 1), .int .i64 (y 2), .int .i64 (y 3), .int .i64 (y 4), .int .i64 (y 5), .int .i64 (y 6), .int .i64 (y 7), .int .i64 (y 8), .int .i64 (y 9)] 23) := ⟨_, rfl⟩
              have hsz5 : W5.heap.size = w5.heap.size + 1 := by rw [e5]; simp
              rw [← e5] at hA5 hP5 hb5' ⊢
              clear e5
              replace hR5 := hR5.later hA5
              have hX5 := hXV.later hb5'
              have hRV5 := hRV.later hb5'
              have hB5 : Below w.heap.size w W5 := hBV.trans (hb5'.mono hBV.size)
              have hfits : Fits (swapR r k) := ⟨by rw [swapR_length hkr]; exact hf.1, fun i hi => by rw [swapR_at hkr hi]; exact hf.2 _ _⟩
              have hrun := run_good _ (swapR r k) s a cap l W5 hRV5 hfits (swapR_round hkr H0.out) (hL.later hB5) (HNums.out.later hB5) (by omega)
              rw [swapR_state hkr hA.out, ← HY.out, rowC_out, swapR_length hkr] at hrun
              rw [hn1] at hrun
              simp only [stV] at hrun
              obtain ⟨k0, k1, k2, k3, k4, k5, k6, k7, k8, k9⟩ := hX5.ten
              clear hXV hRV hBV hA5 hb5' hRV5 hfits
              go_wp2_with fail
              refine hrun.mono ?_
              clear hrun k0 k1 k2 k3 k4 k5 k6 k7 k8 k9
              rintro e w6 ⟨G2, rfl, hO6, hb6⟩
              have hR6 := resRow_of_owns hO6
              have hA6 : Below w6.heap.size w6 (w6.alloc (.cells #[.int .i64 (y 0), .int .i64 (y 1), .int .i64 (y 2), .int .i64 (y 3), .int .i64 (y 4), .int .i64 (y 5), .int .i64 (y 6), .int .i64 (y 7), .int .i64 (y 8), .int .i64 (y 9)] 23)) := (Below.refl _ _).alloc (Nat.le_refl _) _
              have hQ6 : Box (w6.alloc (.cells #[.int .i64 (y 0), .int .i64 (y 1), .int .i64 (y 2), .int .i64 (y 3), .int .i64 (y 4), .int .i64 (y 5), .int .i64 (y 6), .int .i64 (y 7), .int .i64 (y 8), .int .i64 (y 9)] 23)) w6.heap.size y := box_new w6 y
              have hb6' : Below W5.heap.size W5 (w6.alloc (.cells #[.int .i64 (y 0), .int .i64 (y 1), .int .i64 (y 2), .int .i64 (y 3), .int .i64 (y 4), .int .i64 (y 5), .int .i64 (y 6), .int .i64 (y 7), .int .i64 (y 8), .int .i64 (y 9)] 23)) := hb6.alloc hb6.size _
              have hG2 := owns_lt hO6 (g := G2) rfl
              have hfz2 : ∀ j, (w6.alloc (.cells #[.int .i64 (y 0), .int .i64 (y 1), .int .i64 (y 2), .int .i64 (y 3), .int .i64 (y 4), .int .i64 (y 5), .int .i64 (y 6), .int .i64 (y 7), .int .i64 (y 8), .int .i64 (y 9)] 23)).frozen? ⟨G2, j, none⟩ = false := fun j => by rw [hA6.frozen (p := ⟨G2, j, none⟩) hG2.2]; exact hO6.frozenAt j
              clear hO6 hb6
              go_upto_region 16 with fail
              obtain ⟨W6, e6⟩ : ∃ W6, W6 = w6.alloc (.cells #[.int .i64 (y 0), .int .i64 (y 1), .int .i64 (y 2), .int .i64 (y 3), .int .i64 (y 4), .int .i64 (y 5), .int .i64 (y 6), .int .i64 (y 7), .int .i64 (y 8), .int .i64 (y 9)] 23) := ⟨_, rfl⟩
              have hsz6 : W6.heap.size = w6.heap.size + 1 := by rw [e6]; simp
              rw [← e6] at hA6 hQ6 hb6' hfz2 ⊢
              clear e6
              replace hR6 := hR6.later hA6
              have hR1 := hR5.later hb6'
              have hP6 := hP5.later hb6'
              have hB6 : Below w.heap.size w W6 := hB5.trans (hb6'.mono hB5.size)
              have hzz := hb6'.size
              have hwl := hB5.size
              have hres : Hid (ResRow (fiveAt (fiveAt W6 G2 (k * 5) (outAt s (swapR r k) (k + 1)).code (outAt s (swapR r k) (k + 1)).regs) G2 ((k + 1) * 5) (outAt s (swapR r k) k).code (outAt s (swapR r k) k).regs) G2 (n1 + 1) (fun i => (outAt s r i).code) (fun i => (outAt s r i).regs)) := by
                have := swap_res (k := k) hR6 (by omega)
                exact this.congr (fun i _ => (swapR_out hkr hA.out i).1) (fun i _ j => (swapR_out hkr hA.out i).2 j)
              obtain ⟨a0, a1, a2, a3, a4⟩ := hR6.at' k (by omega)
              obtain ⟨b0, b1, b2, b3, b4⟩ := hR6.at' (k + 1) (by omega)
              clear hR5 hP5 hA6 hb6' hX5 hB5 hR6 hA
              generalize (outAt s (swapR r k) (k + 1)).code = v0 at *
              generalize (outAt s (swapR r k) (k + 1)).regs = vg at *
              generalize (outAt s (swapR r k) k).code = u0 at *
              generalize (outAt s (swapR r k) k).regs = ug at *
              go_wp2_with fail
              go_cut [17] from 141 (fun u' wc => u' = .slice (some ⟨G2, 0, none⟩) (n1 + 1) (n1 + 1) ∧ ResRow wc G2 (n1 + 1) (fun i => (outAt s r i).code) (fun i => (outAt s r i).regs) ∧ Grew (fun b => b = G2) W6 wc)
              case first =>
                go_region
                all_goals go_wp2_with fail
                all_goals go_meet
                have h1 := hres.out
                have h2 : Grew (fun b => b = G2) W6 (fiveAt (fiveAt W6 G2 (k * 5) v0 vg) G2 ((k + 1) * 5) u0 ug) := Grew.of_grown (grown_trans (fiveAt_grown W6 G2 (k * 5) v0 vg) (fiveAt_grown _ G2 ((k + 1) * 5) u0 ug)) rfl
                unfold fiveAt at h1 h2
                all_goals exact ⟨rfl, h1.later (Below.refl _ _).drew, h2.drew⟩
              case rest =>
                obtain ⟨rfl, hR2, hgc⟩ := hcut
                have hR1c := hR1.grew hgc (by omega)
                have hPc : Box wc w5.heap.size y := fun i hi => hgc.cell (hP6 i hi) (by show ¬ w5.heap.size = G2; omega)
                have hQc : Box wc w6.heap.size y := fun i hi => hgc.cell (hQ6 i hi) (by show ¬ w6.heap.size = G2; omega)
                have hBc : Below w.heap.size w wc := hgc.below hB6 hB6.size (fun b e => by subst e; omega)
                have hsm := sameRes_any G1 G2 (n1 + 1) (n1 + 1) (n1 + 1) _ _ wc hR1c hR2 (by omega)
                obtain ⟨k0, k1, k2, k3, k4, k5, k6, k7, k8, k9⟩ := hPc.ten
                obtain ⟨j0, j1, j2, j3, j4, j5, j6, j7, j8, j9⟩ := hQc.ten
                have h38 := eq38 y
                clear hres hR1 hP6 hQ6 hR1c hR2 hgc
                go_wp2_with fail
                refine hsm.mono ?_
                clear hsm
                rintro e w7 ⟨rfl, hb7⟩
                go_wp2_with fail
                go_ret
                exact ⟨rfl, hBc.trans (hb7.mono hBc.size)⟩
      · have t0 : (cc != 0) = true := by simp [h0]
        clear h0 HCC
        go_wp2_with fail
        go_ret
        exact ⟨rfl, hB3⟩
  · go_wp2_with fail
    go_ret
    exact ⟨rfl, hB1⟩
end Go.Proofs.YthlhbmldfjkagabDoor
