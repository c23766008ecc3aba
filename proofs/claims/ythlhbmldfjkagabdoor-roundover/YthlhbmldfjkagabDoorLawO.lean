/-
  The walk of the law RoundOver.
-/
import Derived.Test.YthlhbmldfjkagabDoorBegR
import Derived.Test.YthlhbmldfjkagabDoorResA
import Derived.Test.YthlhbmldfjkagabDoorRegG
import Derived.Deep.RegionHeld3
namespace Go.Proofs.YthlhbmldfjkagabDoor
open Go.RowKit Go.Shelf

theorem infoB : (Tryd.prog.info? 4).map (fun i => (i.zero, i.size, i.bytes)) = some (some (.bool false), 1, 1) := by kernel_rfl
def boolsOf (X : Nat → Wk) (n : Nat) : List Value := (List.range n).map fun i => .bool (X i).over
theorem boolsOf_succ (X : Nat → Wk) (n : Nat) : boolsOf X (n + 1) = boolsOf X n ++ [.bool (X n).over] := by
  unfold boolsOf; rw [List.range_succ, List.map_append]; rfl
theorem boolsOf_at (X : Nat → Wk) {n i : Nat} (h : i < n) : (boolsOf X n)[i]? = some (.bool (X i).over) := by
  unfold boolsOf; simp [h]
/-- Done's row. -/
def DoneRow (w : World) (u : Value) (G n : Nat) (X : Nat → Wk) : Prop := ∃ a cap, u = .slice a n cap ∧ ∀ i, i < n → ∃ g, a = some ⟨g, 0, none⟩ ∧ G ≤ g ∧ w.cell? ⟨g, i, none⟩ = some (.bool (X i).over)
theorem doneRow_of_owns {w : World} {u : Value} {G n : Nat} {e : TypeId} {X : Nat → Wk} (h : w.ownsRow G e 1 u n (boolsOf X n)) : DoneRow w u G n X := by
  by_cases hn : 0 < n
  · obtain ⟨g, cap, rfl, hc⟩ := owns_cells h hn
    exact ⟨_, cap, rfl, fun i hi => ⟨g, rfl, (owns_lt h rfl).1, hc i _ (boolsOf_at X hi)⟩⟩
  · obtain rfl : n = 0 := by omega
    rcases h.2 with ⟨rfl, -⟩ | ⟨g, cap, cur, rfl, -⟩
    · exact ⟨none, 0, rfl, fun i hi => by omega⟩
    · exact ⟨_, cap, rfl, fun i hi => by omega⟩
theorem DoneRow.grew {S : Nat → Prop} {w w' : World} {u : Value} {G n : Nat} {X : Nat → Wk} (h : DoneRow w u G n X) (hg : Grew S w w') (hn : ∀ k, S k → k < G) : DoneRow w' u G n X := by
  obtain ⟨a, cap, rfl, h⟩ := h
  refine ⟨a, cap, rfl, fun i hi => ?_⟩
  obtain ⟨g, e, h1, h2⟩ := h i hi
  exact ⟨g, e, h1, hg.cell h2 (fun hk => by have := hn g hk; omega)⟩
theorem DoneRow.later {w w' : World} {u : Value} {G n : Nat} {X : Nat → Wk} (h : DoneRow w u G n X) (hb : Below w.heap.size w w') : DoneRow w' u G n X := h.grew (Grew.of_below (S := fun _ => False) hb) (fun _ e => e.elim)
theorem zeros_later {w w' : World} (hb : Below (w.alloc (.cells #[.int .i64 0, .int .i64 0, .int .i64 0, .int .i64 0, .int .i64 0, .int .i64 0, .int .i64 0, .int .i64 0, .int .i64 0, .int .i64 0] 23)).heap.size (w.alloc (.cells #[.int .i64 0, .int .i64 0, .int .i64 0, .int .i64 0, .int .i64 0, .int .i64 0, .int .i64 0, .int .i64 0, .int .i64 0, .int .i64 0] 23)) w') : Box w' w.heap.size (fun _ => 0) ∧ ∀ o, w'.frozen? ⟨w.heap.size, o, none⟩ = false :=
  ⟨(box_zero w).later hb, fun o => by rw [hb.frozen (p := ⟨w.heap.size, o, none⟩) (by simp)]; go_simp⟩
theorem zeros_laterD {w w' : World} (hb : Below (w.alloc (.cells #[.int .i64 0, .int .i64 0, .int .i64 0, .int .i64 0, .int .i64 0, .int .i64 0, .int .i64 0, .int .i64 0, .int .i64 0, .int .i64 0] 23)).drew.heap.size (w.alloc (.cells #[.int .i64 0, .int .i64 0, .int .i64 0, .int .i64 0, .int .i64 0, .int .i64 0, .int .i64 0, .int .i64 0, .int .i64 0, .int .i64 0] 23)).drew w') : Box w' w.heap.size (fun _ => 0) ∧ ∀ o, w'.frozen? ⟨w.heap.size, o, none⟩ = false :=
  ⟨fun i hi => cell_later hb ((box_zero w) i hi), fun o => by rw [hb.frozen (p := ⟨w.heap.size, o, none⟩) (by simp)]; go_simp⟩
theorem zeros_kept {w w' : World} {p : Nat} (hb : Below w.heap.size w w') (h : Box w p (fun _ => 0)) (hf : ∀ o, w.frozen? ⟨p, o, none⟩ = false) : Box w' p (fun _ => 0) ∧ ∀ o, w'.frozen? ⟨p, o, none⟩ = false :=
  ⟨h.later hb, fun o => by rw [hb.frozen (p := ⟨p, o, none⟩) (World.block_lt_of_cell? w ⟨p, 0, none⟩ (h 0 (by omega)))]; exact hf o⟩
theorem Box.store {w : World} {B : Nat} {x : Nat → Int} (h : Box w B x) (y : Nat → Int) : Box ((((((((((w.setCell ⟨B, 0, none⟩ (.int .i64 (y 0))).setCell ⟨B, 1, none⟩ (.int .i64 (y 1))).setCell ⟨B, 2, none⟩ (.int .i64 (y 2))).setCell ⟨B, 3, none⟩ (.int .i64 (y 3))).setCell ⟨B, 4, none⟩ (.int .i64 (y 4))).setCell ⟨B, 5, none⟩ (.int .i64 (y 5))).setCell ⟨B, 6, none⟩ (.int .i64 (y 6))).setCell ⟨B, 7, none⟩ (.int .i64 (y 7))).setCell ⟨B, 8, none⟩ (.int .i64 (y 8))).setCell ⟨B, 9, none⟩ (.int .i64 (y 9))) B y :=
  ((((((((((h.set (m := 0) (by omega) (y 0)).set (m := 1) (by omega) (y 1)).set (m := 2) (by omega) (y 2)).set (m := 3) (by omega) (y 3)).set (m := 4) (by omega) (y 4)).set (m := 5) (by omega) (y 5)).set (m := 6) (by omega) (y 6)).set (m := 7) (by omega) (y 7)).set (m := 8) (by omega) (y 8)).set (m := 9) (by omega) (y 9)).congr (lt10 rfl rfl rfl rfl rfl rfl rfl rfl rfl rfl)
theorem ten_grown (w : World) (p : Nat) (x0 x1 x2 x3 x4 x5 x6 x7 x8 x9 : Value) : w.grownBy ((((((((((w.setCell ⟨p, 0, none⟩ x0).setCell ⟨p, 1, none⟩ x1).setCell ⟨p, 2, none⟩ x2).setCell ⟨p, 3, none⟩ x3).setCell ⟨p, 4, none⟩ x4).setCell ⟨p, 5, none⟩ x5).setCell ⟨p, 6, none⟩ x6).setCell ⟨p, 7, none⟩ x7).setCell ⟨p, 8, none⟩ x8).setCell ⟨p, 9, none⟩ x9) (some p) :=
  grown_trans (grown_trans (grown_trans (grown_trans (grown_trans (grown_trans (grown_trans (grown_trans (grown_trans (grown_setCell _ ⟨p, 0, none⟩ _) (grown_setCell _ ⟨p, 1, none⟩ _)) (grown_setCell _ ⟨p, 2, none⟩ _)) (grown_setCell _ ⟨p, 3, none⟩ _)) (grown_setCell _ ⟨p, 4, none⟩ _)) (grown_setCell _ ⟨p, 5, none⟩ _)) (grown_setCell _ ⟨p, 6, none⟩ _)) (grown_setCell _ ⟨p, 7, none⟩ _)) (grown_setCell _ ⟨p, 8, none⟩ _)) (grown_setCell _ ⟨p, 9, none⟩ _)
theorem leaf_set {wb w6 : World} {G2 n p : Nat} {co : Nat → Int} {re : Nat → Nat → Int} (hR : ResRow wb G2 n co re) (hne : G2 ≠ p) (hz : Box wb p (fun _ => 0)) (h6 : w6.heap.size ≤ p) (hb : Below w6.heap.size w6 wb) (y : Nat → Int) : ResRow ((((((((((wb.setCell ⟨p, 0, none⟩ (.int .i64 (y 0))).setCell ⟨p, 1, none⟩ (.int .i64 (y 1))).setCell ⟨p, 2, none⟩ (.int .i64 (y 2))).setCell ⟨p, 3, none⟩ (.int .i64 (y 3))).setCell ⟨p, 4, none⟩ (.int .i64 (y 4))).setCell ⟨p, 5, none⟩ (.int .i64 (y 5))).setCell ⟨p, 6, none⟩ (.int .i64 (y 6))).setCell ⟨p, 7, none⟩ (.int .i64 (y 7))).setCell ⟨p, 8, none⟩ (.int .i64 (y 8))).setCell ⟨p, 9, none⟩ (.int .i64 (y 9))) G2 n co re ∧ Box ((((((((((wb.setCell ⟨p, 0, none⟩ (.int .i64 (y 0))).setCell ⟨p, 1, none⟩ (.int .i64 (y 1))).setCell ⟨p, 2, none⟩ (.int .i64 (y 2))).setCell ⟨p, 3, none⟩ (.int .i64 (y 3))).setCell ⟨p, 4, none⟩ (.int .i64 (y 4))).setCell ⟨p, 5, none⟩ (.int .i64 (y 5))).setCell ⟨p, 6, none⟩ (.int .i64 (y 6))).setCell ⟨p, 7, none⟩ (.int .i64 (y 7))).setCell ⟨p, 8, none⟩ (.int .i64 (y 8))).setCell ⟨p, 9, none⟩ (.int .i64 (y 9))) p y ∧ Below w6.heap.size w6 ((((((((((wb.setCell ⟨p, 0, none⟩ (.int .i64 (y 0))).setCell ⟨p, 1, none⟩ (.int .i64 (y 1))).setCell ⟨p, 2, none⟩ (.int .i64 (y 2))).setCell ⟨p, 3, none⟩ (.int .i64 (y 3))).setCell ⟨p, 4, none⟩ (.int .i64 (y 4))).setCell ⟨p, 5, none⟩ (.int .i64 (y 5))).setCell ⟨p, 6, none⟩ (.int .i64 (y 6))).setCell ⟨p, 7, none⟩ (.int .i64 (y 7))).setCell ⟨p, 8, none⟩ (.int .i64 (y 8))).setCell ⟨p, 9, none⟩ (.int .i64 (y 9))) :=
  ⟨hR.grew (Grew.of_grown (S := fun b => b = p) (ten_grown wb p _ _ _ _ _ _ _ _ _ _) rfl) hne, hz.store y, below_ten hb h6 _ _ _ _ _ _ _ _ _ _⟩
theorem NumsAt.later {w w' : World} {v : Value} {l : List Int} (h : NumsAt w v l) (hb : Below w.heap.size w w') : NumsAt w' v l := by
  obtain ⟨a, cap, rfl, h⟩ := h
  exact ⟨a, cap, rfl, fun i hi => by obtain ⟨b, off, e, hc⟩ := h i hi; exact ⟨b, off, e, cell_later hb hc⟩⟩

set_option maxRecDepth 100000 in
set_option maxHeartbeats 12000000 in
theorem over_law5 (v : Value) (r : List (List Op5)) (s : Nat → Int) (a : Option Addr) (cap : Nat) (l : List Int) (w : World) (hr : RoundAt w v r) (hf : Fits r) (hl : NumsAt w (.slice a l.length cap) l) (hmax : l.length ≤ 9223372036854775807) (a2 : Option Addr) (cap2 : Nat) (l2 : List Int) (hl2 : NumsAt w (.slice a2 l2.length cap2) l2) (hmax2 : l2.length ≤ 9223372036854775807) (hL : Lim w) :
    Calls Tryd.prog 11 #[stV s, v, .slice a l.length cap, .slice a2 l2.length cap2] w fun e w' => e = .returned (.bool true) ∧ Below w.heap.size w w' := by
  show Calls Tryd.prog 11 #[.agg #[.int .i64 (s 0), .int .i64 (s 1), .int .i64 (s 2), .int .i64 (s 3), .int .i64 (s 4), .int .i64 (s 5), .int .i64 (s 6), .int .i64 (s 7), .int .i64 (s 8), .int .i64 (s 9)], _, _, _] w _
  have hB0 : Below w.heap.size w (w.alloc (.cells #[.int .i64 (s 0), .int .i64 (s 1), .int .i64 (s 2), .int .i64 (s 3), .int .i64 (s 4), .int .i64 (s 5), .int .i64 (s 6), .int .i64 (s 7), .int .i64 (s 8), .int .i64 (s 9)] 23)) := (Below.refl _ _).alloc (Nat.le_refl _) _
  have hX0 := box_new w s
  obtain ⟨a', cap', e1, hcell⟩ := hl
  cases e1
  obtain ⟨a3, cap3, e2, hcell2⟩ := hl2
  cases e2
  have HR := hr
  obtain ⟨ra, rcap, rfl, hr0⟩ := hr
  have hrm := hf.1
  obtain ⟨i0, hi, hz0, hz1, hz2⟩ := info_parts infoB
  go_enter Tryd.func11, Tryd.ntmps11
  go_wp2_with fail
  refine (begunR_any _ (hL.later hB0)).mono ?_
  rintro e w1 ⟨rfl, hb1⟩
  have hB1 : Below w.heap.size w w1 := hB0.trans (hb1.mono (by simp))
  have hX1 := hX0.later hb1
  clear hB0 hb1 hX0
  go_wp2_with fail
  refine (great_any _ r _ (HR.later hB1) hf).mono ?_
  rintro e w2 ⟨⟨g, rfl⟩, rfl⟩
  cases g
  · by_cases hp : 500 < l.length
    · have hpi : (500 : Int) < (l.length : Int) := by omega
      go_wp2_with fail
      go_ret
      exact ⟨rfl, hB1⟩
    · have hpi : ¬ (500 : Int) < (l.length : Int) := by omega
      by_cases hp2 : 500 < l2.length
      · have hpi2 : (500 : Int) < (l2.length : Int) := by omega
        go_wp2_with fail
        go_ret
        exact ⟨rfl, hB1⟩
      have hpi2 : ¬ (500 : Int) < (l2.length : Int) := by omega
      obtain ⟨k0, k1, k2, k3, k4, k5, k6, k7, k8, k9⟩ := hX1.ten
      by_cases h0 : roundF r = 0
      · have hck : Hid (∀ d ∈ r, (checkF d).1 = 0) := (roundF_zero.1 h0).2
        have h8 : r.length ≤ 8 := (roundF_zero.1 h0).1
        have hnew := round_new _ r s w2 (HR.later hB1) hf h0 (hL.later hB1)
        go_wp2_with fail
        refine hnew.mono ?_
        clear hnew k0 k1 k2 k3 k4 k5 k6 k7 k8 k9 hX1
        rintro e w3 ⟨c, E, B, vW, C, U, rfl, h3, hb3⟩
        have hB3 : Below w.heap.size w w3 := hB1.trans (hb3.mono hB1.size)
        have hN : w.heap.size ≤ w2.heap.size := hB1.size
        generalize w2.heap.size = N at *
        obtain ⟨T, eT⟩ : ∃ T, T = newF s r := ⟨_, rfl⟩
        obtain ⟨X, eX⟩ : ∃ X : Nat → Wk, X = fun _ => wk0 := ⟨_, rfl⟩
        rw [← eT, ← eX] at h3
        clear hb3 eT eX h0 hB1
        go_wp2_with fail
        go_loopg [11] l.length (fun g i wr => ∃ (j : Nat) (X : Nat → Wk) (T : Nat → List Slot4), j ≤ l.length ∧ g = l.length - j ∧ i = .int .i64 j ∧ RdIn wr c N E B vW C U s r X T ∧ Below w.heap.size w wr)
        case atStart => exact ⟨0, X, T, by omega, by omega, rfl, h3, hB3⟩
        case round =>
          clear h3 hB3
          obtain ⟨j, X, T, hj, hg, rfl, h, hBl⟩ := hrel
          by_cases hlt : j < l.length
          · obtain ⟨pb, poff, rfl, pc⟩ := hcell j hlt
            replace pc := cell_later hBl pc
            have hpk := pick_any h l[j]
            have hji : (j : Int) < (l.length : Int) := by omega
            generalize l[j] = p at *
            clear hcell hr0
            go_wp2_with fail
            refine hpk.mono ?_
            clear hpk
            rintro e w4 ⟨x, y, X4, T4, rfl, h4, hg4⟩
            have hB4 := h.below hg4 hBl hN hBl.size
            clear h hg4 hBl pc
            go_wp2_with fail
            go_roundg (l.length - (j + 1))
            case measure => omega
            case rel => exact ⟨j + 1, X4, T4, by omega, rfl, by go_num, h4, hB4⟩
          · obtain rfl : j = l.length := by omega
            clear hcell
            have hres := results_any h
            rw [rowC_res] at hres
            go_wp2_with fail
            refine hres.mono ?_
            clear hres
            rintro e w4 ⟨rfl, hO4, hb4⟩
            have hE4 : ResRow w4 wr.heap.size r.length (fun i => resC (X i)) (fun i => resG (X i)) := resRow_of_owns hO4
            have h4 := h.later hb4
            have hB4 : Below w.heap.size w w4 := hBl.trans (hb4.mono hBl.size)
            have HX : Hid (∀ i, i < r.length → (X i).over = true → resC (X i) = (outAt s r i).code ∧ ∀ j, resG (X i) j = (outAt s r i).regs j) := fun i hi ho => h.ord.came hi ho
            have hcr : Hid (∀ k, crewS B C r.length k → k < wr.heap.size) := fun k hk => h.at'.lt hk
            have hz4 : wr.heap.size ≤ w4.heap.size := hb4.size
            generalize wr.heap.size = G1 at *
            clear hO4 hb4 h hBl hr0
            go_wp2_with fail
            go_loopg [13, 14] r.length (fun g v i wq => ∃ (m : Nat) (u : Value), m ≤ r.length ∧ g = r.length - m ∧ i = .int .i64 m ∧ u = v ∧ wq.ownsRow w4.heap.size 4 1 u m (boolsOf X m) ∧ Below w4.heap.size w4 wq)
            case atStart => exact ⟨0, _, by omega, by omega, rfl, rfl, by simpa [boolsOf] using World.ownsRow_nil _ _ _ _, Below.refl _ _⟩
            case round =>
              obtain ⟨m, u, hm, hg2, rfl, hu, hown, hBq⟩ := hrel
              subst hu
              by_cases hml : m < r.length
              · have hdone := done_in (h4.later hBq) hml
                have hmi : (m : Int) < (r.length : Int) := by omega
                have hbs : Hid (boolsOf X (m + 1) = boolsOf X m ++ [.bool (X m).over]) := boolsOf_succ X m
                generalize boolsOf X m = bs at *
                generalize (X m).over = ov at *
                clear h4 hE4
                go_wp2_with fail
                refine hdone.mono ?_
                clear hdone
                rintro e w5 ⟨rfl, hb5⟩
                have hB5 : Below w4.heap.size w4 w5 := hBq.trans (hb5.mono hBq.size)
                have hown5 := owns_below hown hb5
                have hz5 : w4.heap.size ≤ w5.heap.size := hB5.size
                clear hb5 hBq hown
                go_wp2_with (at_builtin; refine wpList_append_own _ rfl _ _ 88 rfl w4.heap.size 4 i0 (.bool false) 1 1 Tryd.underlying88 hi hz0 hz1 hz2 rfl (by decide) _ _ _ rfl (hown5.alloc _) ⟨w5.heap.size, 0, none⟩ 1 1 [.bool ov] rfl rfl (cell_one_new _ _ _) (by simp [Value.oneCell']) (by unfold maxLen; omega) (by omega) (by simp; omega) ?_; intro v' w6 hown' hgrow hnil)
                go_roundg (r.length - (m + 1))
                case measure => omega
                case rel =>
                  refine ⟨m + 1, _, by omega, rfl, by go_num, rfl, by rw [hbs.out]; exact hown', ?_⟩
                  exact (hB5.alloc hB5.size _).grown hgrow (by simp; omega) (fun k hk => (hown5.lt k hk).1)
              · obtain rfl : m = r.length := by omega
                have hD := doneRow_of_owns hown
                have h5 := h4.later hBq
                have hE5 := hE4.later hBq
                have hB5 : Below w.heap.size w wr := hB4.trans (hBq.mono hB4.size)
                have hz5 : w4.heap.size ≤ wr.heap.size := hBq.size
                have hfi := finish_any h5
                clear hown hBq h4 hE4 hB4
                obtain ⟨da, dcap, rfl, hdr⟩ := hD
                have hD : DoneRow wr (.slice da r.length dcap) w4.heap.size r.length X := ⟨da, dcap, rfl, hdr⟩
                clear hdr
                go_wp2_with fail
                refine hfi.mono ?_
                clear hfi
                rintro e w6 ⟨rfl, X6, T6, h6, hg6, ha6⟩
                have HA6 : Hid (∀ q, q < r.length → (X6 q).over = true) := ha6
                have hD6 := hD.grew hg6 (fun k hk => by have := hcr.out k hk; omega)
                have hE6 := hE5.grew hg6 (fun hk => by have := hcr.out G1 hk; omega)
                have hB6 := h5.below hg6 hB5 hN hB5.size
                have hz6 : wr.heap.size ≤ w6.heap.size := hg6.size
                obtain ⟨y, hy⟩ : ∃ y, y = allSt s r := ⟨_, rfl⟩
                have HRE : Hid (∀ w', Below w6.heap.size w6 w' → Calls Tryd.prog 34 #[.pointer (some ⟨E, 0, none⟩)] w' fun e w'' => ∃ G2, e = .returned (.slice (some ⟨G2, 0, none⟩) r.length r.length) ∧ w6.heap.size ≤ G2 ∧ w'.heap.size ≤ G2 ∧ G2 < w''.heap.size ∧ ResRow w'' G2 r.length (fun i => (outAt s r i).code) (fun i => (outAt s r i).regs) ∧ Below w6.heap.size w6 w'' ∧ Below w'.heap.size w' w'') := fun w' hb => by
                  refine (results_end (h6.later hb) ha6).mono ?_
                  rintro e w'' ⟨rfl, hO, hb'⟩
                  rw [rowC_out] at hO
                  exact ⟨_, rfl, hb.size, Nat.le_refl _, (owns_lt hO rfl).2, resRow_of_owns hO, hb.trans (hb'.mono hb.size), hb'⟩
                have HSA : Hid (∀ w' wa, Below w6.heap.size w6 w' → Below wa.heap.size wa w' → Calls Tryd.prog 20 #[.pointer (some ⟨B, 0, none⟩)] w' fun e w'' => e = .returned (.agg #[.int .i64 (y 0), .int .i64 (y 1), .int .i64 (y 2), .int .i64 (y 3), .int .i64 (y 4), .int .i64 (y 5), .int .i64 (y 6), .int .i64 (y 7), .int .i64 (y 8), .int .i64 (y 9)]) ∧ Below w6.heap.size w6 w'' ∧ Below w'.heap.size w' w'' ∧ Below wa.heap.size wa w'') := fun w' wa hb hw => by
                  refine (state_end (h6.later hb) ha6).mono ?_
                  rintro e w'' ⟨rfl, hb'⟩
                  rw [← hy]
                  exact ⟨rfl, hb.trans (hb'.mono hb.size), hb', hw.trans (hb'.mono hw.size)⟩
                have q0 := h6.at'.ft
                have HQ : Hid (∀ w', Below w6.heap.size w6 w' → w'.cell? ⟨E, 0, none⟩ = some (.pointer (some ⟨B, 0, none⟩))) := fun w' hb => cell_later hb h6.at'.ft
                have hEz : E < w6.heap.size := World.block_lt_of_cell? w6 _ q0
                have HY : Hid (y = allSt s r) := hy
                clear hy h5 hE5 hB5 hD ha6 hg6
                go_wp2_with fail
                go_cut [15, 16] from 73 (fun c1 c2 wc => ∃ G2 P, c1 = .slice (some ⟨G2, 0, none⟩) r.length r.length ∧ c2 = .pointer (some ⟨P, 0, none⟩) ∧ w6.heap.size ≤ G2 ∧ w6.heap.size ≤ P ∧ ResRow wc G2 r.length (fun i => (outAt s r i).code) (fun i => (outAt s r i).regs) ∧ Box wc P y ∧ Below w6.heap.size w6 wc)
                case first =>
                  go_region_with (first | (go_at_call 34; refine (HRE.out _ (by first | exact (Below.refl _ _).drew | exact ((Below.refl _ _).drew).alloc (Nat.le_refl _) _ | exact ((Below.refl _ _).alloc (Nat.le_refl _) _).drew)).mono ?_; rintro e wa ⟨G2, rfl, hG2, hGw, hG2z, hRa, hba0, hba⟩; have q1 := HQ.out _ hba0; have hza := hba0.size; have hEa : E < wa.heap.size := Nat.lt_of_lt_of_le hEz hza; (first | (have hzz : Box wa w6.heap.size (fun _ => 0) ∧ ∀ o, wa.frozen? ⟨w6.heap.size, o, none⟩ = false := (by first | exact zeros_later hba | exact zeros_laterD hba | fail); obtain ⟨hz, hfz⟩ := hzz; obtain ⟨z0, z1, z2, z3, z4, z5, z6, z7, z8, z9⟩ := hz.ten) | skip)) | (go_at_call 20; refine (HSA.out _ wa (by first | exact hba0 | exact hba0.alloc hba0.size _ | exact hba0.drew | exact (hba0.alloc hba0.size _).drew) (by first | exact Below.refl _ _ | exact (Below.refl _ _).alloc (Nat.le_refl _) _ | exact (Below.refl _ _).drew | exact ((Below.refl _ _).alloc (Nat.le_refl _) _).drew)).mono ?_; rintro e wb ⟨rfl, hbb0, hbb, hbw⟩; (first | (have hyy : Box wb wa.heap.size (fun _ => 0) ∧ ∀ o, wb.frozen? ⟨wa.heap.size, o, none⟩ = false := (by first | exact zeros_later hbb | exact zeros_laterD hbb | fail); obtain ⟨hy0, hfy⟩ := hyy; obtain ⟨v0, v1, v2, v3, v4, v5, v6, v7, v8, v9⟩ := hy0.ten) | (have hyy : Box wb w6.heap.size (fun _ => 0) ∧ ∀ o, wb.frozen? ⟨w6.heap.size, o, none⟩ = false := (by first | exact zeros_kept hbb hz hfz | fail); obtain ⟨hy0, hfy⟩ := hyy; obtain ⟨v0, v1, v2, v3, v4, v5, v6, v7, v8, v9⟩ := hy0.ten) | skip)))
                  all_goals (go_wp2_with fail; go_meet)
                  · refine ⟨G2, _, rfl, rfl, hG2, hbb0.size, ?_⟩
                    exact ⟨(hRa.later hbw).later ((Below.refl _ _).alloc (Nat.le_refl _) _), box_new wb y, hbb0.alloc hbb0.size _⟩
                  · refine ⟨G2, _, rfl, rfl, hG2, hza, ?_⟩
                    exact leaf_set (hRa.later hbw) (by omega) hy0 hza hbb0 y
                  · refine ⟨G2, _, rfl, rfl, hG2, hza, ?_⟩
                    exact leaf_set (hRa.later hbw) (by omega) hy0 hza hbb0 y
                  · refine ⟨G2, _, rfl, rfl, hG2, hbb0.size, ?_⟩
                    exact ⟨(hRa.later hbw).later ((Below.refl _ _).alloc (Nat.le_refl _) _), box_new wb y, hbb0.alloc hbb0.size _⟩
                  · refine ⟨G2, _, rfl, rfl, hG2, hza, ?_⟩
                    exact leaf_set (hRa.later hbw) (by omega) hy0 hza hbb0 y
                  · refine ⟨G2, _, rfl, rfl, hG2, Nat.le_refl _, ?_⟩
                    exact leaf_set (hRa.later hbw) (by have := hGw; simp at this; omega) hy0 (Nat.le_refl _) hbb0 y
                  · refine ⟨G2, _, rfl, rfl, hG2, Nat.le_refl _, ?_⟩
                    exact leaf_set (hRa.later hbw) (by have := hGw; simp at this; omega) hy0 (Nat.le_refl _) hbb0 y
                  · refine ⟨G2, _, rfl, rfl, hG2, Nat.le_refl _, ?_⟩
                    exact leaf_set (hRa.later hbw) (by have := hGw; simp at this; omega) hy0 (Nat.le_refl _) hbb0 y
                case rest =>
                  obtain ⟨G2, P, rfl, rfl, hG2, hP, hR, hBx, hbc⟩ := hcut
                  obtain ⟨V, hV⟩ : ∃ V, V = wc := ⟨_, rfl⟩
                  subst hV
                  have h7 := h6.later hbc
                  have hD7 := hD6.later hbc
                  have hE7 := hE6.later hbc
                  have hB7 : Below w.heap.size w V := hB6.trans (hbc.mono hB6.size)
                  have hz7 : w6.heap.size ≤ V.heap.size := hbc.size
                  clear HRE HSA HQ q0 hEz h6 hD6 hE6 hB6 hbc
                  go_wp2_with fail
                  go_loopg [17] r.length (fun g i wq => ∃ m : Nat, m ≤ r.length ∧ g = r.length - m ∧ i = .int .i64 m ∧ Below V.heap.size V wq)
                  case atStart => exact ⟨0, by omega, by omega, rfl, Below.refl _ _⟩
                  case round =>
                    obtain ⟨m, hm, hg3, rfl, hBq⟩ := hrel
                    by_cases hml : m < r.length
                    · obtain ⟨da', dcap', e3, hdr⟩ := hD7
                      cases e3
                      obtain ⟨gd, rfl, -, d0⟩ := hdr m hml
                      obtain ⟨e0, e1, e2, e3, e4⟩ := (hE7.later hBq).at' m hml
                      obtain ⟨f0, f1, f2, f3, f4⟩ := (hR.later hBq).at' m hml
                      replace d0 := cell_later hBq d0
                      have HDN : Hid (∀ w', Below wr.heap.size wr w' → Calls Tryd.prog 37 #[.pointer (some ⟨E, 0, none⟩), .int .i64 (m : Int)] w' fun e w'' => e = .returned (.bool true) ∧ Below wr.heap.size wr w'') := fun w' hb => by
                        refine (done_in ((h7.later hBq).later hb) hml).mono ?_
                        rintro e w'' ⟨he, hb'⟩
                        rw [HA6.out m hml] at he
                        exact ⟨he, hb.trans (hb'.mono hb.size)⟩
                      have hmi : (m : Int) < (r.length : Int) := by omega
                      have h36 := eq43 (outAt s r m).code ((outAt s r m).regs 0) ((outAt s r m).regs 1) ((outAt s r m).regs 2) ((outAt s r m).regs 3)
                      clear hdr hE7 h7
                      cases hov : (X m).over with
                      | true =>
                        obtain ⟨x1, x2⟩ := HX.out m hml hov
                        rw [hov] at d0
                        rw [x1] at e0
                        rw [x2] at e1 e2 e3 e4
                        clear hov x1 x2
                        generalize (outAt s r m).code = y' at *
                        generalize (outAt s r m).regs 0 = y0 at *
                        generalize (outAt s r m).regs 1 = y1 at *
                        generalize (outAt s r m).regs 2 = y2 at *
                        generalize (outAt s r m).regs 3 = y3 at *
                        have HKP : Hid (∀ w', Below wr.heap.size wr w' → Below wr.heap.size wr w' ∧ w'.cell? ⟨gd, m, none⟩ = some (.bool true) ∧ w'.cell? ⟨G1, m * 5, none⟩ = some (.int .i64 y') ∧ w'.cell? ⟨G1, m * 5 + 1, none⟩ = some (.int .i64 y0) ∧ w'.cell? ⟨G1, m * 5 + 2, none⟩ = some (.int .i64 y1) ∧ w'.cell? ⟨G1, m * 5 + 3, none⟩ = some (.int .i64 y2) ∧ w'.cell? ⟨G1, m * 5 + 4, none⟩ = some (.int .i64 y3) ∧ w'.cell? ⟨G2, m * 5, none⟩ = some (.int .i64 y') ∧ w'.cell? ⟨G2, m * 5 + 1, none⟩ = some (.int .i64 y0) ∧ w'.cell? ⟨G2, m * 5 + 2, none⟩ = some (.int .i64 y1) ∧ w'.cell? ⟨G2, m * 5 + 3, none⟩ = some (.int .i64 y2) ∧ w'.cell? ⟨G2, m * 5 + 4, none⟩ = some (.int .i64 y3)) := fun w' hb => ⟨hb, cell_later hb d0, cell_later hb e0, cell_later hb e1, cell_later hb e2, cell_later hb e3, cell_later hb e4, cell_later hb f0, cell_later hb f1, cell_later hb f2, cell_later hb f3, cell_later hb f4⟩
                        clear d0 e0 e1 e2 e3 e4 f0 f1 f2 f3 f4
                        go_wp2_with fail
                        go_region_held3 (fun w' => Below wr.heap.size wr w' ∧ w'.cell? ⟨gd, m, none⟩ = some (.bool true) ∧ w'.cell? ⟨G1, m * 5, none⟩ = some (.int .i64 y') ∧ w'.cell? ⟨G1, m * 5 + 1, none⟩ = some (.int .i64 y0) ∧ w'.cell? ⟨G1, m * 5 + 2, none⟩ = some (.int .i64 y1) ∧ w'.cell? ⟨G1, m * 5 + 3, none⟩ = some (.int .i64 y2) ∧ w'.cell? ⟨G1, m * 5 + 4, none⟩ = some (.int .i64 y3) ∧ w'.cell? ⟨G2, m * 5, none⟩ = some (.int .i64 y') ∧ w'.cell? ⟨G2, m * 5 + 1, none⟩ = some (.int .i64 y0) ∧ w'.cell? ⟨G2, m * 5 + 2, none⟩ = some (.int .i64 y1) ∧ w'.cell? ⟨G2, m * 5 + 3, none⟩ = some (.int .i64 y2) ∧ w'.cell? ⟨G2, m * 5 + 4, none⟩ = some (.int .i64 y3)) (first | exact HKP.out _ (Below.refl _ _).drew | exact HKP.out _ hbd) (first | (go_at_call 37; refine (HDN.out _ (by first | exact Below.refl _ _ | exact (Below.refl _ _).drew)).mono ?_; rintro e wd ⟨rfl, hbd⟩))
                        all_goals go_wp2_with fail
                        all_goals go_roundg (r.length - (m + 1))
                        all_goals first | omega | exact ⟨m + 1, by omega, rfl, by go_num, hBq.trans (hbd.mono hBq.size)⟩
                      | false =>
                        rw [hov] at d0
                        clear hov
                        have HKP : Hid (∀ w', Below wr.heap.size wr w' → Below wr.heap.size wr w' ∧ w'.cell? ⟨gd, m, none⟩ = some (.bool false)) := fun w' hb => ⟨hb, cell_later hb d0⟩
                        clear d0 e0 e1 e2 e3 e4 f0 f1 f2 f3 f4 h36
                        go_wp2_with fail
                        refine wp_region_till (S := fun w' => Below wr.heap.size wr w' ∧ w'.cell? ⟨gd, m, none⟩ = some (.bool false)) (fun _ => false) (by kernel_rfl) (HKP.out _ (Below.refl _ _).drew) (fun hS => ?_)
                        refine anyT_take 0 [] (.slice (some ⟨gd, 0, none⟩) r.length dcap) rfl (by kernel_rfl) (by kernel_rfl) (by kernel_rfl) (by kernel_rfl) (by kernel_rfl) (fun _ _ _ h => h) (Or.inl ⟨by rfl, ?_⟩) hS ?_
                        · rintro w' ⟨hb', hc'⟩
                          go_simp
                        simp only [List.getElem_toArray, List.getElem_cons_zero, Act.put, List.setIfInBounds_toArray, List.set_cons_zero, List.set_cons_succ]
                        refine anyT_take 1 [] (.int .i64 (m : Int)) rfl (by kernel_rfl) (by kernel_rfl) (by kernel_rfl) (by kernel_rfl) (by kernel_rfl) (fun _ _ _ h => h) (Or.inl ⟨by rfl, ?_⟩) hS ?_
                        · rintro w' ⟨hb', hc'⟩
                          go_simp
                        simp only [List.getElem_toArray, List.getElem_cons_zero, List.getElem_cons_succ, Act.put, List.setIfInBounds_toArray, List.set_cons_zero, List.set_cons_succ]
                        refine anyT_take 2 [] (.pointer (some ⟨gd, m, none⟩)) rfl (by kernel_rfl) (by kernel_rfl) (by kernel_rfl) (by kernel_rfl) (by kernel_rfl) (fun _ _ _ h => h) (Or.inl ⟨by rfl, ?_⟩) hS ?_
                        · rintro w' ⟨hb', hc'⟩
                          go_simp
                        simp only [List.getElem_toArray, List.getElem_cons_zero, List.getElem_cons_succ, Act.put, List.setIfInBounds_toArray, List.set_cons_zero, List.set_cons_succ]
                        refine anyT_take 3 [] (.bool false) rfl (by kernel_rfl) (by kernel_rfl) (by kernel_rfl) (by kernel_rfl) (by kernel_rfl) (fun _ _ _ h => h) (Or.inl ⟨by rfl, ?_⟩) hS ?_
                        · rintro w' ⟨hb', hc'⟩
                          go_simp
                        simp only [List.getElem_toArray, List.getElem_cons_zero, List.getElem_cons_succ, Act.put, List.setIfInBounds_toArray, List.set_cons_zero, List.set_cons_succ]
                        refine anyT_take 4 [] (.bool false) rfl (by kernel_rfl) (by kernel_rfl) (by kernel_rfl) (by kernel_rfl) (by kernel_rfl) (fun _ _ _ h => h) (Or.inl ⟨by rfl, ?_⟩) hS ?_
                        · rintro w' ⟨hb', hc'⟩
                          go_simp
                        simp only [List.getElem_toArray, List.getElem_cons_zero, List.getElem_cons_succ, Act.put, List.setIfInBounds_toArray, List.set_cons_zero, List.set_cons_succ]
                        refine anyT_take 5 [] undef rfl (by kernel_rfl) (by kernel_rfl) (by kernel_rfl) (by kernel_rfl) (by kernel_rfl) (fun _ _ _ h => h) (Or.inr ⟨by rfl, rfl⟩) hS ?_
                        simp only [List.getElem_toArray, List.getElem_cons_zero, List.getElem_cons_succ, Act.put, List.setIfInBounds_toArray, List.set_cons_zero, List.set_cons_succ]
                        refine anyT_take 6 [] undef rfl (by kernel_rfl) (by kernel_rfl) (by kernel_rfl) (by kernel_rfl) (by kernel_rfl) (fun _ _ _ h => h) (Or.inr ⟨by rfl, rfl⟩) hS ?_
                        simp only [List.getElem_toArray, List.getElem_cons_zero, List.getElem_cons_succ, Act.put, List.setIfInBounds_toArray, List.set_cons_zero, List.set_cons_succ]
                        refine anyT_take 7 [] undef rfl (by kernel_rfl) (by kernel_rfl) (by kernel_rfl) (by kernel_rfl) (by kernel_rfl) (fun _ _ _ h => h) (Or.inr ⟨by rfl, rfl⟩) hS ?_
                        simp only [List.getElem_toArray, List.getElem_cons_zero, List.getElem_cons_succ, Act.put, List.setIfInBounds_toArray, List.set_cons_zero, List.set_cons_succ]
                        refine anyT_take 8 [] undef rfl (by kernel_rfl) (by kernel_rfl) (by kernel_rfl) (by kernel_rfl) (by kernel_rfl) (fun _ _ _ h => h) (Or.inr ⟨by rfl, rfl⟩) hS ?_
                        simp only [List.getElem_toArray, List.getElem_cons_zero, List.getElem_cons_succ, Act.put, List.setIfInBounds_toArray, List.set_cons_zero, List.set_cons_succ]
                        refine anyT_take 9 [] undef rfl (by kernel_rfl) (by kernel_rfl) (by kernel_rfl) (by kernel_rfl) (by kernel_rfl) (fun _ _ _ h => h) (Or.inr ⟨by rfl, rfl⟩) hS ?_
                        simp only [List.getElem_toArray, List.getElem_cons_zero, List.getElem_cons_succ, Act.put, List.setIfInBounds_toArray, List.set_cons_zero, List.set_cons_succ]
                        refine anyT_take 10 [] undef rfl (by kernel_rfl) (by kernel_rfl) (by kernel_rfl) (by kernel_rfl) (by kernel_rfl) (fun _ _ _ h => h) (Or.inr ⟨by rfl, rfl⟩) hS ?_
                        simp only [List.getElem_toArray, List.getElem_cons_zero, List.getElem_cons_succ, Act.put, List.setIfInBounds_toArray, List.set_cons_zero, List.set_cons_succ]
                        refine anyT_take 11 [] undef rfl (by kernel_rfl) (by kernel_rfl) (by kernel_rfl) (by kernel_rfl) (by kernel_rfl) (fun _ _ _ h => h) (Or.inr ⟨by rfl, rfl⟩) hS ?_
                        simp only [List.getElem_toArray, List.getElem_cons_zero, List.getElem_cons_succ, Act.put, List.setIfInBounds_toArray, List.set_cons_zero, List.set_cons_succ]
                        refine anyT_take 12 [] undef rfl (by kernel_rfl) (by kernel_rfl) (by kernel_rfl) (by kernel_rfl) (by kernel_rfl) (fun _ _ _ h => h) (Or.inr ⟨by rfl, rfl⟩) hS ?_
                        simp only [List.getElem_toArray, List.getElem_cons_zero, List.getElem_cons_succ, Act.put, List.setIfInBounds_toArray, List.set_cons_zero, List.set_cons_succ]
                        refine anyT_take 13 [] undef rfl (by kernel_rfl) (by kernel_rfl) (by kernel_rfl) (by kernel_rfl) (by kernel_rfl) (fun _ _ _ h => h) (Or.inr ⟨by rfl, rfl⟩) hS ?_
                        simp only [List.getElem_toArray, List.getElem_cons_zero, List.getElem_cons_succ, Act.put, List.setIfInBounds_toArray, List.set_cons_zero, List.set_cons_succ]
                        refine anyT_take 14 [] (.bool false) rfl (by kernel_rfl) (by kernel_rfl) (by kernel_rfl) (by kernel_rfl) (by kernel_rfl) (fun _ _ _ h => h) (Or.inl ⟨by rfl, ?_⟩) hS ?_
                        · rintro w' ⟨hb', hc'⟩
                          go_simp
                        simp only [List.getElem_toArray, List.getElem_cons_zero, List.getElem_cons_succ, Act.put, List.setIfInBounds_toArray, List.set_cons_zero, List.set_cons_succ]
                        refine anyT_take 15 [] (.bool false) rfl (by kernel_rfl) (by kernel_rfl) (by kernel_rfl) (by kernel_rfl) (by kernel_rfl) (fun _ _ _ h => h) (Or.inl ⟨by rfl, ?_⟩) hS ?_
                        · rintro w' ⟨hb', hc'⟩
                          go_simp
                        simp only [List.getElem_toArray, List.getElem_cons_zero, List.getElem_cons_succ, Act.put, List.setIfInBounds_toArray, List.set_cons_zero, List.set_cons_succ]
                        refine anyT_take 16 [] (.pointer (some ⟨E, 0, none⟩)) rfl (by kernel_rfl) (by kernel_rfl) (by kernel_rfl) (by kernel_rfl) (by kernel_rfl) (fun _ _ _ h => h) (Or.inl ⟨by rfl, ?_⟩) hS ?_
                        · rintro w' ⟨hb', hc'⟩
                          go_simp
                        simp only [List.getElem_toArray, List.getElem_cons_zero, List.getElem_cons_succ, Act.put, List.setIfInBounds_toArray, List.set_cons_zero, List.set_cons_succ]
                        refine anyT_take 17 [] (.int .i64 (m : Int)) rfl (by kernel_rfl) (by kernel_rfl) (by kernel_rfl) (by kernel_rfl) (by kernel_rfl) (fun _ _ _ h => h) (Or.inl ⟨by rfl, ?_⟩) hS ?_
                        · rintro w' ⟨hb', hc'⟩
                          go_simp
                        simp only [List.getElem_toArray, List.getElem_cons_zero, List.getElem_cons_succ, Act.put, List.setIfInBounds_toArray, List.set_cons_zero, List.set_cons_succ]
                        refine anyT_ready [18] (by kernel_rfl) (by simp) ?_
                        refine EachT.cons rfl (fun K hK => ?_) EachT.nil
                        simp only [List.getElem_toArray, List.getElem_cons_zero, List.getElem_cons_succ]
                        go_simp
                        refine (HDN.out _ ((Below.refl _ _).drew)).mono ?_
                        rintro e wd ⟨rfl, hbd⟩
                        (try go_wp2_with fail)
                        refine hK.out _ _ (fun _ => HKP.out _ hbd) ?_
                        clear hK K
                        refine anyT_take 19 [] (.bool false) rfl (by kernel_rfl) (by kernel_rfl) (by kernel_rfl) (by kernel_rfl) (by kernel_rfl) (fun _ _ _ h => h) (Or.inl ⟨by rfl, ?_⟩) (HKP.out _ hbd) ?_
                        · rintro w' ⟨hb', hc'⟩
                          go_simp
                        simp only [List.getElem_toArray, List.getElem_cons_zero, List.getElem_cons_succ, Act.put, List.setIfInBounds_toArray, List.set_cons_zero, List.set_cons_succ]
                        refine anyT_take 20 [] (.bool false) rfl (by kernel_rfl) (by kernel_rfl) (by kernel_rfl) (by kernel_rfl) (by kernel_rfl) (fun _ _ _ h => h) (Or.inl ⟨by rfl, ?_⟩) (HKP.out _ hbd) ?_
                        · rintro w' ⟨hb', hc'⟩
                          go_simp
                        simp only [List.getElem_toArray, List.getElem_cons_zero, List.getElem_cons_succ, Act.put, List.setIfInBounds_toArray, List.set_cons_zero, List.set_cons_succ]
                        refine anyT_done (by kernel_rfl) ?_
                        go_wp2_with fail
                        go_roundg (r.length - (m + 1))
                        case measure => omega
                        case rel => exact ⟨m + 1, by omega, rfl, by go_num, hBq.trans (hbd.mono hBq.size)⟩
                    · obtain rfl : m = r.length := by omega
                      have h8' := h7.later hBq
                      have hR8 := hR.later hBq
                      have hBx8 := hBx.later hBq
                      have hB8 : Below w.heap.size w wr := hB7.trans (hBq.mono hB7.size)
                      clear hR hBx hBq h7 hB7 hE7 hD7
                      go_wp2_with fail
                      go_loopg [18] l2.length (fun g i wq => ∃ (j : Nat) (X : Nat → Wk) (T : Nat → List Slot4), j ≤ l2.length ∧ g = l2.length - j ∧ i = .int .i64 j ∧ RdIn wq c N E B vW C U s r X T ∧ Below w.heap.size w wq ∧ ResRow wq G2 r.length (fun i => (outAt s r i).code) (fun i => (outAt s r i).regs) ∧ Box wq P y)
                      case atStart => exact ⟨0, _, _, by omega, by omega, rfl, h8', hB8, hR8, hBx8⟩
                      case round =>
                        clear h8' hB8 hR8 hBx8
                        obtain ⟨j, X, T, hj, hg, rfl, h, hBl, hR, hBx⟩ := hrel
                        by_cases hlt : j < l2.length
                        · obtain ⟨pb, poff, rfl, pc⟩ := hcell2 j hlt
                          replace pc := cell_later hBl pc
                          have hpk := pick_any h l2[j]
                          have hji : (j : Int) < (l2.length : Int) := by omega
                          generalize l2[j] = p at *
                          clear hcell2
                          go_wp2_with fail
                          refine hpk.mono ?_
                          clear hpk
                          rintro e w9 ⟨x, y', X9, T9, rfl, h9, hg9⟩
                          have hB9 := h.below hg9 hBl hN hBl.size
                          have hR9 := hR.grew hg9 (fun hk => by have := hcr.out _ hk; omega)
                          have hBx9 : Box w9 P y := fun i hi => hg9.cell (hBx i hi) (fun hk => by have := hcr.out _ hk; simp at this; omega)
                          clear h hg9 hBl pc hR hBx
                          go_wp2_with fail
                          go_roundg (l2.length - (j + 1))
                          case measure => omega
                          case rel => exact ⟨j + 1, X9, T9, by omega, rfl, by go_num, h9, hB9, hR9, hBx9⟩
                        · obtain rfl : j = l2.length := by omega
                          clear hcell2
                          have hfi := finish_any h
                          go_wp2_with fail
                          refine hfi.mono ?_
                          clear hfi
                          rintro e w9 ⟨rfl, X9, T9, h9, hg9, ha9⟩
                          have hB9 := h.below hg9 hBl hN hBl.size
                          have hR9 := hR.grew hg9 (fun hk => by have := hcr.out _ hk; omega)
                          have hBx9 : Box w9 P y := fun i hi => hg9.cell (hBx i hi) (fun hk => by have := hcr.out _ hk; simp at this; omega)
                          have HRE : Hid (∀ w', Below w9.heap.size w9 w' → Calls Tryd.prog 34 #[.pointer (some ⟨E, 0, none⟩)] w' fun e w'' => ∃ G3, e = .returned (.slice (some ⟨G3, 0, none⟩) r.length r.length) ∧ ResRow w'' G3 r.length (fun i => (outAt s r i).code) (fun i => (outAt s r i).regs) ∧ Below w9.heap.size w9 w'') := fun w' hb => by
                            refine (results_end (h9.later hb) ha9).mono ?_
                            rintro e w'' ⟨rfl, hO, hb'⟩
                            rw [rowC_out] at hO
                            exact ⟨_, rfl, resRow_of_owns hO, hb.trans (hb'.mono hb.size)⟩
                          have HSM : Hid (∀ w' G3, Below w9.heap.size w9 w' → ResRow w' G3 r.length (fun i => (outAt s r i).code) (fun i => (outAt s r i).regs) → Calls Tryd.prog 27 #[.slice (some ⟨G2, 0, none⟩) r.length r.length, .slice (some ⟨G3, 0, none⟩) r.length r.length] w' fun e w'' => e = .returned (.bool true) ∧ Below w9.heap.size w9 w'') := fun w' G3 hb h3 => by
                            refine (sameRes_any G2 G3 r.length _ _ _ _ w' (hR9.later hb) h3 h8).mono ?_
                            rintro e w'' ⟨he, hb'⟩
                            exact ⟨he, hb.trans (hb'.mono hb.size)⟩
                          have HSA : Hid (∀ w', Below w9.heap.size w9 w' → Calls Tryd.prog 20 #[.pointer (some ⟨B, 0, none⟩)] w' fun e w'' => e = .returned (.agg #[.int .i64 (y 0), .int .i64 (y 1), .int .i64 (y 2), .int .i64 (y 3), .int .i64 (y 4), .int .i64 (y 5), .int .i64 (y 6), .int .i64 (y 7), .int .i64 (y 8), .int .i64 (y 9)]) ∧ Below w9.heap.size w9 w'') := fun w' hb => by
                            refine (state_end (h9.later hb) ha9).mono ?_
                            rintro e w'' ⟨rfl, hb'⟩
                            rw [← HY.out]
                            exact ⟨rfl, hb.trans (hb'.mono hb.size)⟩
                          have HOV : Hid (∀ w', Below w9.heap.size w9 w' → Calls Tryd.prog 21 #[.pointer (some ⟨B, 0, none⟩)] w' fun e w'' => e = .returned (.bool true) ∧ Below w9.heap.size w9 w'') := fun w' hb => by
                            refine (over_end (h9.later hb) ha9).mono ?_
                            rintro e w'' ⟨he, hb'⟩
                            exact ⟨he, hb.trans (hb'.mono hb.size)⟩
                          have HQ : Hid (∀ w', Below w9.heap.size w9 w' → w'.cell? ⟨E, 0, none⟩ = some (.pointer (some ⟨B, 0, none⟩)) ∧ Box w' P y) := fun w' hb => ⟨cell_later hb h9.at'.ft, hBx9.later hb⟩
                          have h38 := eq38 y
                          clear hg9 hR hBx hR9 hBx9 h hBl h9
                          have HKP : Hid (∀ w', Below w9.heap.size w9 w' → Below w9.heap.size w9 w' ∧ w'.rangeAt P 0 [Value.int .i64 (y 0), .int .i64 (y 1), .int .i64 (y 2), .int .i64 (y 3), .int .i64 (y 4), .int .i64 (y 5), .int .i64 (y 6), .int .i64 (y 7), .int .i64 (y 8), .int .i64 (y 9)] ∧ w'.cell? ⟨E, 0, none⟩ = some (.pointer (some ⟨B, 0, none⟩))) := fun w' hb => ⟨hb, ((HQ.out w' hb).2).range, (HQ.out w' hb).1⟩
                          have u1 : Tryd.prog.underlying 23 = some (.array 10 2) := Tryd.underlying23
                          have u2 : (Tryd.prog.info? 23).map (·.size) = some [Value.int .i64 (y 0), .int .i64 (y 1), .int .i64 (y 2), .int .i64 (y 3), .int .i64 (y 4), .int .i64 (y 5), .int .i64 (y 6), .int .i64 (y 7), .int .i64 (y 8), .int .i64 (y 9)].length := by kernel_rfl
                          clear HQ
                          go_wp2_with fail
                          go_region_held3 (fun w' => Below w9.heap.size w9 w' ∧ w'.rangeAt P 0 [Value.int .i64 (y 0), .int .i64 (y 1), .int .i64 (y 2), .int .i64 (y 3), .int .i64 (y 4), .int .i64 (y 5), .int .i64 (y 6), .int .i64 (y 7), .int .i64 (y 8), .int .i64 (y 9)] ∧ w'.cell? ⟨E, 0, none⟩ = some (.pointer (some ⟨B, 0, none⟩))) (first | exact HKP.out _ (Below.refl _ _).drew | exact HKP.out _ hbe | exact HKP.out _ hbd | exact HKP.out _ hbb | exact HKP.out _ hba)
                            (first | (go_at_call 34; refine (HRE.out _ (by first | exact Below.refl _ _ | exact (Below.refl _ _).drew)).mono ?_; rintro e wa ⟨G3, rfl, hRa, hba⟩) | (go_at_call 27; refine (HSM.out _ G3 hba hRa).mono ?_; rintro e wb ⟨rfl, hbb⟩) | (go_at_call 20; refine (HSA.out _ hbb).mono ?_; rintro e wd ⟨rfl, hbd⟩) | (go_at_call 21; refine (HOV.out _ hbd).mono ?_; rintro e we ⟨rfl, hbe⟩))
                          all_goals go_wp2_with fail
                          all_goals go_ret
                          all_goals exact ⟨rfl, hB9.trans (hbe.mono hB9.size)⟩
      · have hnew := round_bad _ r s w2 (HR.later hB1) hf h0 (hL.later hB1)
        have t0 : (roundF r != 0) = true := by simp [h0]
        generalize roundF r = cc at *
        clear h0 hcell hr0
        go_wp2_with fail
        refine hnew.mono ?_
        clear hnew k0 k1 k2 k3 k4 k5 k6 k7 k8 k9 hX1
        rintro e w3 ⟨rfl, hb3⟩
        go_wp2_with fail
        go_ret
        exact ⟨rfl, hB1.trans (hb3.mono hB1.size)⟩
  · go_wp2_with fail
    go_ret
    exact ⟨rfl, hB1⟩
end Go.Proofs.YthlhbmldfjkagabDoor
