/-
  The walks of the reference's Board.Set, Void and State.
-/
import Derived.Test.YthlhbmldfjkagaaDoorHbB
namespace Go.Proofs.YthlhbmldfjkagaaDoor
open Go.RowKit Go.Shelf

theorem setB_any (N D k : Nat) (hk : k < 10) (b n : Int) (T : Nat → List Slot4) (V : Nat → Value) (w : World) (h : BoardAt w N D T V) (h9 : (T k).length ≤ 9) (hf : Fine (T k)) :
    Calls Tryd.prog 41 #[.pointer (some ⟨D, 0, none⟩), .int .i64 (k : Int), .int .i64 b, .int .i64 n] w fun e w' => (∃ t, e = .returned (.bool t)) ∧ BoardAt w' N D (settleT T (k : Int) ⟨b, false, false, n⟩) V ∧ Grew (boardS V) w w' := by
  have hc := changeB_any N D k hk ⟨b, false, false, n⟩ T V w h h9 hf
  dsimp only at hc
  clear h h9 hf
  go_enter Tryd.func41, Tryd.ntmps41
  go_wp2_with fail
  refine hc.mono ?_
  clear hc
  rintro e w1 ⟨⟨t, rfl⟩, h1, hg⟩
  go_wp2_with fail
  go_ret
  exact ⟨⟨_, rfl⟩, h1, hg⟩
theorem voidB_any (N D k : Nat) (hk : k < 10) (b : Int) (T : Nat → List Slot4) (V : Nat → Value) (w : World) (h : BoardAt w N D T V) (h9 : (T k).length ≤ 9) (hf : Fine (T k)) :
    Calls Tryd.prog 43 #[.pointer (some ⟨D, 0, none⟩), .int .i64 (k : Int), .int .i64 b] w fun e w' => (∃ t, e = .returned (.bool t)) ∧ BoardAt w' N D (settleT T (k : Int) ⟨b, false, true, 0⟩) V ∧ Grew (boardS V) w w' := by
  have hc := changeB_any N D k hk ⟨b, false, true, 0⟩ T V w h h9 hf
  dsimp only at hc
  clear h h9 hf
  go_enter Tryd.func43, Tryd.ntmps43
  go_wp2_with fail
  refine hc.mono ?_
  clear hc
  rintro e w1 ⟨⟨t, rfl⟩, h1, hg⟩
  go_wp2_with fail
  go_ret
  exact ⟨⟨_, rfl⟩, h1, hg⟩

def knF (acc : Int) (t : Slot4) : Int := if knownP t then t.n else acc
theorem val_fold (l : List Slot4) : valF l = l.foldl knF 0 := by
  have := last_fold knownP l 0
  unfold valF
  show _ = l.foldl (fun acc t => if knownP t then t.n else acc) 0
  rw [← this]
  cases lastF knownP l <;> rfl

set_option maxRecDepth 100000 in
set_option maxHeartbeats 2000000 in
theorem stateB_any (N D : Nat) (T : Nat → List Slot4) (V : Nat → Value) (w : World) (h : BoardAt w N D T V) (h9 : ∀ k, k < 10 → (T k).length ≤ 9) :
    Calls Tryd.prog 38 #[.pointer (some ⟨D, 0, none⟩)] w fun e w' => e = .returned (stV (fun k => valF (T k))) ∧ Below w.heap.size w w' := by
  go_enter Tryd.func38, Tryd.ntmps38
  go_wp2_with fail
  obtain ⟨W0, e0⟩ : ∃ W0, W0 = ((w.alloc (.cells #[.int .i64 0, .int .i64 0, .int .i64 0, .int .i64 0, .int .i64 0, .int .i64 0, .int .i64 0, .int .i64 0, .int .i64 0, .int .i64 0] 38)).alloc (.cells #[.int .i64 0, .int .i64 0, .int .i64 0, .int .i64 0, .int .i64 0, .int .i64 0, .int .i64 0, .int .i64 0, .int .i64 0, .int .i64 0] 38)) := ⟨_, rfl⟩
  rw [← e0]
  have hB0 : Below w.heap.size w W0 := by rw [e0]; exact ((Below.refl _ _).alloc (Nat.le_refl _) _).alloc (by simp) _
  have hsz : W0.heap.size = w.heap.size + 2 := by rw [e0]; simp
  have hX0 : Box W0 w.heap.size (fun _ => 0) := by rw [e0]; exact (box_zero w).later ((Below.refl _ _).alloc (Nat.le_refl _) _)
  have hY0 : Box W0 (w.heap.size + 1) (fun _ => 0) := by rw [e0]; have := box_zero (w.alloc (.cells #[.int .i64 0, .int .i64 0, .int .i64 0, .int .i64 0, .int .i64 0, .int .i64 0, .int .i64 0, .int .i64 0, .int .i64 0, .int .i64 0] 38)); rw [World.size_alloc] at this; exact this
  have hf0 : ∀ o, W0.frozen? ⟨w.heap.size, o, none⟩ = false := fun o => by rw [e0]; go_simp
  have hf1 : ∀ o, W0.frozen? ⟨w.heap.size + 1, o, none⟩ = false := fun o => by rw [e0]; go_simp
  clear e0
  go_loopg [4] 10 (fun g i wr => ∃ j : Nat, j ≤ 10 ∧ g = 10 - j ∧ i = .int .i64 j ∧ (∃ s : Nat → Int, Box wr (w.heap.size + 1) s ∧ Hid (∀ k, k < j → s k = valF (T k)) ∧ Hid (∀ k, j ≤ k → k < 10 → s k = 0)) ∧ (∀ o, wr.frozen? ⟨w.heap.size + 1, o, none⟩ = false) ∧ Below (w.heap.size + 1) W0 wr)
  case atStart => exact ⟨0, by omega, by omega, rfl, ⟨_, hY0, fun k hk => by omega, fun k _ _ => rfl⟩, hf1, Below.refl _ _⟩
  case round =>
    obtain ⟨j, hj, hg, rfl, ⟨s, hs, hF, hZ⟩, hfr, hB⟩ := hrel
    by_cases hlt : j < 10
    · have p1 : (j : Int) < 10 := by omega
      have hBw : Below w.heap.size w wr := hB0.trans (hB.mono (by omega))
      have hl9 := h9 j hlt
      obtain ⟨a, cap, ev, hsl⟩ := h.slots hlt
      have c := h.cell j hlt
      rw [ev] at c
      have hvf : Hid (valF (T j) = (T j).foldl knF 0) := val_fold _
      clear ev
      obtain ⟨L, eL'⟩ : ∃ L, L = T j := ⟨_, rfl⟩
      rw [← eL'] at c hsl hl9 hvf
      have eL : Hid (L = T j) := eL'
      clear eL' hBw
      go_wp2_with fail
      go_loopg [5] L.length (fun g i wq => ∃ m : Nat, m ≤ L.length ∧ g = L.length - m ∧ i = .int .i64 m ∧ (∃ s : Nat → Int, Box wq (w.heap.size + 1) s ∧ Hid (∀ k, k < j → s k = valF (T k)) ∧ Hid (∀ k, j < k → k < 10 → s k = 0) ∧ Hid (s j = (L.take m).foldl knF 0)) ∧ (∀ o, wq.frozen? ⟨w.heap.size + 1, o, none⟩ = false) ∧ Below (w.heap.size + 1) W0 wq)
      case atStart => exact ⟨0, by omega, by omega, rfl, ⟨s, hs, hF, fun k h1 h2 => hZ.out k (by omega) h2, hZ.out j (Nat.le_refl _) hlt⟩, hfr, hB⟩
      case round =>
        clear hs hF hZ hfr hB
        obtain ⟨m, hm, hg2, rfl, ⟨s, hs, hF, hZ, hV⟩, hfr, hB⟩ := hrel
        have hBw : Below w.heap.size w wr := hB0.trans (hB.mono (by omega))
        have hzw : w.heap.size + 1 < wr.heap.size := World.block_lt_of_cell? wr _ (hs 0 (by omega))
        have c' := cell_later hBw c
        have hDz : D < wr.heap.size := World.block_lt_of_cell? wr _ c'
        clear c
        by_cases hml : m < L.length
        · obtain ⟨sb, off, rfl, d0, d1, d2, d3⟩ := hsl m hml
          replace d0 := cell_later hBw d0
          replace d1 := cell_later hBw d1
          replace d2 := cell_later hBw d2
          replace d3 := cell_later hBw d3
          have hmi : (m : Int) < (L.length : Int) := by omega
          have hn : Hid ((L.take (m + 1)).foldl knF 0 = knF (s j) (slotAt L m)) := by show _ = _; rw [fold_next _ _ hml, ← hV.out]
          have hkn : Hid (knF (s j) (slotAt L m) = if (!(slotAt L m).op && !(slotAt L m).vo) = true then (slotAt L m).n else s j) := rfl
          have hcj := hs j hlt
          clear hsl hV
          generalize slotAt L m = t at *
          obtain ⟨tb, top, tvo, tn⟩ := t
          dsimp only at d0 d1 d2 d3 hkn
          have hb1 : Below wr.heap.size wr (wr.alloc (.cells #[.int .i64 tb, .bool top, .bool tvo, .int .i64 tn] 103)) := (Below.refl _ _).alloc (Nat.le_refl _) _
          have hs1 := hs.later hb1
          have hB1 : Below (w.heap.size + 1) W0 (wr.alloc (.cells #[.int .i64 tb, .bool top, .bool tvo, .int .i64 tn] 103)) := hB.alloc (by omega) _
          have hfr1 : ∀ o, (wr.alloc (.cells #[.int .i64 tb, .bool top, .bool tvo, .int .i64 tn] 103)).frozen? ⟨w.heap.size + 1, o, none⟩ = false := fun o => by rw [hb1.frozen (p := ⟨w.heap.size + 1, o, none⟩) hzw]; exact hfr o
          cases top
          · cases tvo
            · have hbz : Below (wr.setCell ⟨w.heap.size + 1, j, none⟩ (.int .i64 tn)).heap.size (wr.setCell ⟨w.heap.size + 1, j, none⟩ (.int .i64 tn)) ((wr.setCell ⟨w.heap.size + 1, j, none⟩ (.int .i64 tn)).alloc (.cells #[.int .i64 tb, .bool false, .bool false, .int .i64 tn] 103)) := (Below.refl _ _).alloc (Nat.le_refl _) _
              have HS2 : Hid (Box ((wr.setCell ⟨w.heap.size + 1, j, none⟩ (.int .i64 tn)).alloc (.cells #[.int .i64 tb, .bool false, .bool false, .int .i64 tn] 103)) (w.heap.size + 1) (putAt s j tn)) := (hs.set hlt tn).later hbz
              have HB2 : Hid (Below (w.heap.size + 1) W0 ((wr.setCell ⟨w.heap.size + 1, j, none⟩ (.int .i64 tn)).alloc (.cells #[.int .i64 tb, .bool false, .bool false, .int .i64 tn] 103))) := (hB.setCell (p := ⟨w.heap.size + 1, j, none⟩) (Nat.le_refl _) _).alloc (by rw [size_setCell]; omega) _
              have HFR : Hid (∀ o, ((wr.setCell ⟨w.heap.size + 1, j, none⟩ (.int .i64 tn)).alloc (.cells #[.int .i64 tb, .bool false, .bool false, .int .i64 tn] 103)).frozen? ⟨w.heap.size + 1, o, none⟩ = false) := fun o => by rw [hbz.frozen (p := ⟨w.heap.size + 1, o, none⟩) (by rw [size_setCell]; exact hzw), World.frozen?_setCell]; exact hfr o
              have HF2 : Hid (∀ k, k < j → putAt s j tn k = valF (T k)) := fun k hk => by unfold putAt; rw [if_neg (by omega)]; exact hF.out k hk
              have HZ2 : Hid (∀ k, j < k → k < 10 → putAt s j tn k = 0) := fun k h1 h2 => by unfold putAt; rw [if_neg (by omega)]; exact hZ.out k h1 h2
              have HV2 : Hid (putAt s j tn j = (L.take (m + 1)).foldl knF 0) := by show _ = _; rw [hn.out, hkn.out]; simp [putAt]
              clear hs hs1 hfr hB hbz
              go_wp2_with fail
              go_roundg (L.length - (m + 1))
              case measure => omega
              case rel => exact ⟨m + 1, by omega, rfl, by go_num, ⟨_, HS2.out, HF2, HZ2, HV2⟩, HFR.out, HB2.out⟩
            · have HV2 : Hid (s j = (L.take (m + 1)).foldl knF 0) := by show _ = _; rw [hn.out, hkn.out]; simp
              clear hs hfr hB
              go_wp2_with fail
              go_roundg (L.length - (m + 1))
              case measure => omega
              case rel => exact ⟨m + 1, by omega, rfl, by go_num, ⟨s, hs1, hF, hZ, HV2⟩, hfr1, hB1⟩
          · have HV2 : Hid (s j = (L.take (m + 1)).foldl knF 0) := by show _ = _; rw [hn.out, hkn.out]; simp
            clear hs hfr hB
            go_wp2_with fail
            go_roundg (L.length - (m + 1))
            case measure => omega
            case rel => exact ⟨m + 1, by omega, rfl, by go_num, ⟨s, hs1, hF, hZ, HV2⟩, hfr1, hB1⟩
        · obtain rfl : m = L.length := by omega
          have hF' : Hid (∀ k, k < j + 1 → s k = valF (T k)) := fun k hk => by
            by_cases e : k = j
            · rw [e, hV.out, List.take_length, ← hvf.out, eL.out]
            · exact hF.out k (by omega)
          have hZ' : Hid (∀ k, j + 1 ≤ k → k < 10 → s k = 0) := fun k h1 h2 => hZ.out k (by omega) h2
          clear hsl hV hF hZ
          go_wp2_with fail
          go_roundg (10 - (j + 1))
          case measure => omega
          case rel => exact ⟨j + 1, by omega, rfl, by go_num, ⟨s, hs, hF', hZ'⟩, hfr, hB⟩
    · obtain rfl : j = 10 := by omega
      have hBw : Below w.heap.size w wr := hB0.trans (hB.mono (by omega))
      have hx : Box wr w.heap.size (fun _ => 0) := fun i hi => by rw [hB.cell (p := ⟨w.heap.size, i, none⟩) (by simp)]; exact hX0 i hi
      have hfx : ∀ o, wr.frozen? ⟨w.heap.size, o, none⟩ = false := fun o => by rw [hB.frozen (p := ⟨w.heap.size, o, none⟩) (by simp)]; exact hf0 o
      obtain ⟨k0, k1, k2, k3, k4, k5, k6, k7, k8, k9⟩ := hs.ten
      obtain ⟨y0, y1, y2, y3, y4, y5, y6, y7, y8, y9⟩ := hx.ten
      clear hX0 hY0 hf0 hf1 hB
      go_wp2_with fail
      exact bodyPost_ret (v := stV s) (by simp [results, Tryd.results38, go_sem, stV, y0, y1, y2, y3, y4, y5, y6, y7, y8, y9]) rfl ⟨ret_st fun i hi => hF.out i hi, below_ten hBw (Nat.le_refl _) _ _ _ _ _ _ _ _ _ _⟩
end Go.Proofs.YthlhbmldfjkagaaDoor
