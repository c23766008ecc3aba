/-
  The walks of Over and State.
-/
import Derived.Test.YthlhbmldfjkagaaDoorTabD
namespace Go.Proofs.YthlhbmldfjkagaaDoor
open Go.RowKit Go.Shelf

/-- Is no slot open? -/
def overF (T : Nat → List Slot4) : Bool := (List.range 10).all fun k => (T k).all fun s => !s.op
theorem overF_true {T : Nat → List Slot4} : overF T = true ↔ ∀ k, k < 10 → lastF stillP (T k) = none := by
  unfold overF
  rw [List.all_eq_true]
  constructor
  · intro h k hk
    rw [lastF_none]
    intro s hs
    have := List.all_eq_true.1 (h k (by simpa using hk)) s hs
    simpa [stillP] using this
  · intro h k hk
    rw [List.all_eq_true]
    intro s hs
    have := lastF_none.1 (h k (by simpa using hk)) s hs
    simpa [stillP] using this

set_option maxHeartbeats 1000000 in
theorem over_any (B : Nat) (T : Nat → List Slot4) (w : World) (h : TabAt w B T) :
    Calls Tryd.prog 35 #[.pointer (some ⟨B, 0, none⟩)] w fun e w' => e = .returned (.bool (overF T)) ∧ Below w.heap.size w w' := by
  go_enter Tryd.func35, Tryd.ntmps35
  go_wp2_with fail
  go_loopg [4] 10 (fun g i wr => ∃ j : Nat, j ≤ 10 ∧ g = 10 - j ∧ i = .int .i64 j ∧ Hid (∀ k, k < j → lastF stillP (T k) = none) ∧ Below w.heap.size w wr)
  case atStart => exact ⟨0, by omega, by omega, rfl, fun k hk => by omega, Below.refl _ _⟩
  case round =>
    obtain ⟨j, hj, hg, rfl, hF, hB⟩ := hrel
    by_cases hlt : j < 10
    · have hlast := last_any B j hlt (T j) 63 #[] stillP _ ((h.row j hlt).later hB) (still_asks _) asks_enter56
      have p1 : (j : Int) < 10 := by omega
      cases hl : lastF stillP (T j) with
      | none =>
        have hpt : lastPtr B j stillP (T j) = none := by rw [lastPtr, hl]; rfl
        rw [hpt] at hlast
        have hF' : Hid (∀ k, k < j + 1 → lastF stillP (T k) = none) := fun k hk => by
          by_cases e : k = j
          · rw [e]; exact hl
          · exact hF.out k (by omega)
        clear hpt hl hF
        go_wp2_with fail
        refine hlast.mono ?_
        clear hlast
        rintro e w' ⟨rfl, hb⟩
        have hB1 : Below w.heap.size w w' := hB.trans (hb.mono hB.size)
        clear hB hb
        go_wp2_with fail
        go_roundg (10 - (j + 1))
        case measure => omega
        case rel => exact ⟨j + 1, by omega, rfl, by go_num, hF', hB1⟩
      | some i =>
        have hpt : lastPtr B j stillP (T j) = some ⟨B, j * 37 + i * 4, none⟩ := by rw [lastPtr, hl]; rfl
        rw [hpt] at hlast
        have hn : Hid (overF T = false) := by
          show _ = _
          cases ho : overF T with
          | false => rfl
          | true => rw [overF_true.1 ho j hlt] at hl; cases hl
        clear hpt hl hF
        go_wp2_with fail
        refine hlast.mono ?_
        clear hlast
        rintro e w' ⟨rfl, hb⟩
        have hB1 : Below w.heap.size w w' := hB.trans (hb.mono hB.size)
        clear hB hb
        go_wp2_with fail
        go_ret
        exact ⟨ret_bool' hn.out.symm, hB1⟩
    · obtain rfl : j = 10 := by omega
      have ho : Hid (overF T = true) := overF_true.2 hF.out
      clear hF
      go_wp2_with fail
      go_ret
      exact ⟨ret_bool' ho.out.symm, hB⟩

/-- What the last known slot has. -/
def valF (l : List Slot4) : Int := match lastF knownP l with | none => 0 | some i => (slotAt l i).n

theorem below_ten {B : Nat} {w W : World} (h : Below B w W) {b : Nat} (h1 : B ≤ b) (x0 x1 x2 x3 x4 x5 x6 x7 x8 x9 : Value) : Below B w ((((((((((W.setCell ⟨b, 0, none⟩ x0).setCell ⟨b, 1, none⟩ x1).setCell ⟨b, 2, none⟩ x2).setCell ⟨b, 3, none⟩ x3).setCell ⟨b, 4, none⟩ x4).setCell ⟨b, 5, none⟩ x5).setCell ⟨b, 6, none⟩ x6).setCell ⟨b, 7, none⟩ x7).setCell ⟨b, 8, none⟩ x8).setCell ⟨b, 9, none⟩ x9) :=
  (((((((((h.setCell (p := ⟨b, 0, none⟩) h1 x0).setCell (p := ⟨b, 1, none⟩) h1 x1).setCell (p := ⟨b, 2, none⟩) h1 x2).setCell (p := ⟨b, 3, none⟩) h1 x3).setCell (p := ⟨b, 4, none⟩) h1 x4).setCell (p := ⟨b, 5, none⟩) h1 x5).setCell (p := ⟨b, 6, none⟩) h1 x6).setCell (p := ⟨b, 7, none⟩) h1 x7).setCell (p := ⟨b, 8, none⟩) h1 x8).setCell (p := ⟨b, 9, none⟩) h1 x9
theorem box_zero (w : World) : Box (w.alloc (.cells #[.int .i64 0, .int .i64 0, .int .i64 0, .int .i64 0, .int .i64 0, .int .i64 0, .int .i64 0, .int .i64 0, .int .i64 0, .int .i64 0] 38)) w.heap.size (fun _ => 0) := box_new w (fun _ => 0)

theorem ret_st {s t : Nat → Int} (h : ∀ i, i < 10 → s i = t i) : Ending.returned (stV s) = .returned (stV t) := by
  unfold stV
  rw [h 0 (by omega), h 1 (by omega), h 2 (by omega), h 3 (by omega), h 4 (by omega), h 5 (by omega), h 6 (by omega), h 7 (by omega), h 8 (by omega), h 9 (by omega)]

set_option maxHeartbeats 1000000 in
theorem state_any (B : Nat) (T : Nat → List Slot4) (w : World) (h : TabAt w B T) (hk : ∀ k, k < 10 → lastF knownP (T k) ≠ none) :
    Calls Tryd.prog 37 #[.pointer (some ⟨B, 0, none⟩)] w fun e w' => e = .returned (stV (fun k => valF (T k))) ∧ Below w.heap.size w w' := by
  have HK : Hid (∀ k, k < 10 → lastF knownP (T k) ≠ none) := hk
  clear hk
  go_enter Tryd.func37, Tryd.ntmps37
  go_wp2_with fail
  obtain ⟨W0, e0⟩ : ∃ W0, W0 = ((w.alloc (.cells #[.int .i64 0, .int .i64 0, .int .i64 0, .int .i64 0, .int .i64 0, .int .i64 0, .int .i64 0, .int .i64 0, .int .i64 0, .int .i64 0] 38)).alloc (.cells #[.int .i64 0, .int .i64 0, .int .i64 0, .int .i64 0, .int .i64 0, .int .i64 0, .int .i64 0, .int .i64 0, .int .i64 0, .int .i64 0] 38)) := ⟨_, rfl⟩
  rw [← e0]
  have hB0 : Below w.heap.size w W0 := by rw [e0]; exact ((Below.refl _ _).alloc (Nat.le_refl _) _).alloc (by simp) _
  have hsz : W0.heap.size = w.heap.size + 2 := by rw [e0]; simp
  have hX0 : Box W0 w.heap.size (fun _ => 0) := by rw [e0]; exact (box_zero w).later ((Below.refl _ _).alloc (Nat.le_refl _) _)
  have hY0 : Box W0 (w.heap.size + 1) (fun _ => 0) := by rw [e0]; have := box_zero (w.alloc (.cells #[.int .i64 0, .int .i64 0, .int .i64 0, .int .i64 0, .int .i64 0, .int .i64 0, .int .i64 0, .int .i64 0, .int .i64 0, .int .i64 0] 38)); rw [World.size_alloc] at this; exact this
  have hf0 : ∀ o, W0.frozen? ⟨w.heap.size, o, none⟩ = false := fun o => by rw [e0]; go_simp
  have hf1 : ∀ o, W0.frozen? ⟨w.heap.size + 1, o, none⟩ = false := fun o => by rw [e0]; go_simp
  clear e0
  go_loopg [5] 10 (fun g i wr => ∃ j : Nat, j ≤ 10 ∧ g = 10 - j ∧ i = .int .i64 j ∧ (∃ s : Nat → Int, Box wr (w.heap.size + 1) s ∧ Hid (∀ k, k < j → s k = valF (T k))) ∧ (∀ o, wr.frozen? ⟨w.heap.size + 1, o, none⟩ = false) ∧ Below (w.heap.size + 1) W0 wr)
  case atStart => exact ⟨0, by omega, by omega, rfl, ⟨_, hY0, fun k hk => by omega⟩, hf1, Below.refl _ _⟩
  case round =>
    obtain ⟨j, hj, hg, rfl, ⟨s, hs, hF⟩, hfr, hB⟩ := hrel
    have hBw : Below w.heap.size w wr := hB0.trans (hB.mono (by omega))
    have hzw : w.heap.size + 1 < wr.heap.size := World.block_lt_of_cell? wr _ (hs 0 (by omega))
    by_cases hlt : j < 10
    · have hlast := last_any B j hlt (T j) 64 #[] knownP _ ((h.row j hlt).later hBw) (known_asks _) asks_enter57
      have p1 : (j : Int) < 10 := by omega
      cases hl : lastF knownP (T j) with
      | none => exact absurd hl (HK.out j hlt)
      | some i =>
        obtain ⟨hi, -, -⟩ := lastF_some.1 hl
        have hpt : lastPtr B j knownP (T j) = some ⟨B, j * 37 + i * 4, none⟩ := by rw [lastPtr, hl]; rfl
        rw [hpt] at hlast
        have hv : valF (T j) = (slotAt (T j) i).n := by rw [valF, hl]
        clear hpt hl
        go_wp2_with fail
        refine hlast.mono ?_
        clear hlast
        rintro e w' ⟨rfl, hb⟩
        have hB1 : Below (w.heap.size + 1) W0 w' := hB.trans (hb.mono (by omega))
        have hBw1 : Below w.heap.size w w' := hBw.trans (hb.mono hBw.size)
        obtain ⟨c0, c1, c2, c3⟩ := ((h.row j hlt).later hBw1).cell i hi
        have hs1 := hs.later hb
        have hcj := hs1 j hlt
        have hfr1 : ∀ o, w'.frozen? ⟨w.heap.size + 1, o, none⟩ = false := fun o => by rw [hb.frozen (p := ⟨w.heap.size + 1, o, none⟩) hzw]; exact hfr o
        have hF' : Hid (∀ k, k < j + 1 → putAt s j (slotAt (T j) i).n k = valF (T k)) := fun k hk => by
          unfold putAt
          split
          · rename_i e; rw [e, hv]
          · exact hF.out k (by omega)
        have hs2 := hs1.set hlt (slotAt (T j) i).n
        have HS2 : Hid (Box (w'.setCell ⟨w.heap.size + 1, j, none⟩ (.int .i64 (slotAt (T j) i).n)) (w.heap.size + 1) (putAt s j (slotAt (T j) i).n)) := hs2
        clear hB hb hfr hs hF hs1 hs2 hv
        go_wp2_with fail
        go_roundg (10 - (j + 1))
        case measure => omega
        case rel => exact ⟨j + 1, by omega, rfl, by go_num, ⟨_, HS2.out, hF'⟩, fun o => by rw [World.frozen?_setCell]; exact hfr1 o, hB1.setCell (p := ⟨w.heap.size + 1, j, none⟩) (by simp) _⟩
    · obtain rfl : j = 10 := by omega
      have hx : Box wr w.heap.size (fun _ => 0) := fun i hi => by rw [hB.cell (p := ⟨w.heap.size, i, none⟩) (by simp)]; exact hX0 i hi
      have hfx : ∀ o, wr.frozen? ⟨w.heap.size, o, none⟩ = false := fun o => by rw [hB.frozen (p := ⟨w.heap.size, o, none⟩) (by simp)]; exact hf0 o
      obtain ⟨k0, k1, k2, k3, k4, k5, k6, k7, k8, k9⟩ := hs.ten
      obtain ⟨y0, y1, y2, y3, y4, y5, y6, y7, y8, y9⟩ := hx.ten
      clear hX0 hY0 hf0 hf1 hB
      go_wp2_with fail
      exact bodyPost_ret (v := stV s) (by simp [results, Tryd.results37, go_sem, stV, y0, y1, y2, y3, y4, y5, y6, y7, y8, y9]) rfl ⟨ret_st fun i hi => hF.out i hi, below_ten hBw (Nat.le_refl _) _ _ _ _ _ _ _ _ _ _⟩
end Go.Proofs.YthlhbmldfjkagaaDoor
