/-
  The walk of the reference's NewBoard.
-/
import Derived.Test.YthlhbmldfjkagaaDoorBoardA
import Derived.Test.YthlhbmldfjkagaaDoorTabH
namespace Go.Proofs.YthlhbmldfjkagaaDoor
open Go.RowKit Go.Shelf

theorem info83 : (Tryd.prog.info? 103).map (fun i => (i.zero, i.size, i.bytes)) = some (some (.agg #[.int .i64 0, .bool false, .bool false, .int .i64 0]), 4, 24) := by kernel_rfl

/-- The board while the slots of key k are laid: of the deeds ahead of i. -/
def bordF (s : Nat → Int) (r : List (List Op5)) (k i : Nat) : Nat → List Slot4 := fun q => if q < k then newF s r q else if q = k then newF s (r.take i) q else []
def bor0F (s : Nat → Int) (r : List (List Op5)) (k : Nat) : Nat → List Slot4 := fun q => if q < k then newF s r q else []
theorem bord_first (s : Nat → Int) (r : List (List Op5)) (k : Nat) : putT (bor0F s r k) k (bor0F s r k k ++ [⟨-1, false, false, s k⟩]) = bordF s r k 0 := by
  funext q
  unfold putT bor0F bordF
  by_cases e : q = k
  · subst e; simp [newF, slotsF]
  · by_cases h : q < k
    · simp [e, h]
    · simp [e, h]
theorem bord_more {s : Nat → Int} {r : List (List Op5)} {k i : Nat} (hi : i < r.length) (hs : storesF r[i] k = true) : putT (bordF s r k i) k (bordF s r k i k ++ [⟨(i : Int), true, false, 0⟩]) = bordF s r k (i + 1) := by
  funext q
  unfold putT bordF
  by_cases e : q = k
  · subst e; simp [newF_take s r hi, hs]
  · simp [e]
theorem bord_none {s : Nat → Int} {r : List (List Op5)} {k i : Nat} (hi : i < r.length) (hs : storesF r[i] k = false) : bordF s r k i = bordF s r k (i + 1) := by
  funext q
  unfold bordF
  by_cases e : q = k
  · subst e; simp [newF_take s r hi, hs]
  · simp [e]
theorem bord_last (s : Nat → Int) (r : List (List Op5)) (k : Nat) : bordF s r k r.length = bor0F s r (k + 1) := by
  funext q
  unfold bordF bor0F
  rw [List.take_length]
  by_cases h : q < k
  · simp [h, show q < k + 1 by omega]
  · by_cases e : q = k
    · simp [e]
    · simp [h, e, show ¬ q < k + 1 by omega]
theorem BoardAt.congr {w : World} {N D : Nat} {T U : Nat → List Slot4} {V : Nat → Value} (h : BoardAt w N D T V) (e : ∀ k, k < 10 → T k = U k) : BoardAt w N D U V := ⟨h.cell, fun k hk => by rw [← e k hk]; exact h.own k hk, h.apart, h.free⟩

set_option maxRecDepth 100000 in
set_option maxHeartbeats 2000000 in
theorem board_new (v : Value) (r : List (List Op5)) (s : Nat → Int) (w : World) (hr : RoundAt w v r) (h8 : r.length ≤ 8) (h14 : ∀ i (h : i < r.length), r[i].length ≤ 14) :
    Calls Tryd.prog 32 #[stV s, v] w fun e w' => ∃ N D V, e = .returned (.pointer (some ⟨D, 0, none⟩)) ∧ w.heap.size ≤ D ∧ w.heap.size ≤ N ∧ BoardAt w' N D (newF s r) V ∧ Below w.heap.size w w' := by
  obtain ⟨i0, hi, hz0, hz1, hz2⟩ := info_parts info83
  obtain ⟨a, cap, rfl, hr⟩ := hr
  show Calls Tryd.prog 32 #[.agg #[.int .i64 (s 0), .int .i64 (s 1), .int .i64 (s 2), .int .i64 (s 3), .int .i64 (s 4), .int .i64 (s 5), .int .i64 (s 6), .int .i64 (s 7), .int .i64 (s 8), .int .i64 (s 9)], _] w _
  go_enter Tryd.func32, Tryd.ntmps32
  go_wp2_with fail
  obtain ⟨W0, e0⟩ : ∃ W0, W0 = (w.alloc (.cells #[.int .i64 (s 0), .int .i64 (s 1), .int .i64 (s 2), .int .i64 (s 3), .int .i64 (s 4), .int .i64 (s 5), .int .i64 (s 6), .int .i64 (s 7), .int .i64 (s 8), .int .i64 (s 9)] 38)).alloc (.cells #[.slice none 0 0, .slice none 0 0, .slice none 0 0, .slice none 0 0, .slice none 0 0, .slice none 0 0, .slice none 0 0, .slice none 0 0, .slice none 0 0, .slice none 0 0] 112) := ⟨_, rfl⟩
  rw [← e0]
  have hB0 : Below w.heap.size w W0 := by rw [e0]; exact ((Below.refl _ _).alloc (Nat.le_refl _) _).alloc (by simp) _
  have hsz : W0.heap.size = w.heap.size + 2 := by rw [e0]; simp
  have hX0 : Box W0 w.heap.size s := by rw [e0]; exact (box_new w s).later ((Below.refl _ _).alloc (Nat.le_refl _) _)
  have hBd : BoardAt W0 (w.heap.size + 1) (w.heap.size + 1) (bor0F s r 0) (fun _ => .slice none 0 0) := by
    rw [e0]
    exact ⟨lt10 (by go_simp) (by go_simp) (by go_simp) (by go_simp) (by go_simp) (by go_simp) (by go_simp) (by go_simp) (by go_simp) (by go_simp), fun k _ => World.ownsRow_nil _ _ _ _, fun k _ g hg => (by cases hg), fun o => by go_simp⟩
  clear e0
  go_loopg [6] 10 (fun g i wr => ∃ (k : Nat) (V : Nat → Value), k ≤ 10 ∧ g = 10 - k ∧ i = .int .i64 k ∧ BoardAt wr (w.heap.size + 1) (w.heap.size + 1) (bor0F s r k) V ∧ Hid (∀ q, k ≤ q → V q = .slice none 0 0) ∧ Below (w.heap.size + 1) W0 wr)
  case atStart => exact ⟨0, _, by omega, by omega, rfl, hBd, (fun q _ => rfl), Below.refl _ _⟩
  case round =>
    clear hBd
    obtain ⟨k, V, hk, hg, rfl, hBd, hnil, hB⟩ := hrel
    by_cases hlt : k < 10
    · have hki : (k : Int) < 10 := by omega
      have hVk := hnil.out k (Nat.le_refl _)
      have d1 := hBd.cell k hlt
      rw [hVk] at d1
      have d2 : wr.cell? ⟨w.heap.size, k, none⟩ = some (.int .i64 (s k)) := by rw [hB.cell (p := ⟨w.heap.size, k, none⟩) (by simp)]; exact hX0 k hlt
      have d3 := hBd.free
      have hDz : w.heap.size + 1 < wr.heap.size := hBd.lt
      have hz1' : w.heap.size < wr.heap.size := by omega
      have hBA : Below wr.heap.size wr (wr.alloc (.cells #[.int .i64 (-1), .bool false, .bool false, .int .i64 (s k)] 103)).drew := ((Below.refl _ wr).alloc (Nat.le_refl _) _).drew
      have HO : Hid ((wr.alloc (.cells #[.int .i64 (-1), .bool false, .bool false, .int .i64 (s k)] 103)).drew.ownsRow (w.heap.size + 1) 103 4 (.slice none 0 0) 0 []) := World.ownsRow_nil _ _ _ _
      have HN : Hid (∀ j u, [Value.int .i64 (-1), .bool false, .bool false, .int .i64 (s k)][j]? = some u → (wr.alloc (.cells #[.int .i64 (-1), .bool false, .bool false, .int .i64 (s k)] 103)).drew.cell? ((⟨wr.heap.size, 0, none⟩ : Addr).add j) = some u) := fun j u hj => by
        rw [show (⟨wr.heap.size, 0, none⟩ : Addr).add j = ⟨wr.heap.size, j, none⟩ by unfold Addr.add; split <;> simp_all]
        show (wr.alloc _).cell? _ = _
        rw [cell_new]; simpa using hj
      have HC : Hid (∀ w1, (wr.alloc (.cells #[.int .i64 (-1), .bool false, .bool false, .int .i64 (s k)] 103)).drew.grownBy w1 (Value.ownBlock (.slice none 0 0)) → w1.cell? ⟨w.heap.size + 1, k, none⟩ = some (.slice none 0 0) ∧ w1.frozen? ⟨w.heap.size + 1, k, none⟩ = false) := fun w1 hg1 => by
        have hblk : w1.heap[w.heap.size + 1]? = wr.heap[w.heap.size + 1]? := (hg1.block _ (by have := hBA.size; omega) (by simp [Value.ownBlock])).trans (hBA.block _ hDz)
        exact ⟨by rw [World.cell?_of_block (w := wr) hblk]; exact d1, by rw [World.frozen?_of_block (w := wr) hblk]; exact d3 k⟩
      have HB : Hid (∀ w1 v1, w1.ownsRow (w.heap.size + 1) 103 4 v1 (0 + 1) ([] ++ [.int .i64 (-1), .bool false, .bool false, .int .i64 (s k)]) → (wr.alloc (.cells #[.int .i64 (-1), .bool false, .bool false, .int .i64 (s k)] 103)).drew.grownBy w1 (Value.ownBlock (.slice none 0 0)) → (v1.ownBlock = Value.ownBlock (.slice none 0 0) ∨ v1.ownBlock = some (wr.alloc (.cells #[.int .i64 (-1), .bool false, .bool false, .int .i64 (s k)] 103)).drew.heap.size) → (∃ V, BoardAt (w1.setCell ⟨w.heap.size + 1, k, none⟩ v1) (w.heap.size + 1) (w.heap.size + 1) (bordF s r k 0) V ∧ Hid (∀ q, k + 1 ≤ q → V q = .slice none 0 0)) ∧ Below (w.heap.size + 1) W0 (w1.setCell ⟨w.heap.size + 1, k, none⟩ v1)) := fun w1 v1 ho hg hat => by
        have hBx := hBd.later hBA
        have hT0 : bor0F s r k k = [] := by simp [bor0F]
        rw [← hVk] at hg hat
        have hap := hBx.append (v' := v1) (s := ⟨-1, false, false, s k⟩) hlt (by rw [hT0]; exact ho) hg hat
        rw [bord_first] at hap
        refine ⟨⟨_, hap, fun q hq => ?_⟩, board_below hBx hlt hg (hB.trans (hBA.mono (by omega))) (by have := hBA.size; omega) (Nat.le_refl _) (Nat.le_refl _) v1⟩
        unfold putV
        rw [if_neg (by omega)]; exact hnil.out q (by omega)
      clear hBd hnil hVk hB
      go_wp2_with fail
      go_cut [5] from 10 to 53 (fun c wc => c = .pointer (some ⟨w.heap.size + 1, 0, none⟩) ∧ (∃ V, BoardAt wc (w.heap.size + 1) (w.heap.size + 1) (bordF s r k 0) V ∧ Hid (∀ q, k + 1 ≤ q → V q = .slice none 0 0)) ∧ Below (w.heap.size + 1) W0 wc)
      case first =>
        go_region_law (refine step_append_at rfl (.tmp 20) (.tmp 25) 73 rfl (w.heap.size + 1) 103 i0 (.agg #[.int .i64 0, .bool false, .bool false, .int .i64 0]) 4 24 Tryd.underlying73 hi hz0 hz1 hz2 rfl (by decide) (.slice none 0 0) 0 [] (by simp [Act.eval]) HO.out ⟨wr.heap.size, 0, none⟩ 1 1 [.int .i64 (-1), .bool false, .bool false, .int .i64 (s k)] (by simp [Act.eval]) rfl HN.out (by simp [Value.oneCell']) (by unfold maxLen; omega) (by omega) (by have := hBA.size; omega) ?_; intro v1 w1 ho1 hg1 hat1; have HBX := HB.out w1 v1 ho1 hg1 hat1; obtain ⟨g1, cap1, rfl, -⟩ := owns_cells ho1 (by omega); obtain ⟨qc, qf⟩ := HC.out w1 hg1)
        all_goals go_wp2_with fail
        all_goals go_meet
        all_goals exact ⟨rfl, HBX⟩
      case rest =>
        obtain ⟨rfl, ⟨V, hBd, hnil⟩, hB⟩ := hcut
        clear HO HN HC HB hBA d1 d2 d3 hDz hz1'
        go_wp2_with fail
        go_loopg [7] r.length (fun g i wr => ∃ (i' : Nat) (V : Nat → Value), i' ≤ r.length ∧ g = r.length - i' ∧ i = .int .i64 i' ∧ BoardAt wr (w.heap.size + 1) (w.heap.size + 1) (bordF s r k i') V ∧ Hid (∀ q, k + 1 ≤ q → V q = .slice none 0 0) ∧ Below (w.heap.size + 1) W0 wr)
        case atStart => exact ⟨0, V, by omega, by omega, rfl, hBd, hnil, hB⟩
        case round =>
          clear hBd hnil hB
          obtain ⟨i, V, hi', hg', rfl, hBd, hnil, hB⟩ := hrel
          have hBw : Below w.heap.size w wr := hB0.trans (hB.mono (by omega))
          by_cases hil : i < r.length
          · obtain ⟨b, off, rfl, dv, c0, hD⟩ := hr i hil
            replace c0 := cell_later hBw c0
            replace hD := hD.later hBw
            have hst := stores_any dv r[i] (k : Int) wr hD (by have := h14 i hil; omega)
            rw [storesI_key] at hst
            cases hs : storesF r[i] k with
            | false =>
              rw [hs] at hst
              have hbn := bord_none (s := s) hil hs
              rw [hbn] at hBd
              clear hr hbn hs
              go_wp2_with fail
              refine hst.mono ?_
              rintro e w1 ⟨rfl, rfl⟩
              go_wp2_with fail
              go_roundg (r.length - (i + 1))
              case measure => omega
              case rel => exact ⟨i + 1, V, by omega, rfl, by go_num, hBd, hnil, hB⟩
            | true =>
              rw [hs] at hst
              have hbm := bord_more (s := s) hil hs
              have hTl : 0 < (bordF s r k i k).length := by simp [bordF, newF]
              have hTl9 : (bordF s r k i k).length ≤ i + 1 := by
                have := newF_length s r i k
                simp only [bordF, Nat.lt_irrefl, if_false, if_true]; exact this
              have hown := hBd.own k hlt
              obtain ⟨gv, gcap, hgv, -⟩ := owns_cells hown hTl
              have d1 := hBd.cell k hlt
              have d3 := hBd.free
              have hDz : w.heap.size + 1 < wr.heap.size := hBd.lt
              have hgz : gv < wr.heap.size := (owns_lt hown (by rw [hgv]; rfl)).2
              have hgD : gv ≠ w.heap.size + 1 := (hBd.apart k hlt gv (by rw [hgv]; rfl)).1
              have hBA : Below wr.heap.size wr (wr.alloc (.cells #[.int .i64 (i : Int), .bool true, .bool false, .int .i64 0] 103)).drew := ((Below.refl _ wr).alloc (Nat.le_refl _) _).drew
              have HO : Hid ((wr.alloc (.cells #[.int .i64 (i : Int), .bool true, .bool false, .int .i64 0] 103)).drew.ownsRow (w.heap.size + 1) 103 4 (V k) (bordF s r k i k).length (slotCells (bordF s r k i k))) := owns_below hown hBA
              have HN : Hid (∀ j u, [Value.int .i64 (i : Int), .bool true, .bool false, .int .i64 0][j]? = some u → (wr.alloc (.cells #[.int .i64 (i : Int), .bool true, .bool false, .int .i64 0] 103)).drew.cell? ((⟨wr.heap.size, 0, none⟩ : Addr).add j) = some u) := fun j u hj => by
                rw [show (⟨wr.heap.size, 0, none⟩ : Addr).add j = ⟨wr.heap.size, j, none⟩ by unfold Addr.add; split <;> simp_all]
                show (wr.alloc _).cell? _ = _
                rw [cell_new]; simpa using hj
              have HC : Hid (∀ w1, (wr.alloc (.cells #[.int .i64 (i : Int), .bool true, .bool false, .int .i64 0] 103)).drew.grownBy w1 (V k).ownBlock → w1.cell? ⟨w.heap.size + 1, k, none⟩ = some (V k) ∧ w1.frozen? ⟨w.heap.size + 1, k, none⟩ = false) := fun w1 hg1 => by
                have hblk : w1.heap[w.heap.size + 1]? = wr.heap[w.heap.size + 1]? := (hg1.block _ (by have := hBA.size; omega) (by rw [hgv]; simp [Value.ownBlock]; omega)).trans (hBA.block _ hDz)
                exact ⟨by rw [World.cell?_of_block (w := wr) hblk]; exact d1, by rw [World.frozen?_of_block (w := wr) hblk]; exact d3 k⟩
              have HB : Hid (∀ w1 v1, w1.ownsRow (w.heap.size + 1) 103 4 v1 ((bordF s r k i k).length + 1) (slotCells (bordF s r k i k) ++ [.int .i64 (i : Int), .bool true, .bool false, .int .i64 0]) → (wr.alloc (.cells #[.int .i64 (i : Int), .bool true, .bool false, .int .i64 0] 103)).drew.grownBy w1 (V k).ownBlock → (v1.ownBlock = (V k).ownBlock ∨ v1.ownBlock = some (wr.alloc (.cells #[.int .i64 (i : Int), .bool true, .bool false, .int .i64 0] 103)).drew.heap.size) → (∃ V, BoardAt (w1.setCell ⟨w.heap.size + 1, k, none⟩ v1) (w.heap.size + 1) (w.heap.size + 1) (bordF s r k (i + 1)) V ∧ Hid (∀ q, k + 1 ≤ q → V q = .slice none 0 0)) ∧ Below (w.heap.size + 1) W0 (w1.setCell ⟨w.heap.size + 1, k, none⟩ v1)) := fun w1 v1 ho hg hat => by
                have hBx := hBd.later hBA
                have hap := hBx.append (v' := v1) (s := ⟨(i : Int), true, false, 0⟩) hlt ho hg hat
                rw [hbm] at hap
                refine ⟨⟨_, hap, fun q hq => ?_⟩, board_below hBx hlt hg (hB.trans (hBA.mono (by omega))) (by have := hBA.size; omega) (Nat.le_refl _) (Nat.le_refl _) v1⟩
                unfold putV
                rw [if_neg (by omega)]; exact hnil.out q (by omega)
              generalize hL : (bordF s r k i k).length = L at *
              generalize slotCells (bordF s r k i k) = LC at *
              rw [hgv] at d1 HO HC HB
              clear hBd hnil hB hbm hown hs hr hL
              go_wp2_with fail
              refine hst.mono ?_
              rintro e w1 ⟨rfl, rfl⟩
              go_wp2_with fail
              go_region_law (refine step_append_at rfl (.tmp 47) (.tmp 50) 73 rfl (w.heap.size + 1) 103 i0 (.agg #[.int .i64 0, .bool false, .bool false, .int .i64 0]) 4 24 Tryd.underlying73 hi hz0 hz1 hz2 rfl (by decide) (.slice (some ⟨gv, 0, none⟩) L gcap) L LC (by simp [Act.eval]) HO.out ⟨w1.heap.size, 0, none⟩ 1 1 [.int .i64 (i : Int), .bool true, .bool false, .int .i64 0] (by simp [Act.eval]) rfl HN.out (by simp [Value.oneCell']) (by unfold maxLen; omega) (by omega) (by have := hBA.size; omega) ?_; intro v1 w2 ho1 hg1 hat1; have HBX := HB.out w2 v1 ho1 hg1 hat1; obtain ⟨g1, cap1, rfl, -⟩ := owns_cells ho1 (by omega); obtain ⟨qc, qf⟩ := HC.out w2 hg1)
              all_goals go_wp2_with fail
              all_goals go_roundg (r.length - (i + 1))
              all_goals first | omega | (obtain ⟨⟨V', hBd', hnil'⟩, hB'⟩ := HBX; exact ⟨i + 1, V', by omega, rfl, by go_num, hBd', hnil', hB'⟩)
          · obtain rfl : i = r.length := by omega
            rw [bord_last] at hBd
            clear hr
            go_wp2_with fail
            go_roundg (10 - (k + 1))
            case measure => omega
            case rel => exact ⟨k + 1, V, by omega, rfl, by go_num, hBd, hnil, hB⟩
    · obtain rfl : k = 10 := by omega
      clear hr
      go_wp2_with fail
      go_ret
      exact ⟨_, _, V, rfl, by omega, by omega, hBd.congr (fun q hq => by simp [bor0F, hq]), hB0.trans (hB.mono (by omega))⟩
end Go.Proofs.YthlhbmldfjkagaaDoor
