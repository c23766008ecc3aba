/-
  The walk of the closure that fills the slots of a deed.
-/
import Derived.Test.YtjkffknipbddoaaDoorTabI
import Derived.Test.YtjkffknipbddoaaDoorMathF
namespace Go.Proofs.YtjkffknipbddoaaDoor
open Go.RowKit Go.Shelf

theorem settleT_fill (s : Nat → Int) (r : List (List Op5)) (F : Nat → Nat → Bool) (i j : Nat) (hj : j < 10) : settleT (fillF s r F) (j : Int) (endSlot s r i j) = fillF s r (markF F i j) := by
  unfold settleT
  rw [if_pos ⟨by omega, by omega⟩, Int.toNat_natCast, settle_fill]
  funext k
  unfold putT
  split
  · rename_i e; rw [e]
  · rename_i e; exact (fill_other s r F i j k e).symm

/-- Deed i is filled as far as key j. -/
def markTo (F : Nat → Nat → Bool) (i j : Nat) : Nat → Nat → Bool := fun a b => if a = i ∧ b < j then true else F a b
theorem markTo_zero (F : Nat → Nat → Bool) (i : Nat) : markTo F i 0 = F := by funext a b; unfold markTo; simp
theorem markTo_succ (F : Nat → Nat → Bool) (i j : Nat) : markF (markTo F i j) i j = markTo F i (j + 1) := by
  funext a b
  unfold markF markTo
  by_cases ha : a = i
  · by_cases hb : b = j
    · simp [ha, hb]
    · by_cases hlt : b < j
      · simp [ha, hb, hlt, show b < j + 1 by omega]
      · simp [ha, hb, hlt, show ¬ b < j + 1 by omega]
  · simp [ha]

theorem cell_grown' {w w' : World} {B : Nat} (hg : w.grownBy w' (some B)) {p : Addr} {v : Value} (hp : w.cell? p = some v) (hne : p.block ≠ B) : w'.cell? p = some v := by
  rw [World.cell?_of_block (w := w) (hg.block p.block (World.block_lt_of_cell? w _ hp) (fun e => hne (by cases e; rfl)))]; exact hp

set_option maxRecDepth 100000 in
set_option maxHeartbeats 1000000 in
theorem fill_void (R P S gR B i n capR : Nat) (s : Nat → Int) (r : List (List Op5)) (F : Nat → Nat → Bool) (w : World) (hi : i < n) (_hn : n ≤ 8) (hR : R ≠ B) (hP : P ≠ B) (hgR : gR ≠ B)
    (c1 : w.cell? ⟨R, 0, none⟩ = some (.slice (some ⟨gR, 0, none⟩) n capR)) (c2 : w.cell? ⟨gR, i * 5, none⟩ = some (.int .i64 (outAt s r i).code)) (c3 : w.cell? ⟨P, 0, none⟩ = some (.pointer (some ⟨B, 0, none⟩)))
    (hc : (outAt s r i).code ≠ 0) (hT : TabAt w B (fillF s r F)) :
    Calls Tryd.prog 46 #[.int .i64 (i : Int), .pointer (some ⟨R, 0, none⟩), .pointer (some ⟨P, 0, none⟩), .pointer (some ⟨S, 0, none⟩)] w fun e w' => (∃ v, e = .returned v) ∧ TabAt w' B (fillF s r (markTo F i 10)) ∧ w.grownBy w' (some B) := by
  obtain ⟨c, ec⟩ : ∃ c, c = (outAt s r i).code := ⟨_, rfl⟩
  have hend : Hid (∀ j, endSlot s r i j = ⟨(i : Int), false, true, 0⟩) := fun j => by unfold endSlot; rw [if_neg hc]
  rw [← ec] at c2 hc
  have t0 : (c != 0) = true := by simp [hc]
  clear ec hc
  have hin : (i : Int) < n := by omega
  go_enter Tryd.func46, Tryd.ntmps46
  go_wp2_with fail
  go_loopg [5] 10 (fun g x wr => ∃ j : Nat, j ≤ 10 ∧ g = 10 - j ∧ x = .int .i64 j ∧ TabAt wr B (fillF s r (markTo F i j)) ∧ w.grownBy wr (some B))
  case atStart => exact ⟨0, by omega, by omega, rfl, by rw [markTo_zero]; exact hT, ⟨rfl, rfl, rfl, Nat.le_refl _, fun _ _ _ => rfl⟩⟩
  case round =>
    obtain ⟨j, hj, hg, rfl, hTj, hgj⟩ := hrel
    by_cases hlt : j < 10
    · have d1 := cell_grown' hgj c1 hR
      have d2 := cell_grown' hgj c2 hgR
      have d3 := cell_grown' hgj c3 hP
      have hv := void_any B (j : Int) (i : Int) _ wr hTj
      rw [← hend.out j, settleT_fill s r (markTo F i j) i j hlt, markTo_succ] at hv
      have hji : (j : Int) < 10 := by omega
      clear hTj
      go_wp2_with fail
      refine hv.mono ?_
      clear hv
      rintro e w1 ⟨rfl, hT1, hg1⟩
      clear d1 d2 d3
      go_wp2_with fail
      go_roundg (10 - (j + 1))
      case measure => omega
      case rel => exact ⟨j + 1, by omega, rfl, by go_num, hT1, grown_trans hgj hg1⟩
    · obtain rfl : j = 10 := by omega
      go_wp2_with fail
      go_end0
      exact ⟨⟨_, rfl⟩, hTj, hgj⟩

set_option maxRecDepth 100000 in
set_option maxHeartbeats 1000000 in
theorem fill_set (R P S gR gS B i n capR capS : Nat) (s : Nat → Int) (r : List (List Op5)) (F : Nat → Nat → Bool) (w : World) (hi : i < n) (_hn : n ≤ 8) (hR : R ≠ B) (hP : P ≠ B) (hS : S ≠ B) (hgR : gR ≠ B) (hgS : gS ≠ B)
    (c1 : w.cell? ⟨R, 0, none⟩ = some (.slice (some ⟨gR, 0, none⟩) n capR)) (c2 : w.cell? ⟨gR, i * 5, none⟩ = some (.int .i64 (outAt s r i).code)) (c3 : w.cell? ⟨P, 0, none⟩ = some (.pointer (some ⟨B, 0, none⟩)))
    (c4 : w.cell? ⟨S, 0, none⟩ = some (.slice (some ⟨gS, 0, none⟩) n capS)) (c5 : ∀ j, j < 10 → w.cell? ⟨gS, i * 10 + j, none⟩ = some (.int .i64 ((outAt s r i).st j)))
    (hc : (outAt s r i).code = 0) (hT : TabAt w B (fillF s r F)) :
    Calls Tryd.prog 46 #[.int .i64 (i : Int), .pointer (some ⟨R, 0, none⟩), .pointer (some ⟨P, 0, none⟩), .pointer (some ⟨S, 0, none⟩)] w fun e w' => (∃ v, e = .returned v) ∧ TabAt w' B (fillF s r (markTo F i 10)) ∧ w.grownBy w' (some B) := by
  have hend : Hid (∀ j, endSlot s r i j = ⟨(i : Int), false, false, (outAt s r i).st j⟩) := fun j => by unfold endSlot; rw [if_pos hc]
  rw [hc] at c2
  obtain ⟨st, est⟩ : ∃ st, st = (outAt s r i).st := ⟨_, rfl⟩
  rw [← est] at c5 hend
  clear hc est
  have hin : (i : Int) < n := by omega
  go_enter Tryd.func46, Tryd.ntmps46
  go_wp2_with fail
  go_loopg [5] 10 (fun g x wr => ∃ j : Nat, j ≤ 10 ∧ g = 10 - j ∧ x = .int .i64 j ∧ TabAt wr B (fillF s r (markTo F i j)) ∧ w.grownBy wr (some B))
  case atStart => exact ⟨0, by omega, by omega, rfl, by rw [markTo_zero]; exact hT, ⟨rfl, rfl, rfl, Nat.le_refl _, fun _ _ _ => rfl⟩⟩
  case round =>
    obtain ⟨j, hj, hg, rfl, hTj, hgj⟩ := hrel
    by_cases hlt : j < 10
    · have d1 := cell_grown' hgj c1 hR
      have d2 := cell_grown' hgj c2 hgR
      have d3 := cell_grown' hgj c3 hP
      have d4 := cell_grown' hgj c4 hS
      have d5 := cell_grown' hgj (c5 j hlt) hgS
      have hv := fun w' (hw : TabAt w' B (fillF s r (markTo F i j))) => set_any B (j : Int) (i : Int) (st j) _ w' hw
      rw [← hend.out j, settleT_fill s r (markTo F i j) i j hlt, markTo_succ] at hv
      have hji : (j : Int) < 10 := by omega
      have HV : Hid _ := hv
      clear hv
      go_wp2_with fail
      go_region_with (go_at_call 40; refine (HV.out _ (by first | exact hTj | exact hTj.drew)).mono ?_; rintro e w1 ⟨rfl, hT1, hg1⟩)
      all_goals go_wp2_with fail
      all_goals go_roundg (10 - (j + 1))
      all_goals first | omega | exact ⟨j + 1, by omega, rfl, by go_num, hT1, grown_trans hgj hg1⟩ | exact ⟨j + 1, by omega, rfl, by go_num, hT1, grown_trans (grown_trans hgj (grown_drew _ _)) hg1⟩
    · obtain rfl : j = 10 := by omega
      go_wp2_with fail
      go_end0
      exact ⟨⟨_, rfl⟩, hTj, hgj⟩
end Go.Proofs.YtjkffknipbddoaaDoor
