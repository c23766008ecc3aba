/-
  The walks of text.find and of the function that it asks.
-/
import Derived.Test.YtdohockbmphhfacDoorTxD
import Derived.Deep.LoopGhost
namespace Go.Proofs.YtdohockbmphhfacDoor
open Go.RowKit

theorem ret_bool {a b : Bool} (h : a = b) : Ending.returned (.bool a) = .returned (.bool b) := by rw [h]

set_option maxHeartbeats 400000 in
theorem isWord_any (a wd : List UInt8) (m : Int) (b : Nat) (w : World) (hc : w.cell? ⟨b, 0, none⟩ = some (.string (strB wd))) :
    Calls Tryd.prog 105 #[.agg #[.string (strB a), .int .i64 m], .pointer (some ⟨b, 0, none⟩)] w fun e w' => e = .returned (.bool (decide (a = wd))) ∧ Below w.heap.size w w' := by
  have hb : b < w.heap.size := World.block_lt_of_cell? w _ hc
  have hq := str_beq a wd
  by_cases h : a = wd
  · rw [decide_eq_true h] at hq ⊢
    go_enter Tryd.func105, Tryd.ntmps105
    go_wp2
    go_ret
    exact ⟨rfl, (Below.refl _ _).alloc (Nat.le_refl _) _⟩
  · rw [decide_eq_false h] at hq ⊢
    go_enter Tryd.func105, Tryd.ntmps105
    go_wp2
    go_ret
    exact ⟨rfl, (Below.refl _ _).alloc (Nat.le_refl _) _⟩

set_option maxRecDepth 100000 in
set_option maxHeartbeats 400000 in
theorem findK_any (wd : List UInt8) (b : Nat) (w : World) (hE : Env w) (hc : w.cell? ⟨b, 0, none⟩ = some (.string (strB wd))) :
    Calls Tryd.prog 104 #[.func (.func 105) #[] #[.pointer (some ⟨b, 0, none⟩)]] w fun e w' => e = .returned (.int .i64 ((kindF wd : Nat) : Int)) ∧ Below w.heap.size w w' := by
  go_enter Tryd.func104, Tryd.ntmps104
  go_wp2_with fail
  go_loopg [3] 9 (fun g i wr => ∃ j : Nat, 1 ≤ j ∧ j ≤ 10 ∧ g = 10 - j ∧ i = .int .i64 j ∧ Hid (kindFrom wd (10 - j) j = kindF wd) ∧ Below w.heap.size w wr)
  case atStart => exact ⟨1, by omega, by omega, by omega, rfl, rfl, Below.refl _ _⟩
  case round =>
    obtain ⟨j, h1, hj, hg, rfl, hF, hB⟩ := hrel
    by_cases hlt : j < 10
    · obtain ⟨f0, f1⟩ := (hE.later hB).form j hlt
      have hcr := cell_later hB hc
      have hcall := isWord_any (wordK j) wd (manyK j : Nat) b wr hcr
      have hstep : Hid (kindFrom wd (10 - j) j = if wordK j = wd then j else kindFrom wd (10 - (j + 1)) (j + 1)) := by
        show _ = _
        rw [show 10 - j = (10 - (j + 1)) + 1 by omega, kindFrom]
      by_cases hw : wordK j = wd
      · have hr : Hid (kindF wd = j) := by show _ = _; rw [← hF.out, hstep.out, if_pos hw]
        rw [decide_eq_true hw] at hcall
        clear hF hstep hw
        go_wp2_with fail
        refine hcall.mono ?_
        rintro e w1 ⟨rfl, hb1⟩
        go_wp2_with fail
        go_ret
        exact ⟨ret_int (by rw [hr.out]), hB.trans (hb1.mono hB.size)⟩
      · have hF' : Hid (kindFrom wd (10 - (j + 1)) (j + 1) = kindF wd) := by show _ = _; rw [← hF.out, hstep.out, if_neg hw]
        rw [decide_eq_false hw] at hcall
        clear hF hstep hw
        go_wp2_with fail
        refine hcall.mono ?_
        rintro e w1 ⟨rfl, hb1⟩
        go_wp2_with fail
        go_roundg (10 - (j + 1))
        case measure => omega
        case rel => exact ⟨j + 1, by omega, by omega, rfl, by go_num, hF', hB.trans (hb1.mono hB.size)⟩
    · obtain rfl : j = 10 := by omega
      have hr : Hid (kindF wd = 0) := by show _ = _; rw [← hF.out]; rfl
      go_wp2_with fail
      go_ret
      exact ⟨ret_int (by rw [hr.out]; rfl), hB⟩
end Go.Proofs.YtdohockbmphhfacDoor
