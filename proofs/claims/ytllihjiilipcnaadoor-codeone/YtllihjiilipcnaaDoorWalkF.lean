/-
  The walk of codeBegun: it tells true.
-/
import Derived.Test.YtllihjiilipcnaaDoorWalkE
namespace Go.Proofs.YtllihjiilipcnaaDoor
open Go.RowKit

def D3 : List Op5 := [⟨1, 0, 0, 0, 5⟩, ⟨7, 3, 0, 0, 0⟩, ⟨7, 1, 0, 0, 0⟩]
def D4 : List Op5 := [⟨1, 0, 0, 0, 5⟩, ⟨7, 3, 0, 0, 0⟩, ⟨7, 1, 0, 0, 0⟩, ⟨8, 0, 0, 0, 0⟩]
theorem keysD3 : keysTo D3 10 = [1, 3] := by decide
theorem checkD3 : checkF D3 = (0, 0) := by decide
theorem checkD4 : checkF D4 = (5, 3) := by decide
theorem roundD4 : roundF [D4] = 5 := by decide

/-- The deed as the law lays it. -/
def cells3 : Array Value := #[.int .i64 1, .int .i64 0, .int .i64 0, .int .i64 0, .int .i64 5, .int .i64 7, .int .i64 3, .int .i64 0, .int .i64 0, .int .i64 0, .int .i64 7, .int .i64 1, .int .i64 0, .int .i64 0, .int .i64 0]
theorem deed3 (w : World) : DeedAt (w.alloc (.cells #[.int .i64 1, .int .i64 0, .int .i64 0, .int .i64 0, .int .i64 5, .int .i64 7, .int .i64 3, .int .i64 0, .int .i64 0, .int .i64 0, .int .i64 7, .int .i64 1, .int .i64 0, .int .i64 0, .int .i64 0] 34)) (.slice (some ⟨w.heap.size, 0, none⟩) 3 3) D3 := by
  refine ⟨_, 3, rfl, fun i hi => ⟨w.heap.size, 0, rfl, ?_⟩⟩
  have h : i = 0 ∨ i = 1 ∨ i = 2 := by simp [D3] at hi; omega
  rcases h with rfl | rfl | rfl <;> refine ⟨?_, ?_, ?_, ?_, ?_⟩ <;> simp [D3]

/-- A round of one deed in a new block. -/
theorem round1 (w : World) (v : Value) (d : List Op5) (hd : DeedAt w v d) (c : Nat) : RoundAt (w.alloc (.cells #[v] 32)) (.slice (some ⟨w.heap.size, 0, none⟩) 1 c) [d] := by
  refine ⟨_, c, rfl, fun i hi => ⟨w.heap.size, 0, rfl, v, ?_, ?_⟩⟩
  · obtain rfl : i = 0 := by simpa using hi
    simp
  · obtain rfl : i = 0 := by simpa using hi
    exact hd.later ((Below.refl _ _).alloc (Nat.le_refl _) _)

theorem cells_new (w : World) (xs : List Value) (t : TypeId) : ∀ j u, xs[j]? = some u → (w.alloc (.cells xs.toArray t)).cell? ((⟨w.heap.size, 0, none⟩ : Addr).add j) = some u := by
  intro j u h
  rw [add_off, Nat.zero_add, cell_of_row _ _ _ _ _ _ (heap_alloc_new w _)]
  simpa using h

theorem check3 (v : Value) (w : World) (hd : DeedAt w v D3) (hL : Lim w) : Calls Tryd.prog 7 #[v] w fun e w' => e = .returned (.agg #[.int .i64 0, .int .i64 0]) ∧ Below w.heap.size w w' := by
  have h := check_any v D3 w hd (by decide) hL
  rw [checkD3] at h
  exact h
theorem check4 (v : Value) (w : World) (hd : DeedAt w v D4) (hL : Lim w) : Calls Tryd.prog 7 #[v] w fun e w' => e = .returned (.agg #[.int .i64 5, .int .i64 3]) ∧ Below w.heap.size w w' := by
  have h := check_any v D4 w hd (by decide) hL
  rw [checkD4] at h
  exact h
theorem fits4 : Fits [D4] := ⟨by decide, fun i hi => by
  obtain rfl : i = 0 := by simpa using hi
  exact (show D4.length ≤ 9223372036854775807 by decide)⟩
theorem round4 (v : Value) (w : World) (hd : RoundAt w v [D4]) (hL : Lim w) : Calls Tryd.prog 6 #[v] w fun e w' => e = .returned (.int .i64 5) ∧ Below w.heap.size w w' := by
  have h := round_any v [D4] w hd fits4 hL
  rw [roundD4] at h
  exact h

set_option maxHeartbeats 1000000 in
theorem begun_any (w : World) (hL : Lim w) :
    Calls Tryd.prog 4 #[] w fun e w' => e = .returned (.bool true) ∧ Below w.heap.size w w' := by
  obtain ⟨i0, hi, hz0, hz1, hz2⟩ := info_parts info34
  go_enter Tryd.func4, Tryd.ntmps4
  go_wp2_with fail
  have hd1 := deed3 w
  refine (keys_any _ D3 _ hd1 (by decide)).mono ?_
  rintro e w1 ⟨kv, rfl, hk, hb1⟩
  rw [keysD3] at hk
  obtain ⟨gk, qk, rfl⟩ := owns_shape hk (by decide)
  have hk0 : w1.cell? ⟨gk, 0, none⟩ = some (.int .i64 1) := hk.cells (g := gk) rfl 0 _ rfl
  have hd1' := hd1.later hb1
  have hB1 : Below w.heap.size w w1 := ((Below.refl _ _).alloc (Nat.le_refl _) _).trans (hb1.mono (by simp))
  clear hd1 hb1 hk
  go_wp2_with fail
  refine (own_one _ D3 _ (round1 _ _ _ hd1' _) (by decide) (by decide)).mono ?_
  rintro e w2 ⟨v1, v2, rfl, ho2, ho1, hb2⟩
  obtain ⟨g2, q2, rfl⟩ := owns_shape ho2 (by decide)
  obtain ⟨g1, q1, rfl⟩ := owns_shape ho1 (by decide)
  have hc2 : w2.cell? ⟨g2, 0, none⟩ = some (.slice (some ⟨g1, 0, none⟩) 3 q1) := ho2.cells (g := g2) rfl 0 _ rfl
  have hB2 : Below w1.heap.size w1 w2 := ((Below.refl _ _).alloc (Nat.le_refl _) _).trans (hb2.mono (by simp))
  have hg1 : w1.heap.size ≤ g1 := by have := (ho1.lt g1 rfl).1; simp at this; omega
  have ho1' : w2.ownsRow w1.heap.size 34 5 (.slice (some ⟨g1, 0, none⟩) 3 q1) 3 (cellsF D3) := owns_base ho1 (by simp)
  clear hb2 ho2 ho1
  go_wp2_with (at_builtin; refine wpList_append_own _ rfl (.tmp 14) (.tmp 16) 32 rfl w1.heap.size 34 i0 (.agg #[.int .i64 0, .int .i64 0, .int .i64 0, .int .i64 0, .int .i64 0]) 5 40 Tryd.underlying32 hi hz0 hz1 hz2 rfl (by decide) _ _ _ rfl (ho1'.alloc _) ⟨w2.heap.size, 0, none⟩ 1 1 [.int .i64 8, .int .i64 0, .int .i64 0, .int .i64 0, .int .i64 0] rfl rfl (cells_new _ _ _) (cellsF_one [⟨8, 0, 0, 0, 0⟩]) (by unfold maxLen; omega) (by omega) (by have := hB2.size; simp; omega) ?_; intro v3 w3 ho3 hg3 hn3)
  have ho3' : w3.ownsRow w1.heap.size 34 5 v3 D4.length (cellsF D4) := ho3
  have hg3' : (w2.alloc (.cells #[.int .i64 8, .int .i64 0, .int .i64 0, .int .i64 0, .int .i64 0] 34)).grownBy w3 (some g1) := hg3
  have hB3 : Below w1.heap.size w1 w3 := (hB2.alloc hB2.size _).grown hg3' (by have := hB2.size; simp; omega) (fun k hk => by cases hk; exact hg1)
  obtain ⟨g3, q3, rfl⟩ := owns_shape ho3' (by decide)
  have hdA : DeedAt w3 (.slice (some ⟨w.heap.size, 0, none⟩) 3 3) D3 := hd1'.later hB3
  have hdB : DeedAt w3 (.slice (some ⟨g3, 0, none⟩) 4 q3) D4 := deed_of_owns ho3'
  have hk3 := cell_later hB3 hk0
  have hBw : Below w.heap.size w w3 := hB1.trans (hB3.mono hB1.size)
  have hL3 := hL.later hBw
  clear ho3 hg3 hn3 ho3' hg3' hB3 hB2 hd1' hk0 hc2 ho1' hB1 hL hg1 hi hz0 hz1 hz2 i0
  refine (check3 _ _ hdA hL3).mono ?_
  rintro e w4 ⟨rfl, hb4⟩
  go_wp2_with fail
  refine (check4 _ _ (hdB.later hb4) (hL3.later hb4)).mono ?_
  rintro e w5 ⟨rfl, hb5⟩
  have hB5 : Below w3.heap.size w3 w5 := hb4.trans (hb5.mono hb4.size)
  clear hb4 hb5
  go_wp2_with fail
  refine (F_any _ _ _).mono ?_
  rintro e w6 ⟨rfl, hb6⟩
  have hB6 : Below w3.heap.size w3 w6 := hB5.trans (hb6.mono hB5.size)
  clear hB5 hb6
  have hk6 := cell_later hB6 hk3
  clear hk3
  go_wp2_with fail
  refine (same_refl _ D3 _ (hdA.later hB6) (by decide)).mono ?_
  rintro e w7 ⟨rfl, hb7⟩
  have hB7 : Below w3.heap.size w3 w7 := hB6.trans (hb7.mono hB6.size)
  clear hB6 hb7 hk6
  go_wp2_with fail
  refine (same_len _ _ D3 D4 _ (hdA.later hB7) (hdB.later hB7) (by decide)).mono ?_
  rintro e w8 ⟨rfl, rfl⟩
  go_wp2_with fail
  refine (round4 _ _ (round1 _ _ _ (hdB.later hB7) _) (hL3.later (hB7.alloc hB7.size _))).mono ?_
  rintro e w9 ⟨rfl, hb9⟩
  have hB9 : Below w.heap.size w w9 := hBw.trans ((hB7.mono hBw.size).trans (((Below.refl _ _).alloc (Nat.le_refl _) _).trans (hb9.mono (by simp)) |>.mono (Nat.le_trans hBw.size hB7.size)))
  clear hb9
  go_wp2_with fail
  go_ret
  exact ⟨rfl, hB9⟩
end Go.Proofs.YtllihjiilipcnaaDoor
