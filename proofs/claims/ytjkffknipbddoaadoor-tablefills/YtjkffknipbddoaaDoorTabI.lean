/-
  The walks of Slots at two slots, and of tableBegun.
-/
import Derived.Test.YtjkffknipbddoaaDoorTabH
import Derived.Test.YtjkffknipbddoaaDoorEqA
namespace Go.Proofs.YtjkffknipbddoaaDoor
open Go.RowKit Go.Shelf

theorem info86 : (Tryd.prog.info? 103).map (fun i => (i.zero, i.size, i.bytes)) = some (some (.agg #[.int .i64 0, .bool false, .bool false, .int .i64 0]), 4, 24) := by kernel_rfl

theorem add_off0 (b off t : Nat) : (⟨b, off, none⟩ : Addr).add t = ⟨b, off + t, none⟩ := by
  unfold Addr.add; split <;> simp_all

set_option maxRecDepth 100000 in
set_option maxHeartbeats 1000000 in
theorem clone_two (B off : Nat) (x y : Slot4) (w : World) (h : RowAt w B off [x, y]) :
    Calls Tryd.prog 67 #[.slice (some ⟨B, off, none⟩) 2 9] w fun e w' => (∃ a cap, e = .returned (.slice a 2 cap)) ∧ Below w.heap.size w w' := by
  obtain ⟨i0, hi, hz0, hz1, hz2⟩ := info_parts info86
  have hB : B < w.heap.size := World.block_lt_of_cell? w _ h.many
  obtain ⟨a0, a1, a2, a3⟩ := h.cell 0 (by simp)
  obtain ⟨b0, b1, b2, b3⟩ := h.cell 1 (by simp)
  have hnews : Hid (∀ j u, [Value.int .i64 x.b, .bool x.op, .bool x.vo, .int .i64 x.n, .int .i64 y.b, .bool y.op, .bool y.vo, .int .i64 y.n][j]? = some u → w.cell? ((⟨B, off, none⟩ : Addr).add j) = some u) := fun j u hj => by
    rw [add_off0]
    match j, hj with
    | 0, hj => cases hj; exact a0
    | 1, hj => cases hj; exact a1
    | 2, hj => cases hj; exact a2
    | 3, hj => cases hj; exact a3
    | 4, hj => cases hj; exact b0
    | 5, hj => cases hj; exact b1
    | 6, hj => cases hj; exact b2
    | 7, hj => cases hj; exact b3
  clear a0 a1 a2 a3 b0 b1 b2 b3 h
  have heq : ∀ w, (binOp .eql 73 (.slice (some ⟨B, off, none⟩) 2 9) (.slice none 0 0)).run Tryd.prog w = .ok (.bool false) w := fun _ => by kernel_rfl
  have hown : (w.alloc (.cells #[] 103)).ownsRow w.heap.size 103 4 (.slice (some ⟨w.heap.size, 0, none⟩) 0 0) 0 [] := ⟨rfl, .inr ⟨w.heap.size, 0, #[], rfl, Nat.le_refl _, World.alloc_heap_new w _, Nat.le_refl _, by simp, rfl, rfl⟩⟩
  have hnews1 : Hid (∀ j u, [Value.int .i64 x.b, .bool x.op, .bool x.vo, .int .i64 x.n, .int .i64 y.b, .bool y.op, .bool y.vo, .int .i64 y.n][j]? = some u → (w.alloc (.cells #[] 103)).cell? ((⟨B, off, none⟩ : Addr).add j) = some u) := fun j u hj => cell_later ((Below.refl _ _).alloc (Nat.le_refl _) _) (hnews.out j u hj)
  clear hnews
  go_enter Tryd.func67, Tryd.ntmps67
  go_wp2_with (at_builtin; refine wpList_append_own _ rfl _ _ 73 rfl w.heap.size 103 i0 (.agg #[.int .i64 0, .bool false, .bool false, .int .i64 0]) 4 24 Tryd.underlying73 hi hz0 hz1 hz2 rfl (by decide) _ 0 [] rfl hown ⟨B, off, none⟩ 2 9 [.int .i64 x.b, .bool x.op, .bool x.vo, .int .i64 x.n, .int .i64 y.b, .bool y.op, .bool y.vo, .int .i64 y.n] rfl rfl hnews1.out (by simp [Value.oneCell']) (by unfold maxLen; omega) (by omega) (by simp) ?_; intro v' w1 hown' hgrow hnil)
  go_ret
  refine ⟨?_, ((Below.refl _ _).alloc (Nat.le_refl _) _).grown hgrow (by simp) (fun k hk => (hown.lt k hk).1)⟩
  rcases hown'.2 with ⟨-, h0⟩ | ⟨g, cap, cur, rfl, -⟩
  · cases h0
  · exact ⟨_, cap, rfl⟩

set_option maxRecDepth 100000 in
set_option maxHeartbeats 1000000 in
theorem slots_two (B k : Nat) (hk : k < 10) (T : Nat → List Slot4) (x y : Slot4) (w : World) (h : TabAt w B T) (hT : T k = [x, y]) :
    Calls Tryd.prog 45 #[.pointer (some ⟨B, 0, none⟩), .int .i64 (k : Int)] w fun e w' => (∃ a cap, e = .returned (.slice a 2 cap)) ∧ Below w.heap.size w w' := by
  have hrow := h.row k hk
  have hki : (k : Int) < 10 := by omega
  have hall := all_row B (k * 37) (T k) w hrow
  rw [hT] at hrow hall
  have hcl := clone_two B (k * 37) x y w.drew hrow.drew
  clear hT
  go_enter Tryd.func45, Tryd.ntmps45
  go_wp2_with (first | (go_at_call 39; refine (key_in k hk _).mono ?_; rintro e w' ⟨rfl, rfl⟩) | (go_at_call 68; refine hall.mono ?_; rintro e w' ⟨rfl, rfl⟩))
  refine hcl.mono ?_
  rintro e w1 ⟨⟨a, cap, rfl⟩, hb⟩
  go_wp2_with fail
  go_ret
  exact ⟨⟨a, cap, rfl⟩, (Below.refl _ _).drew.trans hb⟩

def sB (n : Int) : Nat → Int := fun i => if i = 2 then n else 0
def rB : List (List Op5) := [[⟨7, 2, 0, 0, 0⟩]]
def tB : Nat → List Slot4 := newF (sB 5) rB
def uB : Nat → List Slot4 := settleT tB 2 ⟨0, false, false, 9⟩
theorem roundB : roundF rB = 0 := by decide
theorem b1 : beforeT tB 2 0 = (5, -1) := by decide
theorem b2 : beforeT tB 2 1 = (0, 0) := by decide
theorem b3 : toldT tB 2 0 = true := by decide
theorem b4 : beforeT uB 2 1 = (9, -1) := by decide
theorem b5 : overF uB = true := by decide
theorem b6 : ∀ k, k < 10 → lastF knownP (uB k) ≠ none := by decide
theorem b7 : ∀ k, k < 10 → valF (uB k) = sB 9 k := by decide
theorem b8 : uB 2 = [⟨-1, false, false, 5⟩, ⟨0, false, false, 9⟩] := rfl
theorem fitsB : Fits rB := ⟨by simp [rB], fun i hi => by
  obtain rfl : i = 0 := by simp [rB] at hi; omega
  simp [rB]⟩
theorem roundAtB (w : World) : RoundAt ((w.alloc (.cells #[.int .i64 7, .int .i64 2, .int .i64 0, .int .i64 0, .int .i64 0] 34)).alloc (.cells #[.slice (some ⟨w.heap.size, 0, none⟩) 1 1] 32)) (.slice (some ⟨w.heap.size + 1, 0, none⟩) 1 1) rB := by
  refine ⟨_, 1, rfl, fun i hi => ?_⟩
  obtain rfl : i = 0 := by simp [rB] at hi; omega
  refine ⟨w.heap.size + 1, 0, rfl, .slice (some ⟨w.heap.size, 0, none⟩) 1 1, by go_simp, ?_⟩
  refine ⟨_, 1, rfl, fun i hi => ?_⟩
  obtain rfl : i = 0 := by simp [rB] at hi; omega
  refine ⟨w.heap.size, 0, rfl, ?_, ?_, ?_, ?_, ?_⟩ <;> go_simp <;> simp [rB]

set_option maxRecDepth 100000 in
set_option maxHeartbeats 1000000 in
theorem begun_any (w : World) (hL : Lim w) : Calls Tryd.prog 30 #[] w fun e w' => e = .returned (.bool true) ∧ Below w.heap.size w w' := by
  have hB0 : Below w.heap.size w ((w.alloc (.cells #[.int .i64 7, .int .i64 2, .int .i64 0, .int .i64 0, .int .i64 0] 34)).alloc (.cells #[.slice (some ⟨w.heap.size, 0, none⟩) 1 1] 32)) := ((Below.refl _ _).alloc (Nat.le_refl _) _).alloc (by simp) _
  have hnew : Calls Tryd.prog 31 #[.agg #[.int .i64 0, .int .i64 0, .int .i64 5, .int .i64 0, .int .i64 0, .int .i64 0, .int .i64 0, .int .i64 0, .int .i64 0, .int .i64 0], .slice (some ⟨w.heap.size + 1, 0, none⟩) 1 1] _ _ := new_good _ rB (sB 5) _ (roundAtB w) fitsB roundB (hL.later hB0)
  go_enter Tryd.func30, Tryd.ntmps30
  go_wp2_with fail
  refine hnew.mono ?_
  clear hnew
  rintro e w1 ⟨B, rfl, hB, hT, hb1⟩
  have hB1 : Below w.heap.size w w1 := hB0.trans (hb1.mono (by simp; omega))
  have hBw : w.heap.size ≤ B := by simp at hB; omega
  clear hB0 hb1 hB
  go_wp2_with fail
  refine (before_any B 2 0 tB w1 hT).mono ?_
  rintro e w2 ⟨he, hb2⟩
  rw [b1] at he
  subst he
  have hB2 : Below w.heap.size w w2 := hB1.trans (hb2.mono hB1.size)
  replace hT := hT.later hb2
  clear hb2 hB1
  go_wp2_with fail
  refine (before_any B 2 1 tB w2 hT).mono ?_
  rintro e w3 ⟨he, hb3⟩
  rw [b2] at he
  subst he
  have hB3 : Below w.heap.size w w3 := hB2.trans (hb3.mono hB2.size)
  replace hT := hT.later hb3
  clear hb3 hB2
  go_wp2_with fail
  refine (set_any B 2 0 9 tB w3 hT).mono ?_
  rintro e w4 ⟨he, hU, hg4⟩
  rw [b3] at he
  subst he
  have hB4 : Below w.heap.size w w4 := hB3.grown hg4 hB3.size (fun q hq => by cases hq; exact hBw)
  replace hU : TabAt w4 B uB := hU
  clear hT hg4 hB3
  go_wp2_with fail
  refine (before_any B 2 1 uB w4 hU).mono ?_
  rintro e w5 ⟨he, hb5⟩
  rw [b4] at he
  subst he
  have hB5 : Below w.heap.size w w5 := hB4.trans (hb5.mono hB4.size)
  replace hU := hU.later hb5
  clear hb5 hB4
  go_wp2_with fail
  refine (over_any B uB w5 hU).mono ?_
  rintro e w6 ⟨he, hb6⟩
  rw [b5] at he
  subst he
  have hB6 : Below w.heap.size w w6 := hB5.trans (hb6.mono hB5.size)
  replace hU := hU.later hb6
  clear hb6 hB5
  go_wp2_with fail
  refine (state_any B uB w6 hU b6).mono ?_
  rintro e w7 ⟨he, hb7⟩
  rw [ret_st b7] at he
  have he' : e = .returned (.agg #[.int .i64 0, .int .i64 0, .int .i64 9, .int .i64 0, .int .i64 0, .int .i64 0, .int .i64 0, .int .i64 0, .int .i64 0, .int .i64 0]) := he
  clear he
  subst he'
  have hB7 : Below w.heap.size w w7 := hB6.trans (hb7.mono hB6.size)
  replace hU := hU.later hb7
  clear hb7 hB6
  have h38 : ∀ w, (Op.equalIn 10000 38 (.agg #[.int .i64 0, .int .i64 0, .int .i64 9, .int .i64 0, .int .i64 0, .int .i64 0, .int .i64 0, .int .i64 0, .int .i64 0, .int .i64 0]) (.agg #[.int .i64 0, .int .i64 0, .int .i64 9, .int .i64 0, .int .i64 0, .int .i64 0, .int .i64 0, .int .i64 0, .int .i64 0, .int .i64 0])).run Tryd.prog w = .ok true w := eq38 (sB 9)
  go_wp2_with (go_at_call 39; refine (key_in 9 (by omega) _).mono ?_; rintro e w' ⟨rfl, rfl⟩)
  refine (slots_two B 2 (by omega) uB _ _ _ hU b8).mono ?_
  rintro e w8 ⟨⟨a, cap, rfl⟩, hb8⟩
  have hB8 : Below w.heap.size w w8 := hB7.trans (hb8.mono hB7.size)
  clear hb8 hB7 hU h38
  go_wp2_with fail
  go_ret
  exact ⟨rfl, hB8⟩
end Go.Proofs.YtjkffknipbddoaaDoor
