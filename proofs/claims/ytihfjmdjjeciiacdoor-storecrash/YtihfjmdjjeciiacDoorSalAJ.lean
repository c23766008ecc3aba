/-
  The walk of serial.All at a round that may be done.
-/
import Derived.Test.YtihfjmdjjeciiacDoorRndFJ
import Derived.Test.YtihfjmdjjeciiacDoorSerCJ
import Derived.Laws.OwnMore
import Derived.Laws.MakeOwn
namespace Go.Proofs.YtihfjmdjjeciiacDoor
open Go.RowKit

/-- The variables of All: the state, the state that it will answer, the results. -/
structure SalAt (w : World) (B G n : Nat) (x : Nat → Int) : Prop where
  box : Box w B x
  free0 : ∀ o, w.frozen? ⟨B, o, none⟩ = false
  one : Box w (B + 1) (fun _ => 0)
  free1 : ∀ o, w.frozen? ⟨B + 1, o, none⟩ = false
  row : ∃ xs, w.ownsRow (B + 2) 110 5 (.slice (some ⟨G, 0, none⟩) n n) n xs

theorem box_lt {w : World} {B : Nat} {s : Nat → Int} (h : Box w B s) : B < w.heap.size := World.block_lt_of_cell? w _ (h 0 (by omega))
theorem SalAt.later {w w' : World} {B G n : Nat} {x : Nat → Int} (h : SalAt w B G n x) (hb : Below w.heap.size w w') : SalAt w' B G n x := by
  obtain ⟨xs, hr⟩ := h.row
  exact ⟨h.box.later hb, fun o => by rw [hb.frozen (p := ⟨B, o, none⟩) (box_lt h.box)]; exact h.free0 o, h.one.later hb, fun o => by rw [hb.frozen (p := ⟨B + 1, o, none⟩) (box_lt h.one)]; exact h.free1 o, xs, owns_below hr hb⟩
/-- A key of the state is set. -/
theorem SalAt.setKey {w : World} {B G n : Nat} {x : Nat → Int} (h : SalAt w B G n x) (_hG : B + 2 ≤ G) {m : Nat} (hm : m < 10) (y : Int) : SalAt (w.setCell ⟨B, m, none⟩ (.int .i64 y)) B G n (putAt x m y) := by
  obtain ⟨xs, hr⟩ := h.row
  exact ⟨h.box.set hm y, fun o => by rw [World.frozen?_setCell]; exact h.free0 o, h.one.apart (by omega) _ _, fun o => by rw [World.frozen?_setCell]; exact h.free1 o, xs, ownsRow_setCell_below hr (a := ⟨B, m, none⟩) (by simp) _⟩
/-- A cell of the results is set. -/
theorem SalAt.setRow {w : World} {B G n : Nat} {x : Nat → Int} (h : SalAt w B G n x) (hG : B + 2 ≤ G) (j : Nat) (v : Value) : SalAt (w.setCell ⟨G, j, none⟩ v) B G n x := by
  obtain ⟨xs, hr⟩ := h.row
  exact ⟨h.box.apart (by omega) _ _, fun o => by rw [World.frozen?_setCell]; exact h.free0 o, h.one.apart (by omega) _ _, fun o => by rw [World.frozen?_setCell]; exact h.free1 o, _, (hr.stored j v).1⟩
theorem SalAt.round {w : World} {B G n : Nat} {x : Nat → Int} (h : SalAt w B G n x) (hG : B + 2 ≤ G) (y : Nat → Int) (j : Nat) (v0 v1 v2 v3 v4 : Value) :
    SalAt (((((((((((((((w.setCell ⟨B, 0, none⟩ (.int .i64 (y 0))).setCell ⟨B, 1, none⟩ (.int .i64 (y 1))).setCell ⟨B, 2, none⟩ (.int .i64 (y 2))).setCell ⟨B, 3, none⟩ (.int .i64 (y 3))).setCell ⟨B, 4, none⟩ (.int .i64 (y 4))).setCell ⟨B, 5, none⟩ (.int .i64 (y 5))).setCell ⟨B, 6, none⟩ (.int .i64 (y 6))).setCell ⟨B, 7, none⟩ (.int .i64 (y 7))).setCell ⟨B, 8, none⟩ (.int .i64 (y 8))).setCell ⟨B, 9, none⟩ (.int .i64 (y 9))).setCell ⟨G, j * 5, none⟩ v0).setCell ⟨G, j * 5 + 1, none⟩ v1).setCell ⟨G, j * 5 + 2, none⟩ v2).setCell ⟨G, j * 5 + 3, none⟩ v3).setCell ⟨G, j * 5 + 4, none⟩ v4) B G n y := by
  have h1 := ((((((((((h.setKey hG (m := 0) (by omega) (y 0)).setKey hG (m := 1) (by omega) (y 1)).setKey hG (m := 2) (by omega) (y 2)).setKey hG (m := 3) (by omega) (y 3)).setKey hG (m := 4) (by omega) (y 4)).setKey hG (m := 5) (by omega) (y 5)).setKey hG (m := 6) (by omega) (y 6)).setKey hG (m := 7) (by omega) (y 7)).setKey hG (m := 8) (by omega) (y 8)).setKey hG (m := 9) (by omega) (y 9))
  have h2 := ((((h1.setRow hG (j * 5) v0).setRow hG (j * 5 + 1) v1).setRow hG (j * 5 + 2) v2).setRow hG (j * 5 + 3) v3).setRow hG (j * 5 + 4) v4
  exact ⟨h2.box.congr (lt10 rfl rfl rfl rfl rfl rfl rfl rfl rfl rfl), h2.free0, h2.one, h2.free1, h2.row⟩
theorem below_sal {B : Nat} {w W : World} (h : Below B w W) {b c : Nat} (h1 : B ≤ b) (h2 : B ≤ c) (j : Nat) (x0 x1 x2 x3 x4 x5 x6 x7 x8 x9 y0 y1 y2 y3 y4 : Value) : Below B w (((((((((((((((W.setCell ⟨b, 0, none⟩ x0).setCell ⟨b, 1, none⟩ x1).setCell ⟨b, 2, none⟩ x2).setCell ⟨b, 3, none⟩ x3).setCell ⟨b, 4, none⟩ x4).setCell ⟨b, 5, none⟩ x5).setCell ⟨b, 6, none⟩ x6).setCell ⟨b, 7, none⟩ x7).setCell ⟨b, 8, none⟩ x8).setCell ⟨b, 9, none⟩ x9).setCell ⟨c, j * 5, none⟩ y0).setCell ⟨c, j * 5 + 1, none⟩ y1).setCell ⟨c, j * 5 + 2, none⟩ y2).setCell ⟨c, j * 5 + 3, none⟩ y3).setCell ⟨c, j * 5 + 4, none⟩ y4) :=
  ((((((below_ten h h1 x0 x1 x2 x3 x4 x5 x6 x7 x8 x9).setCell (p := ⟨c, j * 5, none⟩) h2 y0).setCell (p := ⟨c, j * 5 + 1, none⟩) h2 y1).setCell (p := ⟨c, j * 5 + 2, none⟩) h2 y2).setCell (p := ⟨c, j * 5 + 3, none⟩) h2 y3).setCell (p := ⟨c, j * 5 + 4, none⟩) h2 y4)
theorem round_deed {w : World} {a : Option Addr} {cap : Nat} {r : List (List Op5)} (h : RoundAt w (.slice a r.length cap) r) {i : Nat} (hi : i < r.length) : ∃ b off, a = some ⟨b, off, none⟩ ∧ ∃ dv, w.cell? ⟨b, off + i, none⟩ = some dv ∧ DeedAt w dv r[i] := by
  obtain ⟨a', cap', e, h⟩ := h
  simp only [Value.slice.injEq, true_and] at e
  obtain ⟨rfl, rfl⟩ := e
  exact h i hi

set_option maxRecDepth 100000 in
set_option maxHeartbeats 2000000 in
theorem sal_good (v : Value) (r : List (List Op5)) (s : Nat → Int) (w : World) (hr : RoundAt w v r) (hf : Fits r) (h0 : roundF r = 0) (hL : Lim w) :
    Calls Tryd.prog 44 #[stV s, v] w fun e w' => (∃ G, e = .returned (.tuple #[stV (allSt s r), .slice (some ⟨G, 0, none⟩) r.length r.length, .int .i64 0])) ∧ Below w.heap.size w w' := by
  obtain ⟨h8, hck⟩ := roundF_zero.1 h0
  have H0 : Hid (roundF r = 0) := h0
  have HC : Hid (∀ j (h : j < r.length), (checkF r[j]).1 = 0) := fun j h => hck _ (List.getElem_mem h)
  clear h0 hck
  have HR := hr
  obtain ⟨a, cap, rfl, -⟩ := hr
  obtain ⟨cs, hcs, hmk⟩ := make_res r.length h8
  obtain ⟨W0, e0, hB0, hsz, hX0, hY0, hf1⟩ := run_open w s
  have hf0 : ∀ o, W0.frozen? ⟨w.heap.size, o, none⟩ = false := fun o => by rw [e0]; go_simp
  show Calls Tryd.prog 44 #[.agg #[.int .i64 (s 0), .int .i64 (s 1), .int .i64 (s 2), .int .i64 (s 3), .int .i64 (s 4), .int .i64 (s 5), .int .i64 (s 6), .int .i64 (s 7), .int .i64 (s 8), .int .i64 (s 9)], _] w _
  go_enter Tryd.func44, Tryd.ntmps44
  go_wp2_with fail
  rw [← e0]
  clear e0
  refine (round_any _ r _ (HR.later hB0) hf (hL.later hB0)).mono ?_
  rintro e w1 ⟨rfl, hb1⟩
  rw [H0.out]
  have hA1 : SalAt (w1.alloc (.cells cs 110)) w.heap.size w1.heap.size r.length s := by
    have hb1' : Below W0.heap.size W0 (w1.alloc (.cells cs 110)) := hb1.alloc hb1.size _
    exact ⟨hX0.later hb1', fun o => by rw [hb1'.frozen (p := ⟨w.heap.size, o, none⟩) (box_lt hX0)]; exact hf0 o, hY0.later hb1', fun o => by rw [hb1'.frozen (p := ⟨w.heap.size + 1, o, none⟩) (box_lt hY0)]; exact hf1 o,
      _, World.ownsRow_lit w1 cs r.length (by have := hb1.size; omega) (by unfold maxLen; omega) hcs⟩
  have hB1 : Below w.heap.size w (w1.alloc (.cells cs 110)) := (hB0.trans (hb1.mono (by omega))).alloc (by have := hb1.size; omega) _
  have hG : w.heap.size + 2 ≤ w1.heap.size := by have := hb1.size; omega
  clear hb1 hX0 hY0 hf0 hf1 hB0
  go_wp2_with fail
  go_loopg [22] r.length (fun g i wr => ∃ j : Nat, ∃ x : Nat → Int, j ≤ r.length ∧ g = r.length - j ∧ i = .int .i64 j ∧ SalAt wr w.heap.size w1.heap.size r.length x ∧ Hid (x = allSt s (r.take j)) ∧ Below w.heap.size w wr)
  case atStart => exact ⟨0, s, by omega, by omega, rfl, hA1, rfl, hB1⟩
  case round =>
    clear hA1 hB1
    obtain ⟨j, x, hj, hg, rfl, hA, hx, hB⟩ := hrel
    by_cases hlt : j < r.length
    · obtain ⟨b, off, rfl, dv, cd, hD⟩ := round_deed HR hlt
      replace cd := cell_later hB cd
      have hD' := hD.later hB
      have hck := HC.out j hlt
      have hrun := run_any dv r[j] x wr hD' (check_len hck) (checkF_alone hck)
      obtain ⟨o, ho⟩ : ∃ o, o = doF x r[j] := ⟨_, rfl⟩
      rw [← ho] at hrun
      have hx' : Hid (o.st = allSt s (r.take (j + 1))) := by show _ = _; rw [allSt_take hlt, allOut_get hlt, ← hx.out, ho]
      obtain ⟨k0, k1, k2, k3, k4, k5, k6, k7, k8, k9⟩ := hA.box.ten
      clear ho hck hx
      go_wp2_with fail
      refine hrun.mono ?_
      rintro e w2 ⟨he, hb2⟩
      simp only [stV, resV] at he
      subst he
      have hA2 := hA.later hb2
      have hB2 : Below w.heap.size w w2 := hB.trans (hb2.mono hB.size)
      obtain ⟨xs, hrow⟩ := hA2.row
      have hxl := hrow.1
      have q0 := hrow.cellAt (j * 5) (by omega)
      have q1 := hrow.cellAt (j * 5 + 1) (by omega)
      have q2 := hrow.cellAt (j * 5 + 2) (by omega)
      have q3 := hrow.cellAt (j * 5 + 3) (by omega)
      have q4 := hrow.cellAt (j * 5 + 4) (by omega)
      rw [List.getElem?_eq_getElem (by omega)] at q0 q1 q2 q3 q4
      have u0 := hA2.free0
      have u1 := hrow.frozenAt
      have hn0 : ¬ w.heap.size = w1.heap.size := by omega
      have hn1 : ¬ w1.heap.size = w.heap.size := by omega
      clear k0 k1 k2 k3 k4 k5 k6 k7 k8 k9 cd hrun hb2
      obtain ⟨k0, k1, k2, k3, k4, k5, k6, k7, k8, k9⟩ := hA2.box.ten
      have hA3 := hA2.round hG o.st j (.int .i64 o.code) (.int .i64 (o.regs 0)) (.int .i64 (o.regs 1)) (.int .i64 (o.regs 2)) (.int .i64 (o.regs 3))
      have HA3 : Hid _ := hA3
      clear hA3 hA hrow
      go_wp2_with fail
      go_roundg (r.length - (j + 1))
      case measure => omega
      case rel => exact ⟨j + 1, o.st, by omega, rfl, by go_num, HA3.out, hx', below_sal hB2 (Nat.le_refl _) (by omega) j _ _ _ _ _ _ _ _ _ _ _ _ _ _ _⟩
    · obtain rfl : j = r.length := by omega
      have hx' : Hid (x = allSt s r) := by have := hx.out; rw [List.take_length] at this; exact this
      obtain ⟨k0, k1, k2, k3, k4, k5, k6, k7, k8, k9⟩ := hA.box.ten
      obtain ⟨y0, y1, y2, y3, y4, y5, y6, y7, y8, y9⟩ := hA.one.ten
      have u1 := hA.free1
      have hn0 : ¬ w.heap.size = w.heap.size + 1 := by omega
      have hBz : Below w.heap.size w wr := hB
      clear hx hA
      go_wp2_with fail
      exact bodyPost_ret (v := .tuple #[stV x, .slice (some ⟨w1.heap.size, 0, none⟩) r.length r.length, .int .i64 0]) (by simp [results, Tryd.results44, go_sem, stV, y0, y1, y2, y3, y4, y5, y6, y7, y8, y9]) rfl ⟨⟨w1.heap.size, by rw [hx'.out]⟩, below_ten hBz (b := w.heap.size + 1) (by omega) _ _ _ _ _ _ _ _ _ _⟩
end Go.Proofs.YtihfjmdjjeciiacDoor
