/-
  The walk of serial.All at a round that may be done.
-/
import Derived.Test.YtlhikmgjcgfohaaDoorWalkJ
namespace Go.Proofs.YtlhikmgjcgfohaaDoor
open Go.RowKit

theorem RoundAt.deed {w : World} {a : Option Addr} {cap : Nat} {r : List (List Op5)} (h : RoundAt w (.slice a r.length cap) r) {i : Nat} (hi : i < r.length) : ∃ b off, a = some ⟨b, off, none⟩ ∧ ∃ dv, w.cell? ⟨b, off + i, none⟩ = some dv ∧ DeedAt w dv r[i] := by
  obtain ⟨a', cap', e, h⟩ := h
  simp only [Value.slice.injEq, true_and] at e
  obtain ⟨rfl, rfl⟩ := e
  exact h i hi

theorem below_store {B : Nat} {w W : World} (h : Below B w W) {b : Nat} (h1 : B ≤ b) (x0 x1 x2 x3 x4 x5 x6 x7 x8 x9 : Value) : Below B w ((((((((((W.setCell ⟨b, 0, none⟩ x0).setCell ⟨b, 1, none⟩ x1).setCell ⟨b, 2, none⟩ x2).setCell ⟨b, 3, none⟩ x3).setCell ⟨b, 4, none⟩ x4).setCell ⟨b, 5, none⟩ x5).setCell ⟨b, 6, none⟩ x6).setCell ⟨b, 7, none⟩ x7).setCell ⟨b, 8, none⟩ x8).setCell ⟨b, 9, none⟩ x9) :=
  ((((((((((h.setCell (p := ⟨b, 0, none⟩) h1 x0).setCell (p := ⟨b, 1, none⟩) h1 x1).setCell (p := ⟨b, 2, none⟩) h1 x2).setCell (p := ⟨b, 3, none⟩) h1 x3).setCell (p := ⟨b, 4, none⟩) h1 x4).setCell (p := ⟨b, 5, none⟩) h1 x5).setCell (p := ⟨b, 6, none⟩) h1 x6).setCell (p := ⟨b, 7, none⟩) h1 x7).setCell (p := ⟨b, 8, none⟩) h1 x8).setCell (p := ⟨b, 9, none⟩) h1 x9)

theorem below_round {B : Nat} {w W : World} (h : Below B w W) {b c : Nat} (h1 : B ≤ b) (h2 : B ≤ c) (j : Nat) (x0 x1 x2 x3 x4 x5 x6 x7 x8 x9 y0 y1 y2 y3 y4 : Value) : Below B w (((((((((((((((W.setCell ⟨b, 0, none⟩ x0).setCell ⟨b, 1, none⟩ x1).setCell ⟨b, 2, none⟩ x2).setCell ⟨b, 3, none⟩ x3).setCell ⟨b, 4, none⟩ x4).setCell ⟨b, 5, none⟩ x5).setCell ⟨b, 6, none⟩ x6).setCell ⟨b, 7, none⟩ x7).setCell ⟨b, 8, none⟩ x8).setCell ⟨b, 9, none⟩ x9).setCell ⟨c, j * 5, none⟩ y0).setCell ⟨c, j * 5 + 1, none⟩ y1).setCell ⟨c, j * 5 + 2, none⟩ y2).setCell ⟨c, j * 5 + 3, none⟩ y3).setCell ⟨c, j * 5 + 4, none⟩ y4) :=
  (((((((((((((((h.setCell (p := ⟨b, 0, none⟩) h1 x0).setCell (p := ⟨b, 1, none⟩) h1 x1).setCell (p := ⟨b, 2, none⟩) h1 x2).setCell (p := ⟨b, 3, none⟩) h1 x3).setCell (p := ⟨b, 4, none⟩) h1 x4).setCell (p := ⟨b, 5, none⟩) h1 x5).setCell (p := ⟨b, 6, none⟩) h1 x6).setCell (p := ⟨b, 7, none⟩) h1 x7).setCell (p := ⟨b, 8, none⟩) h1 x8).setCell (p := ⟨b, 9, none⟩) h1 x9).setCell (p := ⟨c, j * 5, none⟩) h2 y0).setCell (p := ⟨c, j * 5 + 1, none⟩) h2 y1).setCell (p := ⟨c, j * 5 + 2, none⟩) h2 y2).setCell (p := ⟨c, j * 5 + 3, none⟩) h2 y3).setCell (p := ⟨c, j * 5 + 4, none⟩) h2 y4)
theorem owns_base {w : World} {base base' : Nat} {e : TypeId} {size : Nat} {v : Value} {n : Nat} {xs : List Value} (h : w.ownsRow base e size v n xs) (hb : base' ≤ base) : w.ownsRow base' e size v n xs := by
  refine ⟨h.1, ?_⟩
  rcases h.2 with hn | ⟨g, cap, cur, hv, hbase, rest⟩
  · exact .inl hn
  · exact .inr ⟨g, cap, cur, hv, Nat.le_trans hb hbase, rest⟩
theorem owns_store {w : World} {base : Nat} {e : TypeId} {size : Nat} {v : Value} {n : Nat} {xs : List Value} (h : w.ownsRow base e size v n xs) {b : Nat} (hb : b < base) (x0 x1 x2 x3 x4 x5 x6 x7 x8 x9 : Value) : ((((((((((w.setCell ⟨b, 0, none⟩ x0).setCell ⟨b, 1, none⟩ x1).setCell ⟨b, 2, none⟩ x2).setCell ⟨b, 3, none⟩ x3).setCell ⟨b, 4, none⟩ x4).setCell ⟨b, 5, none⟩ x5).setCell ⟨b, 6, none⟩ x6).setCell ⟨b, 7, none⟩ x7).setCell ⟨b, 8, none⟩ x8).setCell ⟨b, 9, none⟩ x9).ownsRow base e size v n xs :=
  ownsRow_setCell_below (ownsRow_setCell_below (ownsRow_setCell_below (ownsRow_setCell_below (ownsRow_setCell_below (ownsRow_setCell_below (ownsRow_setCell_below (ownsRow_setCell_below (ownsRow_setCell_below (ownsRow_setCell_below (h) (a := ⟨b, 0, none⟩) hb x0) (a := ⟨b, 1, none⟩) hb x1) (a := ⟨b, 2, none⟩) hb x2) (a := ⟨b, 3, none⟩) hb x3) (a := ⟨b, 4, none⟩) hb x4) (a := ⟨b, 5, none⟩) hb x5) (a := ⟨b, 6, none⟩) hb x6) (a := ⟨b, 7, none⟩) hb x7) (a := ⟨b, 8, none⟩) hb x8) (a := ⟨b, 9, none⟩) hb x9

set_option maxHeartbeats 2000000 in
theorem all_good (v : Value) (r : List (List Op5)) (s : Nat → Int) (w : World) (hr : RoundAt w v r) (hf : Fits r) (h0 : roundF r = 0) (hL : Lim w) :
    Calls Tryd.prog 20 #[stV s, v] w fun e w' => ∃ G, e = .returned (.tuple #[stV (allSt s r), .slice (some ⟨G, 0, none⟩) r.length r.length, .int .i64 0]) ∧ w'.ownsRow w.heap.size 43 5 (.slice (some ⟨G, 0, none⟩) r.length r.length) r.length (resCells (allOut s r)) ∧ Below w.heap.size w w' := by
  obtain ⟨h8, hck⟩ := roundF_zero.1 h0
  have H0 : Hid (roundF r = 0) := h0
  have HC : Hid (∀ j (h : j < r.length), (checkF r[j]).1 = 0) := fun j h => hck _ (List.getElem_mem h)
  clear h0 hck
  have HR := hr
  obtain ⟨a, cap, rfl, -⟩ := hr
  obtain ⟨cs, hcs, hmk⟩ := make_run r.length h8
  show Calls Tryd.prog 20 #[.agg #[.int .i64 (s 0), .int .i64 (s 1), .int .i64 (s 2), .int .i64 (s 3), .int .i64 (s 4), .int .i64 (s 5), .int .i64 (s 6), .int .i64 (s 7), .int .i64 (s 8), .int .i64 (s 9)], _] w _
  go_enter Tryd.func20, Tryd.ntmps20
  go_wp2_with fail
  obtain ⟨W0, e0⟩ : ∃ W0, W0 = (w.alloc (.cells #[.int .i64 (s 0), .int .i64 (s 1), .int .i64 (s 2), .int .i64 (s 3), .int .i64 (s 4), .int .i64 (s 5), .int .i64 (s 6), .int .i64 (s 7), .int .i64 (s 8), .int .i64 (s 9)] 38)).alloc (.cells #[.int .i64 0, .int .i64 0, .int .i64 0, .int .i64 0, .int .i64 0, .int .i64 0, .int .i64 0, .int .i64 0, .int .i64 0, .int .i64 0] 38) := ⟨_, rfl⟩
  rw [← e0]
  have hB0 : Below w.heap.size w W0 := by rw [e0]; exact ((Below.refl _ _).alloc (Nat.le_refl _) _).alloc (by simp) _
  have hsz : W0.heap.size = w.heap.size + 2 := by rw [e0]; simp
  have hX0 : Box W0 w.heap.size s := by rw [e0]; exact lt10 (by go_simp) (by go_simp) (by go_simp) (by go_simp) (by go_simp) (by go_simp) (by go_simp) (by go_simp) (by go_simp) (by go_simp)
  have hY0 : Box W0 (w.heap.size + 1) (fun _ => 0) := by rw [e0]; exact lt10 (by go_simp) (by go_simp) (by go_simp) (by go_simp) (by go_simp) (by go_simp) (by go_simp) (by go_simp) (by go_simp) (by go_simp)
  have hf0 : ∀ o, W0.frozen? ⟨w.heap.size, o, none⟩ = false := fun o => by rw [e0]; go_simp
  have hf1 : ∀ o, W0.frozen? ⟨w.heap.size + 1, o, none⟩ = false := fun o => by rw [e0]; go_simp
  clear e0
  refine (round_any _ r _ (HR.later hB0) hf (hL.later hB0)).mono ?_
  rintro e w1 ⟨rfl, hb1⟩
  rw [H0.out]
  have hA1 : AllAt (w1.alloc (.cells cs 43)) w.heap.size w1.heap.size r.length s cs.toList := by
    have hb1' : Below W0.heap.size W0 (w1.alloc (.cells cs 43)) := hb1.alloc hb1.size _
    exact ⟨hX0.later hb1', fun o => by rw [hb1'.frozen (p := ⟨w.heap.size, o, none⟩) hX0.lt]; exact hf0 o, hY0.later hb1', fun o => by rw [hb1'.frozen (p := ⟨w.heap.size + 1, o, none⟩) hY0.lt]; exact hf1 o,
      World.ownsRow_lit w1 cs r.length (by have := hb1.size; omega) (by unfold maxLen; omega) hcs⟩
  have hB1 : Below w.heap.size w (w1.alloc (.cells cs 43)) := (hB0.trans (hb1.mono (by omega))).alloc (by have := hb1.size; omega) _
  have hG : w.heap.size + 2 ≤ w1.heap.size := by have := hb1.size; omega
  clear hb1 hX0 hY0 hf0 hf1 hB0
  go_wp2_with fail
  go_loopg [22] r.length (fun g i wr => ∃ j : Nat, ∃ x : Nat → Int, ∃ xs : List Value, j ≤ r.length ∧ g = r.length - j ∧ i = .int .i64 j ∧ AllAt wr w.heap.size w1.heap.size r.length x xs ∧ Hid (x = allSt s (r.take j)) ∧ Hid (xs.take (j * 5) = resCells (allOut s (r.take j))) ∧ Below w.heap.size w wr)
  case atStart => exact ⟨0, s, cs.toList, by omega, by omega, rfl, hA1, rfl, by simp [Hid, resCells, allOut], hB1⟩
  case round =>
    clear hA1 hB1
    obtain ⟨j, x, xs, hj, hg, rfl, hA, hx, hxs, hB⟩ := hrel
    by_cases hlt : j < r.length
    · obtain ⟨b, off, rfl, dv, cd, hD⟩ := HR.deed hlt
      replace cd := cell_later hB cd
      have hD' := hD.later hB
      have hck := HC.out j hlt
      have hrun := run_any dv r[j] x wr hD' (check_len hck) (checkF_alone hck)
      obtain ⟨o, ho⟩ : ∃ o, o = doF x r[j] := ⟨_, rfl⟩
      rw [← ho] at hrun
      have hx' : Hid (o.st = allSt s (r.take (j + 1))) := by show _ = _; rw [allSt_take hlt, ← hx.out, ho]
      have ho' : Hid (allOut s (r.take (j + 1)) = allOut s (r.take j) ++ [o]) := by show _ = _; rw [allOut_take hlt, ← hx.out, ho]
      obtain ⟨k0, k1, k2, k3, k4, k5, k6, k7, k8, k9⟩ := hA.box.ten
      clear ho hck hx
      go_wp2_with fail
      refine hrun.mono ?_
      rintro e w2 ⟨he, hb2⟩
      simp only [stV, resV] at he
      subst he
      have hA2 := hA.later hb2
      have hB2 : Below w.heap.size w w2 := hB.trans (hb2.mono hB.size)
      have hxl := hA2.row.1
      have q0 := hA2.row.cellAt (j * 5) (by omega)
      have q1 := hA2.row.cellAt (j * 5 + 1) (by omega)
      have q2 := hA2.row.cellAt (j * 5 + 2) (by omega)
      have q3 := hA2.row.cellAt (j * 5 + 3) (by omega)
      have q4 := hA2.row.cellAt (j * 5 + 4) (by omega)
      rw [List.getElem?_eq_getElem (by omega)] at q0 q1 q2 q3 q4
      have u0 := hA2.free0
      have u1 := hA2.row.frozenAt
      have hn0 : ¬ w.heap.size = w1.heap.size := by omega
      have hn1 : ¬ w1.heap.size = w.heap.size := by omega
      clear k0 k1 k2 k3 k4 k5 k6 k7 k8 k9 cd hrun hb2
      obtain ⟨k0, k1, k2, k3, k4, k5, k6, k7, k8, k9⟩ := hA2.box.ten
      have hxs' : Hid ((((((xs.set (j * 5) (.int .i64 o.code)).set (j * 5 + 1) (.int .i64 (o.regs 0))).set (j * 5 + 2) (.int .i64 (o.regs 1))).set (j * 5 + 3) (.int .i64 (o.regs 2))).set (j * 5 + 4) (.int .i64 (o.regs 3))).take ((j + 1) * 5) = resCells (allOut s (r.take (j + 1)))) := by
        show _ = _
        rw [show (j + 1) * 5 = j * 5 + 5 by omega, take_set5 xs (j * 5) (by omega), hxs.out, ho'.out, resCells_append]
        rfl
      have hA3 := hA2.round hG o.st j (.int .i64 o.code) (.int .i64 (o.regs 0)) (.int .i64 (o.regs 1)) (.int .i64 (o.regs 2)) (.int .i64 (o.regs 3))
      have HA3 : Hid _ := hA3
      clear hxs ho' hA3 hA
      go_wp2_with fail
      go_roundg (r.length - (j + 1))
      case measure => omega
      case rel => exact ⟨j + 1, o.st, _, by omega, rfl, by go_num, HA3.out, hx', hxs', below_round hB2 (Nat.le_refl _) (by omega) j _ _ _ _ _ _ _ _ _ _ _ _ _ _ _⟩
    · obtain rfl : j = r.length := by omega
      have hx' : Hid (x = allSt s r) := by have := hx.out; rw [List.take_length] at this; exact this
      have hxs' : Hid (xs = resCells (allOut s r)) := by
        have h := hxs.out
        have hl := hA.row.1
        rw [List.take_length, ← hl, List.take_length] at h
        exact h
      obtain ⟨k0, k1, k2, k3, k4, k5, k6, k7, k8, k9⟩ := hA.box.ten
      obtain ⟨y0, y1, y2, y3, y4, y5, y6, y7, y8, y9⟩ := hA.one.ten
      have u1 := hA.free1
      have hn0 : ¬ w.heap.size = w.heap.size + 1 := by omega
      have hBz : Below w.heap.size w wr := hB
      clear hx hxs
      have HOWN : Hid (wr.ownsRow (w.heap.size + 2) 43 5 (.slice (some ⟨w1.heap.size, 0, none⟩) r.length r.length) r.length (resCells (allOut s r))) := by
        have h := hA.row
        rw [hxs'.out] at h
        exact h
      clear hxs' hA
      go_wp2_with fail
      exact bodyPost_ret (v := .tuple #[stV x, .slice (some ⟨w1.heap.size, 0, none⟩) r.length r.length, .int .i64 0]) (by simp [results, Tryd.results20, go_sem, stV, y0, y1, y2, y3, y4, y5, y6, y7, y8, y9]) rfl ⟨w1.heap.size, by rw [hx'.out], owns_base (owns_store HOWN.out (b := w.heap.size + 1) (by omega) _ _ _ _ _ _ _ _ _ _) (by omega), below_store hBz (b := w.heap.size + 1) (by omega) _ _ _ _ _ _ _ _ _ _⟩

set_option maxHeartbeats 1000000 in
theorem all_bad (v : Value) (r : List (List Op5)) (s : Nat → Int) (w : World) (hr : RoundAt w v r) (hf : Fits r) (h0 : ¬ roundF r = 0) (hL : Lim w) :
    Calls Tryd.prog 20 #[stV s, v] w fun e w' => e = .returned (.tuple #[stV (fun _ => 0), .slice none 0 0, .int .i64 (roundF r)]) ∧ Below w.heap.size w w' := by
  have hrd := fun w' (hr' : RoundAt w' v r) (hL' : Lim w') => round_any v r w' hr' hf hL'
  obtain ⟨c, hc⟩ : ∃ c, c = roundF r := ⟨_, rfl⟩
  rw [← hc] at h0 hrd ⊢
  have t0 : (c != 0) = true := by simp [h0]
  clear hc h0
  show Calls Tryd.prog 20 #[.agg #[.int .i64 (s 0), .int .i64 (s 1), .int .i64 (s 2), .int .i64 (s 3), .int .i64 (s 4), .int .i64 (s 5), .int .i64 (s 6), .int .i64 (s 7), .int .i64 (s 8), .int .i64 (s 9)], _] w _
  go_enter Tryd.func20, Tryd.ntmps20
  go_wp2_with fail
  obtain ⟨W0, e0⟩ : ∃ W0, W0 = (w.alloc (.cells #[.int .i64 (s 0), .int .i64 (s 1), .int .i64 (s 2), .int .i64 (s 3), .int .i64 (s 4), .int .i64 (s 5), .int .i64 (s 6), .int .i64 (s 7), .int .i64 (s 8), .int .i64 (s 9)] 38)).alloc (.cells #[.int .i64 0, .int .i64 0, .int .i64 0, .int .i64 0, .int .i64 0, .int .i64 0, .int .i64 0, .int .i64 0, .int .i64 0, .int .i64 0] 38) := ⟨_, rfl⟩
  rw [← e0]
  have hB0 : Below w.heap.size w W0 := by rw [e0]; exact ((Below.refl _ _).alloc (Nat.le_refl _) _).alloc (by simp) _
  have hsz : W0.heap.size = w.heap.size + 2 := by rw [e0]; simp
  have hY0 : Box W0 (w.heap.size + 1) (fun _ => 0) := by rw [e0]; exact lt10 (by go_simp) (by go_simp) (by go_simp) (by go_simp) (by go_simp) (by go_simp) (by go_simp) (by go_simp) (by go_simp) (by go_simp)
  have hf1 : ∀ o, W0.frozen? ⟨w.heap.size + 1, o, none⟩ = false := fun o => by rw [e0]; go_simp
  clear e0
  refine (hrd _ (hr.later hB0) (hL.later hB0)).mono ?_
  rintro e w1 ⟨rfl, hb1⟩
  have hB1 : Below w.heap.size w w1 := hB0.trans (hb1.mono (by omega))
  obtain ⟨y0, y1, y2, y3, y4, y5, y6, y7, y8, y9⟩ := (hY0.later hb1).ten
  have u1 : ∀ o, w1.frozen? ⟨w.heap.size + 1, o, none⟩ = false := fun o => by rw [hb1.frozen (p := ⟨w.heap.size + 1, o, none⟩) hY0.lt]; exact hf1 o
  clear hb1 hY0 hf1 hB0 hrd
  go_wp2_with fail
  exact bodyPost_ret (v := .tuple #[stV (fun _ => 0), .slice none 0 0, .int .i64 c]) (by simp [results, Tryd.results20, go_sem, stV, y0, y1, y2, y3, y4, y5, y6, y7, y8, y9]) rfl ⟨rfl, below_store hB1 (b := w.heap.size + 1) (by omega) _ _ _ _ _ _ _ _ _ _⟩
end Go.Proofs.YtlhikmgjcgfohaaDoor
