/-
  The walk of round.Run.
-/
import Derived.Test.YtihfjmdjjeciiacDoorRndDJ
import Derived.Test.YtihfjmdjjeciiacDoorRndEJ
namespace Go.Proofs.YtihfjmdjjeciiacDoor
open Go.RowKit Go.Shelf

theorem state_end {w : World} {c : Nat → Nat} {N E B : Nat} {vW : Value} {C : Nat → Nat} {U : Nat → Value} {s : Nat → Int} {r : List (List Op5)} {X : Nat → Wk} {T : Nat → List Slot4} (h : RdIn w c N E B vW C U s r X T) (ha : ∀ q, q < r.length → (X q).over = true) :
    Calls Tryd.prog 83 #[.pointer (some ⟨B, 0, none⟩)] w fun e w' => e = .returned (stV (allSt s r)) ∧ Below w.heap.size w w' := by
  refine (state_any B T w h.at'.tab h.ord.known).mono ?_
  rintro e w' ⟨rfl, hb⟩
  exact ⟨ret_st fun k hk => h.ord.value h.ck ha k hk, hb⟩

theorem results_end {w : World} {c : Nat → Nat} {N E B : Nat} {vW : Value} {C : Nat → Nat} {U : Nat → Value} {s : Nat → Int} {r : List (List Op5)} {X : Nat → Wk} {T : Nat → List Slot4} (h : RdIn w c N E B vW C U s r X T) (ha : ∀ q, q < r.length → (X q).over = true) :
    Calls Tryd.prog 84 #[.pointer (some ⟨E, 0, none⟩)] w fun e w' => e = .returned (.slice (some ⟨w.heap.size, 0, none⟩) r.length r.length) ∧ w'.ownsRow w.heap.size 110 5 (.slice (some ⟨w.heap.size, 0, none⟩) r.length r.length) r.length (outCells s r r.length) ∧ Below w.heap.size w w' := by
  have := results_any h
  rw [h.ord.cells ha r.length (Nat.le_refl _)] at this
  exact this
theorem owns_base {w : World} {base base' : Nat} {e : TypeId} {size : Nat} {v : Value} {n : Nat} {xs : List Value} (h : w.ownsRow base e size v n xs) (hb : base' ≤ base) : w.ownsRow base' e size v n xs := by
  refine ⟨h.1, ?_⟩
  rcases h.2 with hn | ⟨g, cap, cur, hv, hbase, rest⟩
  · exact .inl hn
  · exact .inr ⟨g, cap, cur, hv, Nat.le_trans hb hbase, rest⟩
theorem owns_store {w : World} {base : Nat} {e : TypeId} {size : Nat} {v : Value} {n : Nat} {xs : List Value} (h : w.ownsRow base e size v n xs) {b : Nat} (hb : b < base) (x0 x1 x2 x3 x4 x5 x6 x7 x8 x9 : Value) : ((((((((((w.setCell ⟨b, 0, none⟩ x0).setCell ⟨b, 1, none⟩ x1).setCell ⟨b, 2, none⟩ x2).setCell ⟨b, 3, none⟩ x3).setCell ⟨b, 4, none⟩ x4).setCell ⟨b, 5, none⟩ x5).setCell ⟨b, 6, none⟩ x6).setCell ⟨b, 7, none⟩ x7).setCell ⟨b, 8, none⟩ x8).setCell ⟨b, 9, none⟩ x9).ownsRow base e size v n xs :=
  ownsRow_setCell_below (ownsRow_setCell_below (ownsRow_setCell_below (ownsRow_setCell_below (ownsRow_setCell_below (ownsRow_setCell_below (ownsRow_setCell_below (ownsRow_setCell_below (ownsRow_setCell_below (ownsRow_setCell_below (h) (a := ⟨b, 0, none⟩) hb x0) (a := ⟨b, 1, none⟩) hb x1) (a := ⟨b, 2, none⟩) hb x2) (a := ⟨b, 3, none⟩) hb x3) (a := ⟨b, 4, none⟩) hb x4) (a := ⟨b, 5, none⟩) hb x5) (a := ⟨b, 6, none⟩) hb x6) (a := ⟨b, 7, none⟩) hb x7) (a := ⟨b, 8, none⟩) hb x8) (a := ⟨b, 9, none⟩) hb x9

/-- The first world of Run. -/
theorem run_open (w : World) (s : Nat → Int) : ∃ W0, W0 = ((w.alloc (.cells #[.int .i64 (s 0), .int .i64 (s 1), .int .i64 (s 2), .int .i64 (s 3), .int .i64 (s 4), .int .i64 (s 5), .int .i64 (s 6), .int .i64 (s 7), .int .i64 (s 8), .int .i64 (s 9)] 71)).alloc (.cells #[.int .i64 0, .int .i64 0, .int .i64 0, .int .i64 0, .int .i64 0, .int .i64 0, .int .i64 0, .int .i64 0, .int .i64 0, .int .i64 0] 71)) ∧ Below w.heap.size w W0 ∧ W0.heap.size = w.heap.size + 2 ∧ Box W0 w.heap.size s ∧ Box W0 (w.heap.size + 1) (fun _ => 0) ∧ (∀ o, W0.frozen? ⟨w.heap.size + 1, o, none⟩ = false) := by
  refine ⟨_, rfl, ((Below.refl _ _).alloc (Nat.le_refl _) _).alloc (by simp) _, by simp, ?_, ?_, fun o => by go_simp⟩
  · exact lt10 (by go_simp) (by go_simp) (by go_simp) (by go_simp) (by go_simp) (by go_simp) (by go_simp) (by go_simp) (by go_simp) (by go_simp)
  · exact lt10 (by go_simp) (by go_simp) (by go_simp) (by go_simp) (by go_simp) (by go_simp) (by go_simp) (by go_simp) (by go_simp) (by go_simp)

set_option maxRecDepth 100000 in
set_option maxHeartbeats 2000000 in
theorem run_good (v : Value) (r : List (List Op5)) (s : Nat → Int) (a : Option Addr) (cap : Nat) (l : List Int) (w : World) (hr : RoundAt w v r) (hf : Fits r) (h0 : roundF r = 0) (hL : Lim w) (hl : NumsAt w (.slice a l.length cap) l) (h300 : l.length ≤ 300) :
    Calls Tryd.prog 72 #[stV s, v, .slice a l.length cap] w fun e w' => ∃ G, e = .returned (.tuple #[stV (allSt s r), .slice (some ⟨G, 0, none⟩) r.length r.length, .int .i64 0]) ∧ w'.ownsRow w.heap.size 110 5 (.slice (some ⟨G, 0, none⟩) r.length r.length) r.length (outCells s r r.length) ∧ Below w.heap.size w w' := by
  obtain ⟨W0, e0, hB0, hsz, hX0, hY0, hf0⟩ := run_open w s
  have hnew := round_new v r s W0 (hr.later hB0) hf h0 (hL.later hB0)
  have HNums : Hid (∀ w', Below w.heap.size w w' → NumsAt w' (.slice a l.length cap) l) := fun w' hb => by
    obtain ⟨a', cap', e1, hc⟩ := hl
    cases e1
    exact ⟨a, cap, rfl, fun i hi => by obtain ⟨b, off, e, h1⟩ := hc i hi; exact ⟨b, off, e, cell_later hb h1⟩⟩
  have HLow : Hid (∀ b off i, a = some ⟨b, off, none⟩ → i < l.length → b < W0.heap.size) := fun b off i e hi => by
    obtain ⟨a', cap', e1, hc⟩ := hl
    cases e1
    obtain ⟨b', off', e', h1⟩ := hc i hi
    rw [e] at e'; cases e'
    have := World.block_lt_of_cell? w _ h1
    dsimp only at this
    omega
  clear hl
  obtain ⟨ra, rcap, rfl, -⟩ := hr
  have hli : ¬ (300 : Int) < (l.length : Int) := by omega
  obtain ⟨k0, k1, k2, k3, k4, k5, k6, k7, k8, k9⟩ := hX0.ten
  show Calls Tryd.prog 72 #[.agg #[.int .i64 (s 0), .int .i64 (s 1), .int .i64 (s 2), .int .i64 (s 3), .int .i64 (s 4), .int .i64 (s 5), .int .i64 (s 6), .int .i64 (s 7), .int .i64 (s 8), .int .i64 (s 9)], _, _] w _
  go_enter Tryd.func72, Tryd.ntmps72
  go_wp2_with fail
  rw [← e0]
  clear e0
  refine hnew.mono ?_
  clear hnew k0 k1 k2 k3 k4 k5 k6 k7 k8 k9 hX0
  rintro e w1 ⟨c, E, B, vW, C, U, rfl, h1, hb1⟩
  have hfl := follow_any h1 (HNums.out _ (hB0.trans (hb1.mono hB0.size))) HLow.out (by omega)
  go_wp2_with fail
  refine hfl.mono ?_
  clear hfl HNums HLow
  rintro e w2 ⟨rfl, X2, T2, h2, hg2⟩
  have hb2 := h1.below hg2 hb1 (Nat.le_refl _) hb1.size
  clear h1 hb1 hg2
  have hfi := finish_any h2
  go_wp2_with fail
  refine hfi.mono ?_
  clear hfi
  rintro e w3 ⟨rfl, X3, T3, h3, hg3, ha3⟩
  have hb3 := h2.below hg3 hb2 (Nat.le_refl _) hb2.size
  clear h2 hb2 hg3
  have hst := state_end h3 ha3
  have q0 := h3.at'.ft
  go_wp2_with fail
  refine hst.mono ?_
  clear hst q0
  rintro e w4 ⟨he, hb4⟩
  have hre := results_end (h3.later hb4) ha3
  have hB4 : Below W0.heap.size W0 w4 := hb3.trans (hb4.mono hb3.size)
  obtain ⟨y, hy⟩ : ∃ y, y = allSt s r := ⟨_, rfl⟩
  obtain ⟨oc, hoc⟩ : ∃ oc, oc = outCells s r r.length := ⟨_, rfl⟩
  rw [← hy] at he
  rw [← hoc] at hre
  have HY : Hid (y = allSt s r) := hy
  have HOC : Hid (oc = outCells s r r.length) := hoc
  simp only [stV] at he
  subst he
  clear hy hoc hb3 hb4 h3 ha3
  go_wp2_with fail
  refine hre.mono ?_
  clear hre
  rintro e w5 ⟨rfl, hO, hb5⟩
  have hB5 : Below W0.heap.size W0 w5 := hB4.trans (hb5.mono hB4.size)
  have hz4 : W0.heap.size ≤ w4.heap.size := hB4.size
  have hY5 := hY0.later hB5
  have hBw : Below w.heap.size w w5 := hB0.trans (hB5.mono hB0.size)
  obtain ⟨y0, y1, y2, y3, y4, y5, y6, y7, y8, y9⟩ := hY5.ten
  have hf5 : ∀ o, w5.frozen? ⟨w.heap.size + 1, o, none⟩ = false := fun o => by rw [hB5.frozen (p := ⟨w.heap.size + 1, o, none⟩) (by simp; omega)]; exact hf0 o
  have HO : Hid _ := hO
  clear hB4 hb5 hB5 hY5 hY0 hf0 hO hB0
  go_wp2_with fail
  exact bodyPost_ret (v := .tuple #[stV y, .slice (some ⟨w4.heap.size, 0, none⟩) r.length r.length, .int .i64 0]) (by simp [results, Tryd.results72, go_sem, stV, y0, y1, y2, y3, y4, y5, y6, y7, y8, y9]) rfl ⟨w4.heap.size, by rw [HY.out], HOC.out ▸ owns_base (owns_store HO.out (b := w.heap.size + 1) (by omega) _ _ _ _ _ _ _ _ _ _) (by omega), below_ten hBw (by omega) _ _ _ _ _ _ _ _ _ _⟩
end Go.Proofs.YtihfjmdjjeciiacDoor
