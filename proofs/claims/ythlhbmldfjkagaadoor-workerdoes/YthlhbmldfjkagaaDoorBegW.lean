/-
  The walk of workerBegun: two workers on one table.
-/
import Derived.Test.YthlhbmldfjkagaaDoorWorkN
import Derived.Test.YthlhbmldfjkagaaDoorWorkD
namespace Go.Proofs.YthlhbmldfjkagaaDoor
open Go.RowKit Go.Shelf

def dW0 : List Op5 := [⟨1, 0, 0, 0, 5⟩, ⟨7, 2, 0, 0, 0⟩]
def dW1 : List Op5 := [⟨2, 0, 2, 0, 0⟩]
def rW : List (List Op5) := [dW0, dW1]
def tW : Nat → List Slot4 := newF (fun _ => 0) rW
theorem roundW : roundF rW = 0 := by decide
theorem checkW0 : (checkF dW0).1 = 0 := by decide
theorem checkW1 : (checkF dW1).1 = 0 := by decide
theorem fitsW : Fits rW := ⟨by simp [rW], fun i hi => by
  have : i = 0 ∨ i = 1 := by simp [rW] at hi; omega
  rcases this with rfl | rfl <;> simp [rW, dW0, dW1]⟩
/-- The first worker's steps. -/
def iterW : Nat → StepOut
  | 0 => ⟨0, 0, wk0, tW⟩
  | j + 1 => stepW (iterW j).T dW0 0 (iterW j).x
def lastW1 : StepOut := stepW (iterW 3).T dW1 1 wk0
def lastW2 : StepOut := stepW lastW1.T dW1 1 lastW1.x
theorem wW1 : (stepW tW dW1 1 wk0).what = 2 ∧ (stepW tW dW1 1 wk0).who = 0 := by decide
theorem wW1' : (stepW tW dW1 1 wk0).x = wk0 ∧ (stepW tW dW1 1 wk0).T = tW := ⟨rfl, rfl⟩
theorem wW2 : lastW1.what = 1 := by decide
theorem wW3 : lastW2.what = 3 ∧ lastW2.x.over = true ∧ lastW2.x.regs 0 = 5 := by decide

structure TwoAt (w a : World) (N B C1 C2 : Nat) (u1 u2 : Value) (x1 x2 : Wk) (T : Nat → List Slot4) : Prop where
  tab : TabAt w B T
  w1 : WorkAt w C1 u1 0 x1
  w2 : WorkAt w C2 u2 1 x2
  d1 : DeedIn (fun g => g ≠ B ∧ g ≠ C1 ∧ g ≠ C2) w u1 dW0
  d2 : DeedIn (fun g => g ≠ B ∧ g ≠ C1 ∧ g ≠ C2) w u2 dW1
  ne : C1 ≠ B ∧ C2 ≠ B ∧ C1 ≠ C2
  lo : N ≤ B ∧ N ≤ C1 ∧ N ≤ C2
  be : Below N a w
  sz : N ≤ w.heap.size
  g1 : WellW dW0 x1
  g2 : WellW dW1 x2
theorem TwoAt.later {w w' a : World} {N B C1 C2 : Nat} {u1 u2 : Value} {x1 x2 : Wk} {T : Nat → List Slot4} (h : TwoAt w a N B C1 C2 u1 u2 x1 x2 T) (hb : Below w.heap.size w w') : TwoAt w' a N B C1 C2 u1 u2 x1 x2 T :=
  ⟨h.tab.later hb, h.w1.later hb, h.w2.later hb, h.d1.later hb, h.d2.later hb, h.ne, h.lo, h.be.trans (hb.mono h.sz), Nat.le_trans h.sz hb.size, h.g1, h.g2⟩
theorem TwoAt.step1 {w a : World} {N B C1 C2 : Nat} {u1 u2 : Value} {x1 x2 : Wk} {T : Nat → List Slot4} (h : TwoAt w a N B C1 C2 u1 u2 x1 x2 T) :
    Calls Tryd.prog 50 #[.pointer (some ⟨C1, 0, none⟩), .pointer (some ⟨B, 0, none⟩)] w fun e w' => e = .returned (.tuple #[.int .i64 (stepW T dW0 0 x1).what, .int .i64 (stepW T dW0 0 x1).who]) ∧ TwoAt w' a N B C1 C2 u1 u2 (stepW T dW0 0 x1).x x2 (stepW T dW0 0 x1).T := by
  refine (stepWk_any C1 B u1 0 dW0 x1 T w h.w1 h.tab h.ne.1 h.d1.at checkW0 h.g1).mono ?_
  rintro e w' ⟨he, hx, hT, hg⟩
  exact ⟨he, hT, hx, h.w2.grew hg (fun e => by have := h.ne; rcases e with e | e <;> omega), h.d1.grew hg (fun b hb e => by rcases e with e | e <;> omega), h.d2.grew hg (fun b hb e => by rcases e with e | e <;> omega), h.ne, h.lo, hg.below h.be h.sz (fun k e => by have := h.lo; rcases e with e | e <;> omega), Nat.le_trans h.sz hg.size, h.g1.step checkW0 T 0, h.g2⟩
theorem TwoAt.step2 {w a : World} {N B C1 C2 : Nat} {u1 u2 : Value} {x1 x2 : Wk} {T : Nat → List Slot4} (h : TwoAt w a N B C1 C2 u1 u2 x1 x2 T) :
    Calls Tryd.prog 50 #[.pointer (some ⟨C2, 0, none⟩), .pointer (some ⟨B, 0, none⟩)] w fun e w' => e = .returned (.tuple #[.int .i64 (stepW T dW1 1 x2).what, .int .i64 (stepW T dW1 1 x2).who]) ∧ TwoAt w' a N B C1 C2 u1 u2 x1 (stepW T dW1 1 x2).x (stepW T dW1 1 x2).T := by
  refine (stepWk_any C2 B u2 1 dW1 x2 T w h.w2 h.tab h.ne.2.1 h.d2.at checkW1 h.g2).mono ?_
  rintro e w' ⟨he, hx, hT, hg⟩
  exact ⟨he, hT, h.w1.grew hg (fun e => by have := h.ne; rcases e with e | e <;> omega), hx, h.d1.grew hg (fun b hb e => by rcases e with e | e <;> omega), h.d2.grew hg (fun b hb e => by rcases e with e | e <;> omega), h.ne, h.lo, hg.below h.be h.sz (fun k e => by have := h.lo; rcases e with e | e <;> omega), Nat.le_trans h.sz hg.size, h.g1, h.g2.step checkW1 T 1⟩

theorem two_first {w w1 w2 w3 : World} {N B C1 C2 : Nat} {u1 u2 : Value} (hB1 : Below N w w1) (hz : N ≤ w1.heap.size) (hT : TabAt w1 B tW) (hN : N ≤ B) (hC1 : w1.heap.size ≤ C1) (hK1 : WorkAt w2 C1 u1 0 wk0) (hD1 : DeedIn (fun g => w1.heap.size ≤ g ∧ g ≠ C1) w2 u1 dW0) (hb2 : Below w1.heap.size w1 w2)
    (hC2 : w2.heap.size ≤ C2) (hK2 : WorkAt w3 C2 u2 1 wk0) (hD2 : DeedIn (fun g => w2.heap.size ≤ g ∧ g ≠ C2) w3 u2 dW1) (hb3 : Below w2.heap.size w2 w3) : TwoAt w3 w N B C1 C2 u1 u2 wk0 wk0 tW := by
  have h1 := hT.lt
  have h2 := hK1.lt
  have z2 := hb2.size
  have z3 := hb3.size
  exact ⟨(hT.later hb2).later hb3, hK1.later hb3, hK2, (hD1.mono fun b hb h => ⟨by omega, by omega, by omega⟩).later hb3, hD2.mono fun b hb h => ⟨by omega, by omega, by omega⟩, ⟨by omega, by omega, by omega⟩, ⟨hN, by omega, by omega⟩, (hB1.trans (hb2.mono hz)).trans (hb3.mono (by omega)), by omega, wk0_well _, wk0_well _⟩

theorem roundAtW (w : World) : RoundAt (((w.alloc (.cells #[.int .i64 1, .int .i64 0, .int .i64 0, .int .i64 0, .int .i64 5, .int .i64 7, .int .i64 2, .int .i64 0, .int .i64 0, .int .i64 0] 34)).alloc (.cells #[.int .i64 2, .int .i64 0, .int .i64 2, .int .i64 0, .int .i64 0] 34)).alloc (.cells #[.slice (some ⟨w.heap.size, 0, none⟩) 2 2, .slice (some ⟨w.heap.size + 1, 0, none⟩) 1 1] 32)) (.slice (some ⟨w.heap.size + 1 + 1, 0, none⟩) 2 2) rW := by
  refine ⟨_, 2, rfl, fun i hi => ?_⟩
  have : i = 0 ∨ i = 1 := by simp [rW] at hi; omega
  rcases this with rfl | rfl
  · refine ⟨w.heap.size + 1 + 1, 0, rfl, .slice (some ⟨w.heap.size, 0, none⟩) 2 2, by go_simp, ?_⟩
    refine ⟨_, 2, rfl, fun i hi => ?_⟩
    have : i = 0 ∨ i = 1 := by simp [rW, dW0] at hi; omega
    rcases this with rfl | rfl
    · refine ⟨w.heap.size, 0, rfl, ?_, ?_, ?_, ?_, ?_⟩ <;> go_simp <;> simp [rW, dW0]
    · refine ⟨w.heap.size, 0, rfl, ?_, ?_, ?_, ?_, ?_⟩ <;> go_simp <;> simp [rW, dW0]
  · refine ⟨w.heap.size + 1 + 1, 0, rfl, .slice (some ⟨w.heap.size + 1, 0, none⟩) 1 1, by go_simp, ?_⟩
    refine ⟨_, 1, rfl, fun i hi => ?_⟩
    obtain rfl : i = 0 := by simp [rW, dW1] at hi; omega
    refine ⟨w.heap.size + 1, 0, rfl, ?_, ?_, ?_, ?_, ?_⟩ <;> go_simp <;> simp [rW, dW1]

set_option maxRecDepth 100000 in
set_option maxHeartbeats 2000000 in
theorem begunW_any (w : World) (hL : Lim w) : Calls Tryd.prog 47 #[] w fun e w' => e = .returned (.bool true) ∧ Below w.heap.size w w' := by
  obtain ⟨W0, e0⟩ : ∃ W0, W0 = ((w.alloc (.cells #[.int .i64 1, .int .i64 0, .int .i64 0, .int .i64 0, .int .i64 5, .int .i64 7, .int .i64 2, .int .i64 0, .int .i64 0, .int .i64 0] 34)).alloc (.cells #[.int .i64 2, .int .i64 0, .int .i64 2, .int .i64 0, .int .i64 0] 34)).alloc (.cells #[.slice (some ⟨w.heap.size, 0, none⟩) 2 2, .slice (some ⟨w.heap.size + 1, 0, none⟩) 1 1] 32) := ⟨_, rfl⟩
  have hB0 : Below w.heap.size w W0 := by rw [e0]; exact (((Below.refl _ _).alloc (Nat.le_refl _) _).alloc (by simp) _).alloc (by simp; omega) _
  have hR0 : RoundAt W0 (.slice (some ⟨w.heap.size + 1 + 1, 0, none⟩) 2 2) rW := by rw [e0]; exact roundAtW w
  have q0 : W0.cell? ⟨w.heap.size + 1 + 1, 0, none⟩ = some (.slice (some ⟨w.heap.size, 0, none⟩) 2 2) := by rw [e0]; go_simp
  have q1 : W0.cell? ⟨w.heap.size + 1 + 1, 1, none⟩ = some (.slice (some ⟨w.heap.size + 1, 0, none⟩) 1 1) := by rw [e0]; go_simp
  have hd0 : DeedAt W0 (.slice (some ⟨w.heap.size, 0, none⟩) 2 2) dW0 := by
    obtain ⟨a, cap, e, h⟩ := hR0
    obtain ⟨b, off, e1, dv, hc, hd⟩ := h 0 (by simp [rW])
    cases e; cases e1
    rw [Nat.zero_add, q0] at hc; cases hc; exact hd
  have hd1 : DeedAt W0 (.slice (some ⟨w.heap.size + 1, 0, none⟩) 1 1) dW1 := by
    obtain ⟨a, cap, e, h⟩ := hR0
    obtain ⟨b, off, e1, dv, hc, hd⟩ := h 1 (by simp [rW])
    cases e; cases e1
    rw [Nat.zero_add, q1] at hc; cases hc; exact hd
  have hnew : Calls Tryd.prog 31 #[.agg #[.int .i64 0, .int .i64 0, .int .i64 0, .int .i64 0, .int .i64 0, .int .i64 0, .int .i64 0, .int .i64 0, .int .i64 0, .int .i64 0], .slice (some ⟨w.heap.size + 1 + 1, 0, none⟩) 2 2] _ _ := new_good _ rW (fun _ => 0) W0 hR0 fitsW roundW (hL.later hB0)
  go_enter Tryd.func47, Tryd.ntmps47
  go_wp2_with fail
  rw [← e0]
  clear e0 hR0
  refine hnew.mono ?_
  clear hnew
  rintro e w1 ⟨B, rfl, hB, hT, hb1⟩
  have hB1 : Below w.heap.size w w1 := hB0.trans (hb1.mono hB0.size)
  have hBN : w.heap.size ≤ B := Nat.le_trans hB0.size hB
  replace q0 := cell_later hb1 q0
  replace q1 := cell_later hb1 q1
  replace hd0 := hd0.later hb1
  replace hd1 := hd1.later hb1
  clear hB0 hb1 hB
  go_wp2_with fail
  go_cut [4, 5] from 27 (fun c c' wc => ∃ C1 C2 u1 u2, c = .pointer (some ⟨C1, 0, none⟩) ∧ c' = .pointer (some ⟨C2, 0, none⟩) ∧ TwoAt wc w w.heap.size B C1 C2 u1 u2 wk0 wk0 tW)
  case first =>
    have HW0 : Hid (∀ w', Below w1.heap.size w1 w' → Calls Tryd.prog 48 #[.slice (some ⟨w.heap.size, 0, none⟩) 2 2, .int .i64 0] w' fun e w'' => ∃ C u, e = .returned (.pointer (some ⟨C, 0, none⟩)) ∧ w'.heap.size ≤ C ∧ WorkAt w'' C u 0 wk0 ∧ DeedIn (fun g => w'.heap.size ≤ g ∧ g ≠ C) w'' u dW0 ∧ Below w'.heap.size w' w'') := fun w' hb => worker_new _ dW0 0 w' (hd0.later hb) checkW0 (by omega) (hL.later (hB1.trans (hb.mono hB1.size)))
    have HW1 : Hid (∀ w', Below w1.heap.size w1 w' → Calls Tryd.prog 48 #[.slice (some ⟨w.heap.size + 1, 0, none⟩) 1 1, .int .i64 1] w' fun e w'' => ∃ C u, e = .returned (.pointer (some ⟨C, 0, none⟩)) ∧ w'.heap.size ≤ C ∧ WorkAt w'' C u 1 wk0 ∧ DeedIn (fun g => w'.heap.size ≤ g ∧ g ≠ C) w'' u dW1 ∧ Below w'.heap.size w' w'') := fun w' hb => worker_new _ dW1 1 w' (hd1.later hb) checkW1 (by omega) (hL.later (hB1.trans (hb.mono hB1.size)))
    have tok : True := trivial
    go_region_with (go_at_call 48; first | (have _t := tok; refine (HW0.out _ (by first | exact Below.refl _ _ | exact (Below.refl _ _).drew)).mono ?_; rintro e w2 ⟨C1, u1, rfl, hC1, hK1, hD1, hb2⟩; have q1' := cell_later hb2 (show w1.drew.cell? _ = _ from q1); clear tok) | (refine (HW1.out _ (by exact (Below.refl _ _).drew.trans hb2)).mono ?_; rintro e w3 ⟨C2, u2, rfl, hC2, hK2, hD2, hb3⟩))
    all_goals go_wp2_with fail
    all_goals go_meet
    all_goals exact ⟨C1, C2, u1, u2, rfl, rfl, two_first (w1 := w1.drew) hB1.drew hB1.size hT.drew hBN hC1 hK1 hD1 hb2 hC2 hK2 hD2 hb3⟩
  case rest =>
    obtain ⟨C1, C2, u1, u2, rfl, rfl, h2⟩ := hcut
    clear hT q0 q1 hd0 hd1 hB1
    have hs := h2.step2
    rw [wW1.1, wW1.2, wW1'.1, wW1'.2] at hs
    go_wp2_with fail
    refine hs.mono ?_
    clear hs h2
    rintro e w2 ⟨rfl, h2⟩
    go_wp2_with fail
    go_loopg [8] 3 (fun g i wr => ∃ j : Nat, j ≤ 3 ∧ g = 3 - j ∧ i = .int .i64 j ∧ TwoAt wr w w.heap.size B C1 C2 u1 u2 (iterW j).x wk0 (iterW j).T)
    case atStart => exact ⟨0, by omega, by omega, rfl, h2⟩
    case round =>
      clear h2
      obtain ⟨j, hj, hg, rfl, h2⟩ := hrel
      by_cases hlt : j < 3
      · have hji : (j : Int) < 3 := by omega
        have hs := h2.step1
        go_wp2_with fail
        refine hs.mono ?_
        clear hs h2
        rintro e w3 ⟨rfl, h2⟩
        go_wp2_with fail
        go_roundg (3 - (j + 1))
        case measure => omega
        case rel => exact ⟨j + 1, by omega, rfl, by go_num, h2⟩
      · obtain rfl : j = 3 := by omega
        have hs := h2.step2
        change Calls _ _ _ _ (fun e w' => e = .returned (.tuple #[.int .i64 lastW1.what, .int .i64 lastW1.who]) ∧ TwoAt w' w w.heap.size B C1 C2 u1 u2 (iterW 3).x lastW1.x lastW1.T) at hs
        rw [wW2] at hs
        generalize lastW1.who = n1 at hs
        go_wp2_with fail
        refine hs.mono ?_
        clear hs h2
        rintro e w3 ⟨rfl, h2⟩
        have hs := h2.step2
        change Calls _ _ _ _ (fun e w' => e = .returned (.tuple #[.int .i64 lastW2.what, .int .i64 lastW2.who]) ∧ TwoAt w' w w.heap.size B C1 C2 u1 u2 (iterW 3).x lastW2.x lastW2.T) at hs
        rw [wW3.1] at hs
        generalize lastW2.who = n2 at hs
        go_wp2_with fail
        refine hs.mono ?_
        clear hs h2
        rintro e w4 ⟨rfl, h2⟩
        have hs := result_over C2 u2 1 lastW2.x w4 h2.w2 wW3.2.1
        simp only [resV, wW3.2.2] at hs
        generalize lastW2.x.regs 1 = y1 at hs
        generalize lastW2.x.regs 2 = y2 at hs
        generalize lastW2.x.regs 3 = y3 at hs
        generalize lastW2.x.code = y0 at hs
        go_wp2_with fail
        refine hs.mono ?_
        clear hs
        rintro e w5 ⟨rfl, hb5⟩
        have hB5 : Below w.heap.size w w5 := h2.be.trans (hb5.mono h2.sz)
        have hB6 : Below w.heap.size w (w5.alloc (.cells #[.int .i64 y0, .int .i64 5, .int .i64 y1, .int .i64 y2, .int .i64 y3] 43)) := hB5.alloc hB5.size _
        have hnone := worker_none (.slice none 0 0) [] 8 _ ⟨none, 0, rfl, fun i hi => by simp at hi⟩ (by simp) (hL.later hB6) (.inr (.inr (by omega)))
        clear h2 hb5
        go_wp2_with fail
        refine hnone.mono ?_
        clear hnone
        rintro e w6 ⟨rfl, hb6⟩
        go_wp2_with fail
        go_ret
        exact ⟨rfl, hB6.trans (hb6.mono hB6.size)⟩
end Go.Proofs.YthlhbmldfjkagaaDoor
