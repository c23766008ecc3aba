/-
  A round under way as it lies in memory. The walks of a round's has, Len, Pick and Done. The walks of a round's Left and Results. The walks of a round's Finish, of around and follow; what a round is in the end. The walk of round.New. The walk of round.Run.
-/
import Derived.Test.YtehkjbpgibdgpadGreatDoorJqWo
import Derived.Test.YtehkjbpgibdgpadGreatDoorLawQJ
import Derived.Test.YtehkjbpgibdgpadGreatDoorJqMb
import Derived.Laws.OwnMore
import Derived.Maps.AppendAt
namespace Go.Proofs.YtehkjbpgibdgpadGreatDoor
open Go.RowKit Go.Shelf

structure RdAt (w : World) (c : Nat → Nat) (N E B : Nat) (vW : Value) (C : Nat → Nat) (U : Nat → Value) (r : List (List Op5)) (X : Nat → Wk) (T : Nat → List Slot4) : Prop where
  ft : w.cell? ⟨E, 0, none⟩ = some (.pointer (some ⟨B, 0, none⟩))
  fw : w.cell? ⟨E, 1, none⟩ = some vW
  ce : c E = 1
  tab : TabAt w B T
  cB : c B = 2
  ws : WorkersAt w c N vW C U r.length r X
  low : ∀ b, b < N → c b = 0

/-- The blocks that a step of a round may change. -/
def crewS (B : Nat) (C : Nat → Nat) (n : Nat) : Nat → Prop := fun k => k = B ∨ ∃ i, i < n ∧ k = C i

section
variable {w w' a : World} {c : Nat → Nat} {N E B m : Nat} {vW : Value} {C : Nat → Nat} {U : Nat → Value} {r : List (List Op5)} {X : Nat → Wk} {T T' : Nat → List Slot4}

theorem RdAt.later (h : RdAt w c N E B vW C U r X T) (hn : r.length ≤ 8) (hb : Below w.heap.size w w') : RdAt w' c N E B vW C U r X T :=
  ⟨cell_later hb h.ft, cell_later hb h.fw, h.ce, h.tab.later hb, h.cB, h.ws.grew (by omega) (Grew.of_below (S := fun _ => False) hb) (fun _ _ e => e.elim) (fun _ _ => rfl), h.low⟩
theorem RdAt.row (h : RdAt w c N E B vW C U r X T) : ∃ va cap, vW = .slice va r.length cap ∧ ∀ i, i < r.length → ∃ g, va = some ⟨g, 0, none⟩ ∧ w.cell? ⟨g, i, none⟩ = some (.pointer (some ⟨C i, 0, none⟩)) := by
  by_cases hn : 0 < r.length
  · obtain ⟨g, cap, e, hc⟩ := owns_cells h.ws.own hn
    exact ⟨_, cap, e, fun i hi => ⟨g, rfl, hc i _ (ptrs_at C hi)⟩⟩
  · have h0 : r.length = 0 := by omega
    have ho := h.ws.own
    rw [h0] at ho ⊢
    rcases ho.2 with ⟨rfl, -⟩ | ⟨g, cap, cur, rfl, -⟩
    · exact ⟨none, 0, rfl, fun i hi => by omega⟩
    · exact ⟨_, cap, rfl, fun i hi => by omega⟩
theorem RdAt.ne (h : RdAt w c N E B vW C U r X T) {i : Nat} (hi : i < r.length) : C i ≠ B := fun e => by
  have h1 := h.ws.ck i hi
  have h2 := h.cB
  rw [e] at h1; omega
theorem RdAt.lt (h : RdAt w c N E B vW C U r X T) {k : Nat} (hk : crewS B C r.length k) : k < w.heap.size := by
  rcases hk with rfl | ⟨i, hi, rfl⟩
  · exact h.tab.lt
  · exact (h.ws.wk i hi).lt
theorem RdAt.high (h : RdAt w c N E B vW C U r X T) {k : Nat} (hk : crewS B C r.length k) : N ≤ k := by
  rcases Nat.lt_or_ge k N with hlt | hge
  · have h0 := h.low k hlt
    rcases hk with rfl | ⟨i, hi, rfl⟩
    · have := h.cB; omega
    · have := h.ws.ck i hi; omega
  · exact hge
theorem RdAt.below (h : RdAt w c N E B vW C U r X T) (hg : Grew (crewS B C r.length) w w') (ha : Below m a w) (hm : m ≤ N) (hz : m ≤ w.heap.size) : Below m a w' :=
  hg.below ha hz (fun _ e => Nat.le_trans hm (h.high e))
/-- What a step of worker i leaves. -/
theorem RdAt.stepped {x' : Wk} (h : RdAt w c N E B vW C U r X T) {i : Nat} (hi : i < r.length)
    (hx : WorkAt w' (C i) (U i) i x') (hT : TabAt w' B T') (hg : Grew (fun k => k = B ∨ k = C i) w w') : RdAt w' c N E B vW C U r (putW X i x') T' := by
  have hcol : ∀ b, (b = B ∨ b = C i) → c b = 2 ∨ c b = 100 + i := fun b e => by
    rcases e with rfl | rfl
    · exact .inl h.cB
    · exact .inr (h.ws.ck i hi)
  have hE : ¬ (E = B ∨ E = C i) := fun e => by have := hcol E e; have := h.ce; omega
  refine ⟨hg.cell h.ft hE, hg.cell h.fw hE, h.ce, hT, h.cB, ⟨owns_kept h.ws.own fun g hgg => ?_, h.ws.col, fun q hq => ?_, h.ws.ck, fun q hq hr => ?_⟩, h.low⟩
  · have := h.ws.col g hgg
    exact hg.block g (owns_lt h.ws.own hgg).2 (fun e => by have := hcol g e; omega)
  · unfold putW
    by_cases e : q = i
    · subst e; rw [if_pos rfl]; exact hx
    · rw [if_neg e]
      have := h.ws.ck q hq
      exact (h.ws.wk q hq).grew hg (fun e' => by have := hcol _ e'; omega)
  · exact (h.ws.dd q hq hr).grew hg (fun b hb e => by have := hcol b e; omega)
end

/-- A round under way, in order. -/
structure RdIn (w : World) (c : Nat → Nat) (N E B : Nat) (vW : Value) (C : Nat → Nat) (U : Nat → Value) (s : Nat → Int) (r : List (List Op5)) (X : Nat → Wk) (T : Nat → List Slot4) : Prop where
  at' : RdAt w c N E B vW C U r X T
  ord : InOrder s r X T
  ck : ∀ d ∈ r, (checkF d).1 = 0
  le : r.length ≤ 8

section
variable {w w' a : World} {c : Nat → Nat} {N E B m : Nat} {vW : Value} {C : Nat → Nat} {U : Nat → Value} {s : Nat → Int} {r : List (List Op5)} {X : Nat → Wk} {T T' : Nat → List Slot4}

theorem RdIn.later (h : RdIn w c N E B vW C U s r X T) (hb : Below w.heap.size w w') : RdIn w' c N E B vW C U s r X T := ⟨h.at'.later h.le hb, h.ord, h.ck, h.le⟩
theorem RdIn.below (h : RdIn w c N E B vW C U s r X T) (hg : Grew (crewS B C r.length) w w') (ha : Below m a w) (hm : m ≤ N) (hz : m ≤ w.heap.size) : Below m a w' := h.at'.below hg ha hm hz
/-- A step of worker i. -/
theorem RdIn.step (h : RdIn w c N E B vW C U s r X T) {i : Nat} (hi : i < r.length) :
    Calls Tryz.prog 184 #[.pointer (some ⟨C i, 0, none⟩), .pointer (some ⟨B, 0, none⟩)] w fun e w' => e = .returned (.tuple #[.int .i64 (stepW T r[i] (i : Int) (X i)).what, .int .i64 (stepW T r[i] (i : Int) (X i)).who]) ∧ RdIn w' c N E B vW C U s r (putW X i (stepW T r[i] (i : Int) (X i)).x) (stepW T r[i] (i : Int) (X i)).T ∧ Grew (crewS B C r.length) w w' := by
  refine (stepWk_any (C i) B (U i) i r[i] (X i) T w (h.at'.ws.wk i hi) h.at'.tab (h.at'.ne hi) (h.at'.ws.dd i hi hi).at (h.ck _ (List.getElem_mem hi)) (h.ord.ok.well i hi)).mono ?_
  rintro e w' ⟨he, hx, hT, hg⟩
  exact ⟨he, ⟨h.at'.stepped hi hx hT hg, h.ord.step h.ck hi, h.ck, h.le⟩, hg.mono fun k e => by
    rcases e with e | e
    · exact .inl e
    · exact .inr ⟨i, hi, e⟩⟩
end

/-- What is told of worker i. -/
theorem RdIn.result {w : World} {c : Nat → Nat} {N E B : Nat} {vW : Value} {C : Nat → Nat} {U : Nat → Value} {s : Nat → Int} {r : List (List Op5)} {X : Nat → Wk} {T : Nat → List Slot4} (h : RdIn w c N E B vW C U s r X T) {i : Nat} (hi : i < r.length) :
    Calls Tryz.prog 177 #[.pointer (some ⟨C i, 0, none⟩)] w fun e w' => e = .returned (.tuple #[.agg #[.int .i64 (resC (X i)), .int .i64 (resG (X i) 0), .int .i64 (resG (X i) 1), .int .i64 (resG (X i) 2), .int .i64 (resG (X i) 3)], .bool (X i).over]) ∧ Below w.heap.size w w' :=
  result_any (C i) (U i) i (X i) w (h.at'.ws.wk i hi)
end Go.Proofs.YtehkjbpgibdgpadGreatDoor
namespace Go.Proofs.YtehkjbpgibdgpadGreatDoor
open Go.RowKit Go.Shelf

section
variable {w : World} {c : Nat → Nat} {N E B : Nat} {vW : Value} {C : Nat → Nat} {U : Nat → Value} {s : Nat → Int} {r : List (List Op5)} {X : Nat → Wk} {T : Nat → List Slot4}

theorem has_in (h : RdIn w c N E B vW C U s r X T) {i : Nat} (hi : i < r.length) :
    Calls Tryz.prog 183 #[.pointer (some ⟨E, 0, none⟩), .int .i64 (i : Int)] w fun e w' => e = .returned (.bool true) ∧ w' = w := by
  obtain ⟨va, cap, rfl, -⟩ := h.at'.row
  have q1 := h.at'.fw
  have hi' : (i : Int) < (r.length : Int) := by omega
  have h8 := h.le
  clear h
  go_enter Tryz.func183, Tryz.ntmps183
  go_wp2_with fail
  go_ret
  exact ⟨rfl, rfl⟩
theorem has_out (h : RdIn w c N E B vW C U s r X T) {b : Int} (hb : b < 0 ∨ (r.length : Int) ≤ b) :
    Calls Tryz.prog 183 #[.pointer (some ⟨E, 0, none⟩), .int .i64 b] w fun e w' => e = .returned (.bool false) ∧ w' = w := by
  obtain ⟨va, cap, rfl, -⟩ := h.at'.row
  have q1 := h.at'.fw
  have h8 := h.le
  clear h
  by_cases h0 : b < 0
  · have h0' : ¬ 0 ≤ b := by omega
    go_enter Tryz.func183, Tryz.ntmps183
    go_wp2_with fail
    go_ret
    exact ⟨rfl, rfl⟩
  · have h0' : 0 ≤ b := by omega
    have h1 : ¬ b < (r.length : Int) := by omega
    clear h0 hb
    go_enter Tryz.func183, Tryz.ntmps183
    go_wp2_with fail
    go_ret
    exact ⟨rfl, rfl⟩

theorem len_any (h : RdIn w c N E B vW C U s r X T) :
    Calls Tryz.prog 174 #[.pointer (some ⟨E, 0, none⟩)] w fun e w' => e = .returned (.int .i64 (r.length : Int)) ∧ w' = w := by
  obtain ⟨va, cap, rfl, -⟩ := h.at'.row
  have q1 := h.at'.fw
  have h8 := h.le
  clear h
  go_enter Tryz.func174, Tryz.ntmps174
  go_wp2_with fail
  go_ret
  exact ⟨rfl, rfl⟩

set_option maxHeartbeats 1000000 in
theorem pick_in (h : RdIn w c N E B vW C U s r X T) {i : Nat} (hi : i < r.length) :
    Calls Tryz.prog 172 #[.pointer (some ⟨E, 0, none⟩), .int .i64 (i : Int)] w fun e w' => e = .returned (.tuple #[.int .i64 (stepW T r[i] (i : Int) (X i)).what, .int .i64 (stepW T r[i] (i : Int) (X i)).who]) ∧ RdIn w' c N E B vW C U s r (putW X i (stepW T r[i] (i : Int) (X i)).x) (stepW T r[i] (i : Int) (X i)).T ∧ Grew (crewS B C r.length) w w' := by
  have hhas := has_in h hi
  obtain ⟨va, cap, rfl, hrow⟩ := h.at'.row
  obtain ⟨g, rfl, q2⟩ := hrow i hi
  have q1 := h.at'.fw
  have q0 := h.at'.ft
  have hi' : (i : Int) < (r.length : Int) := by omega
  have h8 := h.le
  have HST : Hid (∀ w', Below w.heap.size w w' → Calls Tryz.prog 184 #[.pointer (some ⟨C i, 0, none⟩), .pointer (some ⟨B, 0, none⟩)] w' fun e w'' => e = .returned (.tuple #[.int .i64 (stepW T r[i] (i : Int) (X i)).what, .int .i64 (stepW T r[i] (i : Int) (X i)).who]) ∧ RdIn w'' c N E B (.slice (some ⟨g, 0, none⟩) r.length cap) C U s r (putW X i (stepW T r[i] (i : Int) (X i)).x) (stepW T r[i] (i : Int) (X i)).T ∧ Grew (crewS B C r.length) w w'') := fun w' hb => by
    refine ((h.later hb).step hi).mono ?_
    rintro e w'' ⟨he, h2, hg⟩
    exact ⟨he, h2, (Grew.of_below hb).trans hg⟩
  clear h hrow
  generalize (stepW T r[i] (i : Int) (X i)).x = x' at *
  generalize (stepW T r[i] (i : Int) (X i)).T = T' at *
  generalize (stepW T r[i] (i : Int) (X i)).what = wt at *
  generalize (stepW T r[i] (i : Int) (X i)).who = wo at *
  go_enter Tryz.func172, Tryz.ntmps172
  go_wp2_with fail
  refine hhas.mono ?_
  rintro e w1 ⟨rfl, rfl⟩
  clear hhas
  go_wp2_with fail
  go_region_with (go_at_call 184; refine (HST.out _ (by first | exact (Below.refl _ _).drew | exact Below.refl _ _)).mono ?_; rintro e w2 ⟨rfl, h2, hg⟩)
  all_goals go_wp2_with fail
  all_goals exact bodyPost_ret (v := .tuple #[.int .i64 wt, .int .i64 wo]) (by simp [results, Tryz.results172, go_sem]) rfl ⟨rfl, h2, hg⟩
theorem pick_out (h : RdIn w c N E B vW C U s r X T) {b : Int} (hb : b < 0 ∨ (r.length : Int) ≤ b) :
    Calls Tryz.prog 172 #[.pointer (some ⟨E, 0, none⟩), .int .i64 b] w fun e w' => e = .returned (.tuple #[.int .i64 0, .int .i64 (-1)]) ∧ w' = w := by
  have hhas := has_out h hb
  clear h hb
  go_enter Tryz.func172, Tryz.ntmps172
  go_wp2_with fail
  refine hhas.mono ?_
  rintro e w1 ⟨rfl, rfl⟩
  go_wp2_with fail
  exact bodyPost_ret (v := .tuple #[.int .i64 0, .int .i64 (-1)]) (by simp [results, Tryz.results172, go_sem]) rfl ⟨rfl, rfl⟩
theorem pick_any (h : RdIn w c N E B vW C U s r X T) (b : Int) :
    Calls Tryz.prog 172 #[.pointer (some ⟨E, 0, none⟩), .int .i64 b] w fun e w' => ∃ (x y : Int) (X' : Nat → Wk) (T' : Nat → List Slot4), e = .returned (.tuple #[.int .i64 x, .int .i64 y]) ∧ RdIn w' c N E B vW C U s r X' T' ∧ Grew (crewS B C r.length) w w' := by
  by_cases hb : b < 0 ∨ (r.length : Int) ≤ b
  · refine (pick_out h hb).mono ?_
    rintro e w' ⟨rfl, rfl⟩
    exact ⟨_, _, X, T, rfl, h, Grew.refl _ _⟩
  · obtain ⟨i, rfl⟩ : ∃ i : Nat, b = i := ⟨b.toNat, by omega⟩
    refine (pick_in h (i := i) (by omega)).mono ?_
    rintro e w' ⟨rfl, h2, hg⟩
    exact ⟨_, _, _, _, rfl, h2, hg⟩


end
end Go.Proofs.YtehkjbpgibdgpadGreatDoor
namespace Go.Proofs.YtehkjbpgibdgpadGreatDoor
open Go.RowKit Go.Shelf

/-- Those that are not over. -/
def leftL (X : Nat → Wk) (n : Nat) : List Nat := (List.range n).filter fun i => !(X i).over

section
variable {w : World} {c : Nat → Nat} {N E B : Nat} {vW : Value} {C : Nat → Nat} {U : Nat → Value} {s : Nat → Int} {r : List (List Op5)} {X : Nat → Wk} {T : Nat → List Slot4}



/-- What the first n deeds came to, cell by cell. -/
def resW (X : Nat → Wk) : Nat → List Value
  | 0 => []
  | n + 1 => resW X n ++ [.int .i64 (resC (X n)), .int .i64 (resG (X n) 0), .int .i64 (resG (X n) 1), .int .i64 (resG (X n) 2), .int .i64 (resG (X n) 3)]
theorem resW_length (X : Nat → Wk) (n : Nat) : (resW X n).length = n * 5 := by
  induction n with
  | zero => rfl
  | succ n ih => simp only [resW, List.length_append, ih, List.length_cons, List.length_nil]; omega
/-- Five cells set, one behind the other. -/
theorem take_set5 (xs : List Value) (a : Nat) (h : a + 5 ≤ xs.length) (v0 v1 v2 v3 v4 : Value) :
    (((((xs.set a v0).set (a + 1) v1).set (a + 2) v2).set (a + 3) v3).set (a + 4) v4).take (a + 5) = xs.take a ++ [v0, v1, v2, v3, v4] := by
  apply List.ext_getElem?
  intro i
  simp only [List.getElem?_take, List.getElem?_set, List.getElem?_append, List.length_take, List.length_set]
  by_cases hi : i < a
  · simp [show i < a + 5 by omega, show ¬ a + 4 = i by omega, show ¬ a + 3 = i by omega, show ¬ a + 2 = i by omega, show ¬ a + 1 = i by omega, show ¬ a = i by omega, show i < min a xs.length by omega, hi]
  · by_cases h5 : i < a + 5
    · have hmin : min a xs.length = a := by omega
      rw [hmin, if_pos h5, if_neg hi]
      have hc : i = a ∨ i = a + 1 ∨ i = a + 2 ∨ i = a + 3 ∨ i = a + 4 := by omega
      rcases hc with rfl | rfl | rfl | rfl | rfl
      · simp; omega
      · simp; omega
      · simp; omega
      · simp; omega
      · simp; omega
    · rw [if_neg h5, if_neg (by omega)]
      rw [List.getElem?_eq_none]
      simp; omega
theorem infoR : (Tryz.prog.info? 102).map (fun i => (i.zero, i.size, i.bytes)) = some (some (.agg #[.int .i64 0, .int .i64 0, .int .i64 0, .int .i64 0, .int .i64 0]), 5, 40) := by kernel_rfl
theorem make_res (n : Nat) (hn : n ≤ 8) : ∃ cs : Array Value, cs.size = n * 5 ∧ ∀ w, (Instr.makeSlice 33 (.int .i64 (n : Int)) (.int .i64 (n : Int))).run Tryz.prog w = .ok (.slice (some ⟨w.heap.size, 0, none⟩) n n) (w.alloc (.cells cs 102)) := by
  obtain ⟨i, hi, hz, hs, hb⟩ := info_parts infoR
  refine ⟨madeCells (Value.agg #[.int .i64 0, .int .i64 0, .int .i64 0, .int .i64 0, .int .i64 0]).cells (n * i.size), ?_, fun w => ?_⟩
  · rw [size_madeCells, hs]
  · have := run_make (P := Tryz.prog) w 33 102 i _ Tryz.underlying33 hi hz .i64 .i64 n n (by omega) (Int.le_refl _) (by rw [hb]; omega) (by omega)
    simp only [Int.toNat_natCast] at this
    exact this
theorem row_set5 {w : World} {base G n : Nat} {e : TypeId} {xs : List Value} (h : w.ownsRow base e 5 (.slice (some ⟨G, 0, none⟩) n n) n xs) (a : Nat) (v0 v1 v2 v3 v4 : Value) :
    (((((w.setCell ⟨G, a, none⟩ v0).setCell ⟨G, a + 1, none⟩ v1).setCell ⟨G, a + 2, none⟩ v2).setCell ⟨G, a + 3, none⟩ v3).setCell ⟨G, a + 4, none⟩ v4).ownsRow base e 5 (.slice (some ⟨G, 0, none⟩) n n) n (((((xs.set a v0).set (a + 1) v1).set (a + 2) v2).set (a + 3) v3).set (a + 4) v4) :=
  ((((((((h.stored a v0).1).stored (a + 1) v1).1).stored (a + 2) v2).1).stored (a + 3) v3).1.stored (a + 4) v4).1
theorem below_set5 {n : Nat} {w W : World} (h : Below n w W) {G : Nat} (hG : n ≤ G) (a : Nat) (v0 v1 v2 v3 v4 : Value) : Below n w (((((W.setCell ⟨G, a, none⟩ v0).setCell ⟨G, a + 1, none⟩ v1).setCell ⟨G, a + 2, none⟩ v2).setCell ⟨G, a + 3, none⟩ v3).setCell ⟨G, a + 4, none⟩ v4) :=
  ((((h.setCell (p := ⟨G, a, none⟩) hG v0).setCell (p := ⟨G, a + 1, none⟩) hG v1).setCell (p := ⟨G, a + 2, none⟩) hG v2).setCell (p := ⟨G, a + 3, none⟩) hG v3).setCell (p := ⟨G, a + 4, none⟩) hG v4

set_option maxHeartbeats 1000000 in
theorem results_any (h : RdIn w c N E B vW C U s r X T) :
    Calls Tryz.prog 162 #[.pointer (some ⟨E, 0, none⟩)] w fun e w' => e = .returned (.slice (some ⟨w.heap.size, 0, none⟩) r.length r.length) ∧ w'.ownsRow w.heap.size 102 5 (.slice (some ⟨w.heap.size, 0, none⟩) r.length r.length) r.length (resW X r.length) ∧ Below w.heap.size w w' := by
  have h8 := h.le
  obtain ⟨cs, hcs, hmk⟩ := make_res r.length h8
  have HROW := h.at'.row
  obtain ⟨va, cap, rfl, -⟩ := h.at'.row
  have q1 := h.at'.fw
  have hEz : E < w.heap.size := World.block_lt_of_cell? w _ q1
  have hB0 : Below w.heap.size w (w.alloc (.cells cs 102)) := (Below.refl _ _).alloc (Nat.le_refl _) _
  have hO0 : (w.alloc (.cells cs 102)).ownsRow w.heap.size 102 5 (.slice (some ⟨w.heap.size, 0, none⟩) r.length r.length) r.length cs.toList := World.ownsRow_lit w cs r.length (Nat.le_refl _) (by unfold maxLen; omega) hcs
  go_enter Tryz.func162, Tryz.ntmps162
  go_wp2_with fail
  go_loopg [17] r.length (fun g i wr => ∃ j : Nat, ∃ xs : List Value, j ≤ r.length ∧ g = r.length - j ∧ i = .int .i64 j ∧ wr.ownsRow w.heap.size 102 5 (.slice (some ⟨w.heap.size, 0, none⟩) r.length r.length) r.length xs ∧ Hid (xs.take (j * 5) = resW X j) ∧ Below w.heap.size w wr)
  case atStart => exact ⟨0, cs.toList, by omega, by omega, rfl, hO0, by simp [Hid, resW], hB0⟩
  case round =>
    clear hB0 hO0 q1 hmk
    obtain ⟨j, xs, hj, hg, rfl, hO, hxs, hB⟩ := hrel
    by_cases hlt : j < r.length
    · have hres := (h.later hB).result hlt
      obtain ⟨va', cap', e', hrow⟩ := (h.later hB).at'.row
      cases e'
      obtain ⟨gw, rfl, q2⟩ := hrow j hlt
      have hji : (j : Int) < (r.length : Int) := by omega
      have hx' : Hid (resW X (j + 1) = resW X j ++ [.int .i64 (resC (X j)), .int .i64 (resG (X j) 0), .int .i64 (resG (X j) 1), .int .i64 (resG (X j) 2), .int .i64 (resG (X j) 3)]) := rfl
      generalize resC (X j) = y at hres hx'
      generalize resG (X j) 0 = y0 at hres hx'
      generalize resG (X j) 1 = y1 at hres hx'
      generalize resG (X j) 2 = y2 at hres hx'
      generalize resG (X j) 3 = y3 at hres hx'
      generalize (X j).over = ov at hres
      clear hrow HROW
      go_wp2_with fail
      refine hres.mono ?_
      clear hres
      rintro e w1 ⟨rfl, hb1⟩
      have hB1 : Below w.heap.size w w1 := hB.trans (hb1.mono hB.size)
      have hO1 := owns_below hO hb1
      have hxl := hO1.1
      have k0 := hO1.cellAt (j * 5) (by omega)
      have k1 := hO1.cellAt (j * 5 + 1) (by omega)
      have k2 := hO1.cellAt (j * 5 + 2) (by omega)
      have k3 := hO1.cellAt (j * 5 + 3) (by omega)
      have k4 := hO1.cellAt (j * 5 + 4) (by omega)
      rw [List.getElem?_eq_getElem (by omega)] at k0 k1 k2 k3 k4
      have u1 := hO1.frozenAt
      have hxs' : Hid ((((((xs.set (j * 5) (.int .i64 y)).set (j * 5 + 1) (.int .i64 y0)).set (j * 5 + 2) (.int .i64 y1)).set (j * 5 + 3) (.int .i64 y2)).set (j * 5 + 4) (.int .i64 y3)).take ((j + 1) * 5) = resW X (j + 1)) := by
        show _ = _
        rw [show (j + 1) * 5 = j * 5 + 5 by omega, take_set5 xs (j * 5) (by omega), hxs.out, hx'.out]
      have HO2 : Hid _ := row_set5 hO1 (j * 5) (.int .i64 y) (.int .i64 y0) (.int .i64 y1) (.int .i64 y2) (.int .i64 y3)
      have HB2 : Hid _ := below_set5 hB1 (Nat.le_refl _) (j * 5) (.int .i64 y) (.int .i64 y0) (.int .i64 y1) (.int .i64 y2) (.int .i64 y3)
      clear hb1 hO hB hxs hx' q2
      go_wp2_with fail
      go_roundg (r.length - (j + 1))
      case measure => omega
      case rel => exact ⟨j + 1, _, by omega, rfl, by go_num, HO2.out, hxs', HB2.out⟩
    · obtain rfl : j = r.length := by omega
      have hxs' : Hid (xs = resW X r.length) := by
        have h := hxs.out
        have hl := hO.1
        rw [← hl, List.take_length] at h
        exact h
      have HOWN : Hid _ := hO
      clear hxs hO HROW
      go_wp2_with fail
      go_ret
      exact ⟨rfl, by rw [← hxs'.out]; exact HOWN.out, hB⟩
end
end Go.Proofs.YtehkjbpgibdgpadGreatDoor
namespace Go.Proofs.YtehkjbpgibdgpadGreatDoor
open Go.RowKit Go.Shelf

/-- One all ahead of which are over is picked. -/
theorem RdIn.first {w : World} {c : Nat → Nat} {N E B : Nat} {vW : Value} {C : Nat → Nat} {U : Nat → Value} {s : Nat → Int} {r : List (List Op5)} {X : Nat → Wk} {T : Nat → List Slot4} (h : RdIn w c N E B vW C U s r X T) {i : Nat} (hi : i < r.length) (ha : ∀ q, q < i → (X q).over = true) :
    Calls Tryz.prog 172 #[.pointer (some ⟨E, 0, none⟩), .int .i64 (i : Int)] w fun e w' => ∃ (x y : Int) (X' : Nat → Wk) (T' : Nat → List Slot4), e = .returned (.tuple #[.int .i64 x, .int .i64 y]) ∧ RdIn w' c N E B vW C U s r X' T' ∧ Grew (crewS B C r.length) w w' ∧ Hid (∀ q, q < i → (X' q).over = true) ∧ Hid ((x = 1 ∧ (X' i).over = false ∧ todoW r[i] (X' i) < todoW r[i] (X i) ∧ (X i).over = false) ∨ (x = 3 ∧ (X' i).over = true)) ∧ Hid (((X i).over = false → todoF r X' r.length < todoF r X r.length)) := by
  refine (pick_in h hi).mono ?_
  rintro e w' ⟨rfl, h2, hg⟩
  have hput : ∀ y, putW X i y i = y := fun y => by unfold putW; rw [if_pos rfl]
  refine ⟨_, _, _, _, rfl, h2, hg, fun q hq => ?_, ?_, fun ho => ?_⟩
  · show (putW X i _ q).over = true
    unfold putW; rw [if_neg (by omega)]; exact ha q hq
  · show _ ∨ _
    rw [hput]
    cases ho : (X i).over with
    | true => rw [stepW_over ho]; exact .inr ⟨rfl, ho⟩
    | false =>
      obtain ⟨h3, h4⟩ := h.ord.goes h.ck hi ha ho
      rcases h3 with ⟨e1, e2⟩ | ⟨e1, e2⟩
      · exact .inl ⟨e1, e2, h4, rfl⟩
      · exact .inr ⟨e1, e2⟩
  · obtain ⟨-, h4⟩ := h.ord.goes h.ck hi ha ho
    have := (todo_put r X i (stepW T r[i] (i : Int) (X i)).x r.length).2 hi
    rw [List.getElem?_eq_getElem hi] at this
    simp only [Option.getD_some] at this
    omega

section
variable {w : World} {c : Nat → Nat} {N E B : Nat} {vW : Value} {C : Nat → Nat} {U : Nat → Value} {s : Nat → Int} {r : List (List Op5)} {X : Nat → Wk} {T : Nat → List Slot4}

set_option maxHeartbeats 1000000 in
theorem finish_any (h : RdIn w c N E B vW C U s r X T) :
    Calls Tryz.prog 160 #[.pointer (some ⟨E, 0, none⟩)] w fun e w' => e = .returned (.tuple #[]) ∧ ∃ (X' : Nat → Wk) (T' : Nat → List Slot4), RdIn w' c N E B vW C U s r X' T' ∧ Grew (crewS B C r.length) w w' ∧ ∀ q, q < r.length → (X' q).over = true := by
  have h8 := h.le
  obtain ⟨va, cap, rfl, -⟩ := h.at'.row
  have q1 := h.at'.fw
  go_enter Tryz.func160, Tryz.ntmps160
  go_wp2_with fail
  go_loopg [9] r.length (fun g i wr => ∃ (j : Nat) (X' : Nat → Wk) (T' : Nat → List Slot4), j ≤ r.length ∧ g = r.length - j ∧ i = .int .i64 j ∧ RdIn wr c N E B (.slice va r.length cap) C U s r X' T' ∧ Hid (∀ q, q < j → (X' q).over = true) ∧ Grew (crewS B C r.length) w wr)
  case atStart => exact ⟨0, X, T, by omega, by omega, rfl, h, fun q hq => by omega, Grew.refl _ _⟩
  case round =>
    clear h q1
    obtain ⟨j, X1, T1, hj, hg, rfl, h, ha, hG⟩ := hrel
    by_cases hlt : j < r.length
    · have hji : (j : Int) < (r.length : Int) := by omega
      go_wp2_with fail
      go_loopg [3] (todoW r[j] (X1 j) + 1) (fun g v wq => ∃ (x : Int) (X' : Nat → Wk) (T' : Nat → List Slot4), v = .int .i64 x ∧ RdIn wq c N E B (.slice va r.length cap) C U s r X' T' ∧ Hid (∀ q, q < j → (X' q).over = true) ∧ Grew (crewS B C r.length) w wq ∧ ((x = 1 ∧ g = todoW r[j] (X' j) + 1) ∨ (x = 3 ∧ (X' j).over = true)))
      case atStart => exact ⟨1, X1, T1, rfl, h, ha, hG, .inl ⟨rfl, rfl⟩⟩
      case round =>
        clear h ha hG
        obtain ⟨x, X2, T2, rfl, h, ha, hG, ⟨rfl, hg2⟩ | ⟨rfl, ho⟩⟩ := hrel
        · have hp := h.first hlt ha.out
          have hg3 : Hid (todoW r[j] (X2 j) + 1 = todoW r[j] (X2 j) + 1) := rfl
          go_wp2_with fail
          refine hp.mono ?_
          clear hp
          rintro e w1 ⟨x, y, X3, T3, rfl, h3, hg1, ha3, hx, -⟩
          have hG3 := hG.trans hg1
          clear h ha hG hg1
          go_wp2_with fail
          go_roundg (if x = 1 then todoW r[j] (X3 j) + 1 else 0)
          case measure =>
            rw [hg2]
            rcases hx.out with ⟨e1, -, e2, -⟩ | ⟨e1, -⟩
            · rw [if_pos e1]; omega
            · rw [if_neg (by omega)]; omega
          case rel =>
            refine ⟨x, X3, T3, rfl, h3, ha3, hG3, ?_⟩
            rcases hx.out with ⟨e1, -, -, -⟩ | ⟨e1, e2⟩
            · exact .inl ⟨e1, by rw [if_pos e1]⟩
            · exact .inr ⟨e1, e2⟩
        · have ha' : Hid (∀ q, q < j + 1 → (X2 q).over = true) := fun q hq => by
            by_cases e : q = j
            · rw [e]; exact ho
            · exact ha.out q (by omega)
          clear ha ho
          go_wp2_with fail
          go_roundg (r.length - (j + 1))
          case measure => omega
          case rel => exact ⟨j + 1, X2, T2, by omega, rfl, by go_num, h, ha', hG⟩
    · obtain rfl : j = r.length := by omega
      go_wp2_with fail
      go_end0
      exact ⟨rfl, X1, T1, h, hG, ha.out⟩

/-- A pick, counted round. -/
theorem around_any (p : Int) (n : Nat) (hn : n ≤ 8) (w : World) : Calls Tryz.prog 173 #[.int .i64 p, .int .i64 (n : Int)] w fun e w' => (∃ b : Int, e = .returned (.int .i64 b)) ∧ w' = w := by
  by_cases h0 : n = 0
  · have t0 : ((n : Int) == 0) = true := by simp [h0]
    clear h0
    go_enter Tryz.func173, Tryz.ntmps173
    go_wp2_with fail
    go_ret
    exact ⟨⟨_, rfl⟩, rfl⟩
  · have t0 : ((n : Int) == 0) = false := by rw [beq_eq_false_iff_ne]; omega
    have tn : (n : Int) ≠ 0 := by omega
    clear h0
    go_enter Tryz.func173, Tryz.ntmps173
    go_wp2_with fail
    go_ret
    exact ⟨⟨_, rfl⟩, rfl⟩

set_option maxHeartbeats 1000000 in
theorem follow_any (h : RdIn w c N E B vW C U s r X T) {a : Option Addr} {cap : Nat} {l : List Int} (hl : NumsAt w (.slice a l.length cap) l) (hN : ∀ b off i, a = some ⟨b, off, none⟩ → i < l.length → b < N) (hmax : l.length ≤ 9223372036854775807) :
    Calls Tryz.prog 159 #[.pointer (some ⟨E, 0, none⟩), .slice a l.length cap] w fun e w' => e = .returned (.tuple #[]) ∧ ∃ (X' : Nat → Wk) (T' : Nat → List Slot4), RdIn w' c N E B vW C U s r X' T' ∧ Grew (crewS B C r.length) w w' := by
  have h8 := h.le
  obtain ⟨a', cap', e1, hcell⟩ := hl
  cases e1
  have HC : Hid (∀ j (hj : j < l.length), ∃ b off, a = some ⟨b, off, none⟩ ∧ ∀ w', Grew (crewS B C r.length) w w' → w'.cell? ⟨b, off + j, none⟩ = some (.int .i64 l[j])) := fun j hj => by
    obtain ⟨b, off, e, hc⟩ := hcell j hj
    refine ⟨b, off, e, fun w' hg => hg.cell hc fun hS => ?_⟩
    have h1 := hN b off j e hj
    have h2 := h.at'.high hS
    dsimp only at h2
    omega
  clear hcell hN
  go_enter Tryz.func159, Tryz.ntmps159
  go_wp2_with fail
  go_loopg [8] l.length (fun g i wr => ∃ (j : Nat) (X' : Nat → Wk) (T' : Nat → List Slot4), j ≤ l.length ∧ g = l.length - j ∧ i = .int .i64 j ∧ RdIn wr c N E B vW C U s r X' T' ∧ Grew (crewS B C r.length) w wr)
  case atStart => exact ⟨0, X, T, by omega, by omega, rfl, h, Grew.refl _ _⟩
  case round =>
    clear h
    obtain ⟨j, X1, T1, hj, hg, rfl, h, hG⟩ := hrel
    by_cases hlt : j < l.length
    · obtain ⟨b, off, rfl, hc⟩ := HC.out j hlt
      have c0 := hc _ hG
      have hji : (j : Int) < (l.length : Int) := by omega
      have hlen := len_any h
      have hpk := fun b => pick_any h b
      have har := around_any l[j] r.length h8 wr
      generalize l[j] = p at *
      clear hc
      go_wp2_with (first | (go_at_call 174; refine hlen.mono ?_; rintro e w' ⟨rfl, rfl⟩) | (go_at_call 173; refine har.mono ?_; rintro e w' ⟨⟨bb, rfl⟩, rfl⟩) | (go_at_call 172; refine (hpk bb).mono ?_; rintro e w2 ⟨x, y, X3, T3, rfl, h3, hg1⟩))
      have hG3 := hG.trans hg1
      clear hlen hpk har h hG hg1
      go_roundg (l.length - (j + 1))
      case measure => omega
      case rel => exact ⟨j + 1, X3, T3, by omega, rfl, by go_num, h3, hG3⟩
    · obtain rfl : j = l.length := by omega
      go_wp2_with fail
      go_end0
      exact ⟨rfl, X1, T1, h, hG⟩
end

/-- What a round is when all are over. -/
theorem InOrder.noOpen {s : Nat → Int} {r : List (List Op5)} {X : Nat → Wk} {T : Nat → List Slot4} (h : InOrder s r X T) (ha : ∀ q, q < r.length → (X q).over = true) : ∀ k, k < 10 → ∀ t ∈ T k, t.op = false := fun k hk t ht => by
  rw [h.tab k hk] at ht
  rcases List.mem_cons.1 ht with rfl | ht
  · rfl
  · obtain ⟨a, ha', rfl⟩ := List.mem_map.1 ht
    have : a < r.length := by have := (List.mem_filter.1 ha').1; simpa using this
    unfold slW
    rw [if_pos (ha a this)]
    exact (endOf_b _ _ _).2
theorem InOrder.over {s : Nat → Int} {r : List (List Op5)} {X : Nat → Wk} {T : Nat → List Slot4} (h : InOrder s r X T) (ha : ∀ q, q < r.length → (X q).over = true) : overF T = true := by
  unfold overF
  rw [List.all_eq_true]
  intro k hk
  rw [List.all_eq_true]
  intro t ht
  rw [h.noOpen ha k (by simpa using hk) t ht]; rfl
theorem InOrder.known {s : Nat → Int} {r : List (List Op5)} {X : Nat → Wk} {T : Nat → List Slot4} (h : InOrder s r X T) : ∀ k, k < 10 → lastF knownP (T k) ≠ none := fun k hk e => by
  rw [lastF_none, h.tab k hk] at e
  have := e ⟨-1, false, false, s k⟩ (by simp [tabF, slotsW])
  simp [knownP] at this
theorem InOrder.value {s : Nat → Int} {r : List (List Op5)} {X : Nat → Wk} {T : Nat → List Slot4} (h : InOrder s r X T) (hck : ∀ d ∈ r, (checkF d).1 = 0) (ha : ∀ q, q < r.length → (X q).over = true) : ∀ k, k < 10 → valF (T k) = allSt s r k := fun k hk => by
  have hno := h.noOpen ha k hk
  rw [h.tab k hk] at hno ⊢
  have hc : lastF knownP (tabF s r X k) = lastF (fun t => !t.vo) (tabF s r X k) := lastF_congr fun t ht => by simp [knownP, hno t ht]
  have hv := back_value hck h.ends k r.length (Nat.le_refl _)
  rw [List.take_length] at hv
  have hb : backF (slotsW s r X k r.length) = (valF (tabF s r X k), -1) := by
    unfold backF valF
    rw [hc]
    show seenF (tabF s r X k) (lastF (fun t => !t.vo) (tabF s r X k)) = _
    cases e : lastF (fun t => !t.vo) (tabF s r X k) with
    | none =>
      have := lastF_none.1 e ⟨-1, false, false, s k⟩ (by simp [tabF, slotsW])
      simp at this
    | some i =>
      have hi := (lastF_some.1 e).1
      have : (slotAt (tabF s r X k) i).op = false := hno _ (by rw [slotAt_get hi]; exact List.getElem_mem _)
      simp [seenF, this]
  rw [hb] at hv
  exact hv (by simp)
/-- What each deed came to, when all are over. -/
theorem InOrder.came {s : Nat → Int} {r : List (List Op5)} {X : Nat → Wk} {T : Nat → List Slot4} (h : InOrder s r X T) {i : Nat} (hi : i < r.length) (ho : (X i).over = true) : resC (X i) = (outAt s r i).code ∧ ∀ j, resG (X i) j = (outAt s r i).regs j := by
  rw [h.ends i hi ho]
  unfold resC resG
  rw [if_pos ho]
  exact ⟨rfl, fun j => by rw [if_pos ho]⟩
/-- What the first n deeds of a round came to, cell by cell. -/
def outCells (s : Nat → Int) (r : List (List Op5)) : Nat → List Value
  | 0 => []
  | n + 1 => outCells s r n ++ [.int .i64 (outAt s r n).code, .int .i64 ((outAt s r n).regs 0), .int .i64 ((outAt s r n).regs 1), .int .i64 ((outAt s r n).regs 2), .int .i64 ((outAt s r n).regs 3)]
theorem InOrder.cells {s : Nat → Int} {r : List (List Op5)} {X : Nat → Wk} {T : Nat → List Slot4} (h : InOrder s r X T) (ha : ∀ q, q < r.length → (X q).over = true) : ∀ n, n ≤ r.length → resW X n = outCells s r n
  | 0, _ => rfl
  | n + 1, hn => by
    obtain ⟨e1, e2⟩ := h.came (i := n) (by omega) (ha n (by omega))
    simp only [resW, outCells]
    rw [h.cells ha n (by omega), e1, e2, e2, e2, e2]
end Go.Proofs.YtehkjbpgibdgpadGreatDoor
namespace Go.Proofs.YtehkjbpgibdgpadGreatDoor
open Go.RowKit Go.Shelf

theorem infoP : (Tryz.prog.info? 227).map (fun i => (i.zero, i.size, i.bytes)) = some (some (.pointer none), 1, 8) := by kernel_rfl
theorem make_ptrs (n : Nat) (hn : n ≤ 8) : ∃ cs : Array Value, cs.size = n * 1 ∧ ∀ w, (Instr.makeSlice 211 (.int .i64 (n : Int)) (.int .i64 (n : Int))).run Tryz.prog w = .ok (.slice (some ⟨w.heap.size, 0, none⟩) n n) (w.alloc (.cells cs 227)) := by
  obtain ⟨i, hi, hz, hs, hb⟩ := info_parts infoP
  refine ⟨madeCells (Value.pointer none).cells (n * i.size), ?_, fun w => ?_⟩
  · rw [size_madeCells, hs]
  · have := run_make (P := Tryz.prog) w 211 227 i _ Tryz.underlying211 hi hz .i64 .i64 n n (by omega) (Int.le_refl _) (by rw [hb]; omega) (by omega)
    simp only [Int.toNat_natCast] at this
    exact this

/-- A round while it is made: j workers stand in the row. -/
structure RdN (w : World) (c : Nat → Nat) (N B G : Nat) (C : Nat → Nat) (U : Nat → Value) (j : Nat) (r : List (List Op5)) (T : Nat → List Slot4) (xs : List Value) : Prop where
  tab : TabAt w B T
  cB : c B = 2
  row : w.ownsRow N 227 1 (.slice (some ⟨G, 0, none⟩) r.length r.length) r.length xs
  cG : c G = 3
  is : ∀ i, i < j → xs[i]? = some (.pointer (some ⟨C i, 0, none⟩))
  wk : ∀ i, i < j → WorkAt w (C i) (U i) i wk0
  ck : ∀ i, i < j → c (C i) = 100 + i
  dd : ∀ i, i < j → ∀ h : i < r.length, DeedIn (fun g => c g = 5) w (U i) r[i]
  low : ∀ b, b < N → c b = 0

section
variable {w w' : World} {c : Nat → Nat} {N B G : Nat} {C : Nat → Nat} {U : Nat → Value} {j : Nat} {r : List (List Op5)} {T : Nat → List Slot4} {xs : List Value}

theorem RdN.Glt (h : RdN w c N B G C U j r T xs) : N ≤ G ∧ G < w.heap.size := owns_lt h.row rfl
/-- One worker more. -/
theorem RdN.add (h : RdN w c N B G C U j r T xs) (hj : j < r.length) (_hN : N ≤ w.heap.size) (hb : Below w.heap.size w w') {Cn : Nat} {u : Value} (hC : w.heap.size ≤ Cn) (hW : WorkAt w' Cn u j wk0) (hD : DeedIn (fun g => w.heap.size ≤ g ∧ g ≠ Cn) w' u r[j]) :
    ∃ c', RdN (w'.setCell ⟨G, j, none⟩ (.pointer (some ⟨Cn, 0, none⟩))) c' N B G (putN C j Cn) (putV U j u) (j + 1) r T (xs.set j (.pointer (some ⟨Cn, 0, none⟩))) := by
  have hG := h.Glt
  have hxl : xs.length = r.length := by have := h.row.1; omega
  have hgs : Grew (fun b => b = G) w' (w'.setCell ⟨G, j, none⟩ (.pointer (some ⟨Cn, 0, none⟩))) := Grew.of_grown (grown_setCell w' ⟨G, j, none⟩ _) rfl
  obtain ⟨c', hc'⟩ : ∃ c' : Nat → Nat, c' = fun b => if b < w.heap.size then c b else if b = Cn then 100 + j else 5 := ⟨_, rfl⟩
  have hlo : ∀ b, b < w.heap.size → c' b = c b := fun b hb => by rw [hc']; simp [hb]
  have hcn : c' Cn = 100 + j := by rw [hc']; dsimp only; rw [if_neg (by omega), if_pos rfl]
  have hhi : ∀ b, w.heap.size ≤ b → b ≠ Cn → c' b = 5 := fun b h1 h2 => by rw [hc']; dsimp only; rw [if_neg (by omega), if_neg h2]
  have hBl := h.tab.lt
  have hBG : B ≠ G := fun e => by have h1 := h.cB; have h2 := h.cG; rw [e] at h1; omega
  have tab_kept : TabAt (w'.setCell ⟨G, j, none⟩ (.pointer (some ⟨Cn, 0, none⟩))) B T := by
    have h1 := h.tab.later hb
    refine ⟨fun k hk => ?_, fun o => by rw [World.frozen?_setCell]; exact h1.free o⟩
    have h2 := h1.row k hk
    exact h2.kept (hgs.block B (by have := hb.size; omega) hBG)
  clear hc'
  refine ⟨c', tab_kept, by rw [hlo B hBl]; exact h.cB, ((owns_below h.row hb).stored j _).1, by rw [hlo G hG.2]; exact h.cG, fun i hi => ?_, fun i hi => ?_, fun i hi => ?_, fun i hi hr => ?_, fun b hb' => by rw [hlo b (by omega)]; exact h.low b hb'⟩
  · unfold putN
    by_cases e : i = j
    · subst e; rw [if_pos rfl, List.getElem?_set_self (by omega)]
    · rw [if_neg e, List.getElem?_set_ne (by omega)]; exact h.is i (by omega)
  · unfold putN putV
    by_cases e : i = j
    · subst e; rw [if_pos rfl, if_pos rfl]; exact hW.grew hgs (by omega)
    · rw [if_neg e, if_neg e]
      exact ((h.wk i (by omega)).later hb).grew hgs (fun e' => by have h1 := h.ck i (by omega); have h2 := h.cG; rw [e'] at h1; omega)
  · unfold putN
    by_cases e : i = j
    · subst e; rw [if_pos rfl]; exact hcn
    · rw [if_neg e, hlo _ (h.wk i (by omega)).lt]; exact h.ck i (by omega)
  · unfold putV
    by_cases e : i = j
    · subst e; rw [if_pos rfl]
      exact (hD.grew hgs (fun b hb' e' => by omega)).mono fun b _ hb' => hhi b hb'.1 hb'.2
    · rw [if_neg e]
      have h2 : DeedIn (fun g => c g = 5 ∧ g < w.heap.size) w (U i) r[i] := (h.dd i (by omega) hr).mono fun b hb' hp => ⟨hp, hb'⟩
      refine ((h2.later hb).grew hgs (fun b hb' e' => ?_)).mono fun b _ hb' => by rw [hlo b hb'.2]; exact hb'.1
      have := h.cG; rw [← e'] at this; omega
/-- All workers stand there. -/
theorem RdN.full (h : RdN w c N B G C U r.length r T xs) (_hN : N ≤ w.heap.size) {t : TypeId} :
    ∃ c', RdAt (w.alloc (.cells #[.pointer (some ⟨B, 0, none⟩), .slice (some ⟨G, 0, none⟩) r.length r.length] t)) c' N w.heap.size B (.slice (some ⟨G, 0, none⟩) r.length r.length) C U r (fun _ => wk0) T := by
  have hb : Below w.heap.size w (w.alloc (.cells #[.pointer (some ⟨B, 0, none⟩), .slice (some ⟨G, 0, none⟩) r.length r.length] t)) := (Below.refl _ _).alloc (Nat.le_refl _) _
  have hG := h.Glt
  have hlo : ∀ b, b < w.heap.size → recol c w.heap.size 1 b = c b := fun b hb => by unfold recol; rw [if_neg (by omega)]
  have hxs : xs = ptrs C r.length := by
    apply List.ext_getElem?
    intro i
    have hxl : xs.length = r.length := by have := h.row.1; omega
    by_cases hi : i < r.length
    · rw [h.is i hi, ptrs_at C hi]
    · rw [List.getElem?_eq_none (by omega), List.getElem?_eq_none (by simp [ptrs]; omega)]
  refine ⟨recol c w.heap.size 1, by simp, by simp, by unfold recol; rw [if_pos rfl], h.tab.later hb, by rw [hlo B h.tab.lt]; exact h.cB, ⟨by rw [← hxs]; exact owns_below h.row hb, fun g hg => ?_, fun i hi => (h.wk i hi).later hb, fun i hi => by rw [hlo _ (h.wk i hi).lt]; exact h.ck i hi, fun i hi hr => ?_⟩, fun b hb' => by rw [hlo b (by omega)]; exact h.low b hb'⟩
  · obtain rfl : G = g := by simpa [Value.ownBlock] using hg
    rw [hlo G hG.2]; exact h.cG
  · have h2 : DeedIn (fun g => c g = 5 ∧ g < w.heap.size) w (U i) r[i] := (h.dd i hi hr).mono fun b hb' hp => ⟨hp, hb'⟩
    exact (h2.later hb).mono fun b _ hb' => by rw [hlo b hb'.2]; exact hb'.1
end

/-- The row is made. -/
theorem rdN_first {w1 : World} {N B : Nat} {r : List (List Op5)} {T : Nat → List Slot4} {cs : Array Value} (hcs : cs.size = r.length * 1) (h8 : r.length ≤ 8) (hT : TabAt w1 B T) (hB : N ≤ B) (hN : N ≤ w1.heap.size) :
    ∃ c, RdN (w1.alloc (.cells cs 227)) c N B w1.heap.size (fun _ => 0) (fun _ => .slice none 0 0) 0 r T cs.toList := by
  have hBl := hT.lt
  refine ⟨fun b => if b = B then 2 else if b = w1.heap.size then 3 else 0, hT.later ((Below.refl _ _).alloc (Nat.le_refl _) _), by simp, World.ownsRow_lit w1 cs r.length hN (by unfold maxLen; omega) hcs, ?_, fun i hi => absurd hi (by omega), fun i hi => absurd hi (by omega), fun i hi => absurd hi (by omega), fun i hi => absurd hi (by omega), fun b hb => ?_⟩
  · rw [if_neg (by omega), if_pos rfl]
  · rw [if_neg (by omega), if_neg (by omega)]

set_option maxRecDepth 100000 in
set_option maxHeartbeats 2000000 in
theorem round_new (v : Value) (r : List (List Op5)) (s : Nat → Int) (w : World) (hr : RoundAt w v r) (hf : Fits r) (h0 : roundF r = 0) (hL : Lim w) :
    Calls Tryz.prog 158 #[stV s, v] w fun e w' => ∃ c E B vW C U, e = .returned (.tuple #[.pointer (some ⟨E, 0, none⟩), .int .i64 0]) ∧ RdIn w' c w.heap.size E B vW C U s r (fun _ => wk0) (newF s r) ∧ Below w.heap.size w w' := by
  obtain ⟨h8, hck⟩ := roundF_zero.1 h0
  obtain ⟨cs, hcs, hmk⟩ := make_ptrs r.length h8
  have hB0 : Below w.heap.size w (w.alloc (.cells #[.int .i64 (s 0), .int .i64 (s 1), .int .i64 (s 2), .int .i64 (s 3), .int .i64 (s 4), .int .i64 (s 5), .int .i64 (s 6), .int .i64 (s 7), .int .i64 (s 8), .int .i64 (s 9)] 32)) := (Below.refl _ _).alloc (Nat.le_refl _) _
  have hnew := new_good v r s _ (hr.later hB0) hf h0 (hL.later hB0)
  obtain ⟨a, cap, rfl, hr0⟩ := hr
  have HCK : Hid (∀ d ∈ r, (checkF d).1 = 0) := hck
  clear h0 hck
  show Calls Tryz.prog 158 #[.agg #[.int .i64 (s 0), .int .i64 (s 1), .int .i64 (s 2), .int .i64 (s 3), .int .i64 (s 4), .int .i64 (s 5), .int .i64 (s 6), .int .i64 (s 7), .int .i64 (s 8), .int .i64 (s 9)], _] w _
  go_enter Tryz.func158, Tryz.ntmps158
  go_wp2_with fail
  refine hnew.mono ?_
  clear hnew
  rintro e w1 ⟨B, rfl, hB, hT, hb1⟩
  have hBN : w.heap.size ≤ B := Nat.le_trans hB0.size hB
  have hB1 : Below w.heap.size w w1 := hB0.trans (hb1.mono hB0.size)
  obtain ⟨c, hN0⟩ := rdN_first hcs h8 hT hBN hB1.size
  have hB2 : Below w.heap.size w (w1.alloc (.cells cs 227)) := hB1.alloc hB1.size _
  have hG : w.heap.size ≤ w1.heap.size := hB1.size
  clear hb1 hB0 hT hB hB1
  go_wp2_with fail
  clear hmk
  generalize w1.alloc (.cells cs 227) = W1 at *
  generalize w1.heap.size = G at *
  go_loopg [25] r.length (fun g i wr => ∃ (j : Nat) (c : Nat → Nat) (C : Nat → Nat) (U : Nat → Value) (xs : List Value), j ≤ r.length ∧ g = r.length - j ∧ i = .int .i64 j ∧ RdN wr c w.heap.size B G C U j r (newF s r) xs ∧ Below w.heap.size w wr)
  case atStart => exact ⟨0, c, _, _, _, by omega, by omega, rfl, hN0, hB2⟩
  case round =>
    clear hN0 hB2
    obtain ⟨j, c, C, U, xs, hj, hg, rfl, hn, hBl⟩ := hrel
    by_cases hlt : j < r.length
    · obtain ⟨b, off, rfl, dv, c0, hD⟩ := hr0 j hlt
      replace c0 := cell_later hBl c0
      have hwn := worker_new dv r[j] j wr (hD.later hBl) (HCK.out _ (List.getElem_mem hlt)) (by omega) (hL.later hBl)
      have hji : (j : Int) < (r.length : Int) := by omega
      clear hr0 hD
      go_wp2_with fail
      refine hwn.mono ?_
      clear hwn
      rintro e w2 ⟨Cn, u, rfl, hCn, hWk, hDn, hb2⟩
      have hBl2 : Below w.heap.size w w2 := hBl.trans (hb2.mono hBl.size)
      have hrow := owns_below hn.row hb2
      have hxl := hrow.1
      have k0 := hrow.cellAt j (by omega)
      rw [List.getElem?_eq_getElem (by omega)] at k0
      have u1 := hrow.frozenAt
      have HN : Hid _ := hn.add hlt hBl.size hb2 hCn hWk hDn
      clear hrow hn hWk hDn hCn c0 hBl hb2
      go_wp2_with fail
      go_roundg (r.length - (j + 1))
      case measure => omega
      case rel =>
        obtain ⟨c', hn'⟩ := HN.out
        exact ⟨j + 1, c', _, _, _, by omega, rfl, by go_num, hn', hBl2.setCell (p := ⟨G, j, none⟩) hG _⟩
    · obtain rfl : j = r.length := by omega
      clear hr0
      have HF : Hid _ := hn.full (t := 213) hBl.size
      clear hn
      obtain ⟨c', hfull⟩ := HF.out
      have HF' : Hid _ := hfull
      clear hfull HF
      go_wp2_with fail
      exact bodyPost_ret (v := .tuple #[.pointer (some ⟨wr.heap.size, 0, none⟩), .int .i64 0]) (by simp [results, Tryz.results158, go_sem]) rfl ⟨c', _, B, _, C, U, rfl, ⟨HF'.out, inOrder_new s r, HCK.out, h8⟩, hBl.alloc hBl.size _⟩

set_option maxHeartbeats 1000000 in
theorem round_bad (v : Value) (r : List (List Op5)) (s : Nat → Int) (w : World) (hr : RoundAt w v r) (hf : Fits r) (h0 : ¬ roundF r = 0) (hL : Lim w) :
    Calls Tryz.prog 158 #[stV s, v] w fun e w' => e = .returned (.tuple #[.pointer none, .int .i64 (roundF r)]) ∧ Below w.heap.size w w' := by
  have hB0 : Below w.heap.size w (w.alloc (.cells #[.int .i64 (s 0), .int .i64 (s 1), .int .i64 (s 2), .int .i64 (s 3), .int .i64 (s 4), .int .i64 (s 5), .int .i64 (s 6), .int .i64 (s 7), .int .i64 (s 8), .int .i64 (s 9)] 32)) := (Below.refl _ _).alloc (Nat.le_refl _) _
  have hnew := new_bad v r s _ (hr.later hB0) hf h0 (hL.later hB0)
  obtain ⟨cc, hc⟩ : ∃ cc, cc = roundF r := ⟨_, rfl⟩
  rw [← hc] at h0 hnew ⊢
  have t0 : (cc != 0) = true := by simp [h0]
  clear hc h0
  show Calls Tryz.prog 158 #[.agg #[.int .i64 (s 0), .int .i64 (s 1), .int .i64 (s 2), .int .i64 (s 3), .int .i64 (s 4), .int .i64 (s 5), .int .i64 (s 6), .int .i64 (s 7), .int .i64 (s 8), .int .i64 (s 9)], _] w _
  go_enter Tryz.func158, Tryz.ntmps158
  go_wp2_with fail
  refine hnew.mono ?_
  clear hnew
  rintro e w1 ⟨rfl, hb1⟩
  go_wp2_with fail
  exact bodyPost_ret (v := .tuple #[.pointer none, .int .i64 cc]) (by simp [results, Tryz.results158, go_sem]) rfl ⟨rfl, hB0.trans (hb1.mono hB0.size)⟩
end Go.Proofs.YtehkjbpgibdgpadGreatDoor
namespace Go.Proofs.YtehkjbpgibdgpadGreatDoor
open Go.RowKit Go.Shelf

theorem state_end {w : World} {c : Nat → Nat} {N E B : Nat} {vW : Value} {C : Nat → Nat} {U : Nat → Value} {s : Nat → Int} {r : List (List Op5)} {X : Nat → Wk} {T : Nat → List Slot4} (h : RdIn w c N E B vW C U s r X T) (ha : ∀ q, q < r.length → (X q).over = true) :
    Calls Tryz.prog 161 #[.pointer (some ⟨B, 0, none⟩)] w fun e w' => e = .returned (stV (allSt s r)) ∧ Below w.heap.size w w' := by
  refine (state_any B T w h.at'.tab h.ord.known).mono ?_
  rintro e w' ⟨rfl, hb⟩
  exact ⟨ret_st fun k hk => h.ord.value h.ck ha k hk, hb⟩

theorem results_end {w : World} {c : Nat → Nat} {N E B : Nat} {vW : Value} {C : Nat → Nat} {U : Nat → Value} {s : Nat → Int} {r : List (List Op5)} {X : Nat → Wk} {T : Nat → List Slot4} (h : RdIn w c N E B vW C U s r X T) (ha : ∀ q, q < r.length → (X q).over = true) :
    Calls Tryz.prog 162 #[.pointer (some ⟨E, 0, none⟩)] w fun e w' => e = .returned (.slice (some ⟨w.heap.size, 0, none⟩) r.length r.length) ∧ w'.ownsRow w.heap.size 102 5 (.slice (some ⟨w.heap.size, 0, none⟩) r.length r.length) r.length (outCells s r r.length) ∧ Below w.heap.size w w' := by
  have := results_any h
  rw [h.ord.cells ha r.length (Nat.le_refl _)] at this
  exact this
theorem owns_base {w : World} {base base' : Nat} {e : TypeId} {size : Nat} {v : Value} {n : Nat} {xs : List Value} (h : w.ownsRow base e size v n xs) (hb : base' ≤ base) : w.ownsRow base' e size v n xs := by
  refine ⟨h.1, ?_⟩
  rcases h.2 with hn | ⟨g, cap, cur, hv, hbase, rest⟩
  · exact .inl hn
  · exact .inr ⟨g, cap, cur, hv, Nat.le_trans hb hbase, rest⟩
theorem owns_store {w : World} {base : Nat} {e : TypeId} {size : Nat} {v : Value} {n : Nat} {xs : List Value} (h : w.ownsRow base e size v n xs) {b : Nat} (hb : b < base) (x0 x1 x2 x3 x4 x5 x6 x7 x8 x9 : Value) : ((((((((((w.setCell ⟨b, 0, none⟩ x0).setCell ⟨b, 1, none⟩ x1).setCell ⟨b, 2, none⟩ x2).setCell ⟨b, 3, none⟩ x3).setCell ⟨b, 4, none⟩ x4).setCell ⟨b, 5, none⟩ x5).setCell ⟨b, 6, none⟩ x6).setCell ⟨b, 7, none⟩ x7).setCell ⟨b, 8, none⟩ x8).setCell ⟨b, 9, none⟩ x9).ownsRow base e size v n xs :=
  ownsRow_setCell_below (ownsRow_setCell_below (ownsRow_setCell_below (ownsRow_setCell_below (ownsRow_setCell_below (ownsRow_setCell_below (ownsRow_setCell_below (ownsRow_setCell_below (ownsRow_setCell_below (ownsRow_setCell_below (h) (a := ⟨b, 0, none⟩) hb x0) (a := ⟨b, 1, none⟩) hb x1) (a := ⟨b, 2, none⟩) hb x2) (a := ⟨b, 3, none⟩) hb x3) (a := ⟨b, 4, none⟩) hb x4) (a := ⟨b, 5, none⟩) hb x5) (a := ⟨b, 6, none⟩) hb x6) (a := ⟨b, 7, none⟩) hb x7) (a := ⟨b, 8, none⟩) hb x8) (a := ⟨b, 9, none⟩) hb x9

/-- The first world of Run. -/
theorem run_open (w : World) (s : Nat → Int) : ∃ W0, W0 = ((w.alloc (.cells #[.int .i64 (s 0), .int .i64 (s 1), .int .i64 (s 2), .int .i64 (s 3), .int .i64 (s 4), .int .i64 (s 5), .int .i64 (s 6), .int .i64 (s 7), .int .i64 (s 8), .int .i64 (s 9)] 32)).alloc (.cells #[.int .i64 0, .int .i64 0, .int .i64 0, .int .i64 0, .int .i64 0, .int .i64 0, .int .i64 0, .int .i64 0, .int .i64 0, .int .i64 0] 32)) ∧ Below w.heap.size w W0 ∧ W0.heap.size = w.heap.size + 2 ∧ Box W0 w.heap.size s ∧ Box W0 (w.heap.size + 1) (fun _ => 0) ∧ (∀ o, W0.frozen? ⟨w.heap.size + 1, o, none⟩ = false) := by
  refine ⟨_, rfl, ((Below.refl _ _).alloc (Nat.le_refl _) _).alloc (by simp) _, by simp, ?_, ?_, fun o => by go_simp⟩
  · exact lt10 (by go_simp) (by go_simp) (by go_simp) (by go_simp) (by go_simp) (by go_simp) (by go_simp) (by go_simp) (by go_simp) (by go_simp)
  · exact lt10 (by go_simp) (by go_simp) (by go_simp) (by go_simp) (by go_simp) (by go_simp) (by go_simp) (by go_simp) (by go_simp) (by go_simp)

set_option maxRecDepth 100000 in
set_option maxHeartbeats 2000000 in
theorem run_good (v : Value) (r : List (List Op5)) (s : Nat → Int) (a : Option Addr) (cap : Nat) (l : List Int) (w : World) (hr : RoundAt w v r) (hf : Fits r) (h0 : roundF r = 0) (hL : Lim w) (hl : NumsAt w (.slice a l.length cap) l) (h300 : l.length ≤ 300) :
    Calls Tryz.prog 142 #[stV s, v, .slice a l.length cap] w fun e w' => ∃ G, e = .returned (.tuple #[stV (allSt s r), .slice (some ⟨G, 0, none⟩) r.length r.length, .int .i64 0]) ∧ w'.ownsRow w.heap.size 102 5 (.slice (some ⟨G, 0, none⟩) r.length r.length) r.length (outCells s r r.length) ∧ Below w.heap.size w w' := by
  obtain ⟨W0, e0, hB0, hsz, hX0, hY0, hf0⟩ := run_open w s
  have hnew := round_new v r s W0 (hr.later hB0) hf h0 (hL.later hB0)
  have HNums : Hid (∀ w', Below w.heap.size w w' → NumsAt w' (.slice a l.length cap) l) := fun w' hb => by
    obtain ⟨a', cap', e1, hc⟩ := hl
    cases e1
    exact ⟨a, cap, rfl, fun i hi => by obtain ⟨b, off, e, h1⟩ := hc i hi; exact ⟨b, off, e, cell_later hb h1⟩⟩
  have HLow : Hid (∀ b off i, a = some ⟨b, off, none⟩ → i < l.length → b < W0.heap.size) := fun b off i e hi => by
    obtain ⟨a', cap', e1, hc⟩ := hl
    cases e1
    obtain ⟨b', off', e', h1⟩ := hc i hi
    rw [e] at e'; cases e'
    have := World.block_lt_of_cell? w _ h1
    dsimp only at this
    omega
  clear hl
  obtain ⟨ra, rcap, rfl, -⟩ := hr
  have hli : ¬ (300 : Int) < (l.length : Int) := by omega
  obtain ⟨k0, k1, k2, k3, k4, k5, k6, k7, k8, k9⟩ := hX0.ten
  show Calls Tryz.prog 142 #[.agg #[.int .i64 (s 0), .int .i64 (s 1), .int .i64 (s 2), .int .i64 (s 3), .int .i64 (s 4), .int .i64 (s 5), .int .i64 (s 6), .int .i64 (s 7), .int .i64 (s 8), .int .i64 (s 9)], _, _] w _
  go_enter Tryz.func142, Tryz.ntmps142
  go_wp2_with fail
  rw [← e0]
  clear e0
  refine hnew.mono ?_
  clear hnew k0 k1 k2 k3 k4 k5 k6 k7 k8 k9 hX0
  rintro e w1 ⟨c, E, B, vW, C, U, rfl, h1, hb1⟩
  have hfl := follow_any h1 (HNums.out _ (hB0.trans (hb1.mono hB0.size))) HLow.out (by omega)
  go_wp2_with fail
  refine hfl.mono ?_
  clear hfl HNums HLow
  rintro e w2 ⟨rfl, X2, T2, h2, hg2⟩
  have hb2 := h1.below hg2 hb1 (Nat.le_refl _) hb1.size
  clear h1 hb1 hg2
  have hfi := finish_any h2
  go_wp2_with fail
  refine hfi.mono ?_
  clear hfi
  rintro e w3 ⟨rfl, X3, T3, h3, hg3, ha3⟩
  have hb3 := h2.below hg3 hb2 (Nat.le_refl _) hb2.size
  clear h2 hb2 hg3
  have hst := state_end h3 ha3
  have q0 := h3.at'.ft
  go_wp2_with fail
  refine hst.mono ?_
  clear hst q0
  rintro e w4 ⟨he, hb4⟩
  have hre := results_end (h3.later hb4) ha3
  have hB4 : Below W0.heap.size W0 w4 := hb3.trans (hb4.mono hb3.size)
  obtain ⟨y, hy⟩ : ∃ y, y = allSt s r := ⟨_, rfl⟩
  obtain ⟨oc, hoc⟩ : ∃ oc, oc = outCells s r r.length := ⟨_, rfl⟩
  rw [← hy] at he
  rw [← hoc] at hre
  have HY : Hid (y = allSt s r) := hy
  have HOC : Hid (oc = outCells s r r.length) := hoc
  simp only [stV] at he
  subst he
  clear hy hoc hb3 hb4 h3 ha3
  go_wp2_with fail
  refine hre.mono ?_
  clear hre
  rintro e w5 ⟨rfl, hO, hb5⟩
  have hB5 : Below W0.heap.size W0 w5 := hB4.trans (hb5.mono hB4.size)
  have hz4 : W0.heap.size ≤ w4.heap.size := hB4.size
  have hY5 := hY0.later hB5
  have hBw : Below w.heap.size w w5 := hB0.trans (hB5.mono hB0.size)
  obtain ⟨y0, y1, y2, y3, y4, y5, y6, y7, y8, y9⟩ := hY5.ten
  have hf5 : ∀ o, w5.frozen? ⟨w.heap.size + 1, o, none⟩ = false := fun o => by rw [hB5.frozen (p := ⟨w.heap.size + 1, o, none⟩) (by simp; omega)]; exact hf0 o
  have HO : Hid _ := hO
  clear hB4 hb5 hB5 hY5 hY0 hf0 hO hB0
  go_wp2_with fail
  exact bodyPost_ret (v := .tuple #[stV y, .slice (some ⟨w4.heap.size, 0, none⟩) r.length r.length, .int .i64 0]) (by simp [results, Tryz.results142, go_sem, stV, y0, y1, y2, y3, y4, y5, y6, y7, y8, y9]) rfl ⟨w4.heap.size, by rw [HY.out], HOC.out ▸ owns_base (owns_store HO.out (b := w.heap.size + 1) (by omega) _ _ _ _ _ _ _ _ _ _) (by omega), below_ten hBw (by omega) _ _ _ _ _ _ _ _ _ _⟩
end Go.Proofs.YtehkjbpgibdgpadGreatDoor
