/-
  One hand and its board; the walk of Hand.end.
-/
import Derived.Test.YthlhbmldfjkagaaDoorHdA
import Derived.Test.YthlhbmldfjkagaaDoorMathA
namespace Go.Proofs.YthlhbmldfjkagaaDoor
open Go.RowKit Go.Shelf

structure HB (w : World) (N NB G D : Nat) (dv : Value) (b : Nat) (d : List Op5) (V : Nat → Value) (x : Wk) (vs : Value) (st : List Op5) (T : Nat → List Slot4) : Prop where
  hd : HandAt w G dv b x vs
  so : w.ownsRow N 34 5 vs st.length (deedCells st)
  bd : BoardAt w NB D T V
  dd : DeedIn (fun g => g ≠ G ∧ g ≠ D ∧ ¬ boardS V g ∧ vs.ownBlock ≠ some g) w dv d
  gD : G ≠ D
  gV : ¬ boardS V G
  gs : vs.ownBlock ≠ some G
  sD : vs.ownBlock ≠ some D
  sV : ∀ g, vs.ownBlock = some g → ¬ boardS V g
  l9 : ∀ k, k < 10 → (T k).length ≤ 9
  fine : FineT T
  put : PutOk st x
  sl : st.length ≤ x.nx

/-- The blocks that a step of a hand may change. -/
def handS (G : Nat) (V : Nat → Value) (vs : Value) : Nat → Prop := fun k => k = G ∨ boardS V k ∨ vs.ownBlock = some k

section
variable {w w' : World} {N NB G D : Nat} {dv : Value} {b : Nat} {d : List Op5} {V : Nat → Value} {x y : Wk} {vs : Value} {st : List Op5} {T T' : Nat → List Slot4}

theorem HB.later (h : HB w N NB G D dv b d V x vs st T) (hb : Below w.heap.size w w') : HB w' N NB G D dv b d V x vs st T :=
  ⟨h.hd.kept (hb.block G h.hd.lt), owns_below h.so hb, h.bd.later hb, h.dd.later hb, h.gD, h.gV, h.gs, h.sD, h.sV, h.l9, h.fine, h.put, h.sl⟩
/-- The board is changed. -/
theorem HB.board (h : HB w N NB G D dv b d V x vs st T) (hb : BoardAt w' NB D T' V) (hg : Grew (boardS V) w w') (hT : FineT T') (h9 : ∀ k, k < 10 → (T' k).length ≤ 9) : HB w' N NB G D dv b d V x vs st T' :=
  ⟨h.hd.kept (hg.block G h.hd.lt h.gV), owns_kept h.so fun g hgg => hg.block g (owns_lt h.so hgg).2 (h.sV g hgg), hb, h.dd.grew hg (fun _ hp e => hp.2.2.1 e), h.gD, h.gV, h.gs, h.sD, h.sV, h9, hT, h.put, h.sl⟩
/-- The hand's own block is changed. -/
theorem HB.hand (h : HB w N NB G D dv b d V x vs st T) (hd : HandAt w' G dv b y vs) (hg : w.grownBy w' (some G)) (hp : PutOk st y) (hs : st.length ≤ y.nx) : HB w' N NB G D dv b d V y vs st T := by
  have hgs : Grew (fun k => k = G) w w' := Grew.of_grown hg rfl
  exact ⟨hd, owns_kept h.so fun g hgg => hgs.block g (owns_lt h.so hgg).2 (fun e => h.gs (by rw [← e]; exact hgg)), h.bd.kept (hgs.block D h.bd.lt (fun e => h.gD e.symm)) (fun k hk g hgg => hgs.block g (owns_lt (h.bd.own k hk) hgg).2 (fun e => h.gV ⟨k, hk, by rw [← e]; exact hgg⟩)), h.dd.grew hgs (fun b' hp' e => hp'.1 e), h.gD, h.gV, h.gs, h.sD, h.sV, h.l9, h.fine, hp, hs⟩
end

theorem endTo_snoc (T : Nat → List Slot4) (x : Wk) (b : Int) (ks : List Nat) (k : Nat) : endTo T x b (ks ++ [k]) = settleT (endTo T x b ks) (k : Int) (endOf x b k) := by
  unfold endTo; rw [List.foldl_append]; rfl
theorem settleT_len {T : Nat → List Slot4} (k : Int) (x : Slot4) (j : Nat) : (settleT T k x j).length = (T j).length := by
  unfold settleT
  split
  · unfold putT
    split
    · rename_i e; rw [e, settleF_length]
    · rfl
  · rfl
theorem endTo_len (T : Nat → List Slot4) (x : Wk) (b : Int) (ks : List Nat) (j : Nat) : (endTo T x b ks j).length = (T j).length := by
  induction ks generalizing T with
  | nil => rfl
  | cons k ks ih =>
    show (endTo (settleT T (k : Int) (endOf x b k)) x b ks j).length = _
    rw [ih, settleT_len]

theorem HandAt.setEnd {w : World} {G : Nat} {dv : Value} {b : Nat} {x : Wk} {vs : Value} (h : HandAt w G dv b x vs) (c : Int) : HandAt ((((((w.setCell ⟨G, 8, none⟩ (.bool true)).setCell ⟨G, 9, none⟩ (.int .i64 c)).setCell ⟨G, 10, none⟩ (.int .i64 (x.regs 0))).setCell ⟨G, 11, none⟩ (.int .i64 (x.regs 1))).setCell ⟨G, 12, none⟩ (.int .i64 (x.regs 2))).setCell ⟨G, 13, none⟩ (.int .i64 (x.regs 3))) G dv b (overW x c) vs := by
  have ho : (overW x c).over = true := rfl
  have h10 := h.res 0 (by omega)
  have h11 := h.res 1 (by omega)
  have h12 := h.res 2 (by omega)
  have h13 := h.res 3 (by omega)
  refine ⟨?_, ?_, ?_, fun i hi => ?_, ?_, ?_, ?_, ?_, fun o => ?_⟩
  · rw [cell_apart _ (by omega), cell_apart _ (by omega), cell_apart _ (by omega), cell_apart _ (by omega), cell_apart _ (by omega), cell_apart _ (by omega)]; exact h.deed
  · rw [cell_apart _ (by omega), cell_apart _ (by omega), cell_apart _ (by omega), cell_apart _ (by omega), cell_apart _ (by omega), cell_apart _ (by omega)]; exact h.num
  · rw [cell_apart _ (by omega), cell_apart _ (by omega), cell_apart _ (by omega), cell_apart _ (by omega), cell_apart _ (by omega), cell_apart _ (by omega)]; exact h.place
  · rw [cell_apart _ (by omega), cell_apart _ (by omega), cell_apart _ (by omega), cell_apart _ (by omega), cell_apart _ (by omega), cell_apart _ (by omega)]; exact h.reg i hi
  · rw [cell_apart _ (by omega), cell_apart _ (by omega), cell_apart _ (by omega), cell_apart _ (by omega), cell_apart _ (by omega), cell_apart _ (by omega)]; exact h.sto
  · rw [cell_apart _ (by omega), cell_apart _ (by omega), cell_apart _ (by omega), cell_apart _ (by omega), cell_apart _ (by omega)]; exact World.cell?_setCell_same _ _ _ h.over
  · rw [ho, if_pos rfl, cell_apart _ (by omega), cell_apart _ (by omega), cell_apart _ (by omega), cell_apart _ (by omega)]
    exact World.cell?_setCell_same _ _ _ (by rw [cell_apart _ (by omega)]; exact h.code)
  · rw [ho]
    refine lt4 ?_ ?_ ?_ ?_
    · rw [if_pos rfl, cell_apart _ (by omega), cell_apart _ (by omega), cell_apart _ (by omega)]
      exact World.cell?_setCell_same _ _ _ (by rw [cell_apart _ (by omega), cell_apart _ (by omega)]; exact h10)
    · rw [if_pos rfl, cell_apart _ (by omega), cell_apart _ (by omega)]
      exact World.cell?_setCell_same _ _ _ (by rw [cell_apart _ (by omega), cell_apart _ (by omega), cell_apart _ (by omega)]; exact h11)
    · rw [if_pos rfl, cell_apart _ (by omega)]
      exact World.cell?_setCell_same _ _ _ (by rw [cell_apart _ (by omega), cell_apart _ (by omega), cell_apart _ (by omega), cell_apart _ (by omega)]; exact h12)
    · rw [if_pos rfl]
      exact World.cell?_setCell_same _ _ _ (by rw [cell_apart _ (by omega), cell_apart _ (by omega), cell_apart _ (by omega), cell_apart _ (by omega), cell_apart _ (by omega)]; exact h13)
  · rw [World.frozen?_setCell, World.frozen?_setCell, World.frozen?_setCell, World.frozen?_setCell, World.frozen?_setCell, World.frozen?_setCell]; exact h.free o
theorem six_grown (w : World) (p : Nat) (x0 x1 x2 x3 x4 x5 : Value) : w.grownBy ((((((w.setCell ⟨p, 8, none⟩ x0).setCell ⟨p, 9, none⟩ x1).setCell ⟨p, 10, none⟩ x2).setCell ⟨p, 11, none⟩ x3).setCell ⟨p, 12, none⟩ x4).setCell ⟨p, 13, none⟩ x5) (some p) :=
  grown_trans (grown_trans (grown_trans (grown_trans (grown_trans (grown_setCell _ ⟨p, 8, none⟩ _) (grown_setCell _ ⟨p, 9, none⟩ _)) (grown_setCell _ ⟨p, 10, none⟩ _)) (grown_setCell _ ⟨p, 11, none⟩ _)) (grown_setCell _ ⟨p, 12, none⟩ _)) (grown_setCell _ ⟨p, 13, none⟩ _)

set_option maxRecDepth 100000 in
set_option maxHeartbeats 2000000 in
theorem handEnd_any {w : World} {N NB G D : Nat} {dv : Value} {b : Nat} {d : List Op5} {V : Nat → Value} {x : Wk} {vs : Value} {st : List Op5} {T : Nat → List Slot4} (c : Int) (h : HB w N NB G D dv b d V x vs st T) (hd14 : d.length ≤ 14) (hs14 : st.length ≤ 14) (hc : c = 0 ∨ ∀ k, x.is k = false) :
    Calls Tryd.prog 73 #[.pointer (some ⟨G, 0, none⟩), .pointer (some ⟨D, 0, none⟩), .int .i64 c] w fun e w' => e = .returned (.tuple #[]) ∧ HB w' N NB G D dv b d V (overW x c) vs st (endTo T x (b : Int) (keysF d)) ∧ Grew (handS G V vs) w w' := by
  have q0 := h.hd.over
  have q1 := h.hd.code
  obtain ⟨g0, g1, g2, g3⟩ := (⟨h.hd.reg 0 (by omega), h.hd.reg 1 (by omega), h.hd.reg 2 (by omega), h.hd.reg 3 (by omega)⟩ : _ ∧ _ ∧ _ ∧ _)
  obtain ⟨r0, r1, r2, r3⟩ := (⟨h.hd.res 0 (by omega), h.hd.res 1 (by omega), h.hd.res 2 (by omega), h.hd.res 3 (by omega)⟩ : _ ∧ _ ∧ _ ∧ _)
  have hf := h.hd.free
  have HC : Hid (c = 0 ∨ ∀ k, x.is k = false) := hc
  obtain ⟨W1, e1⟩ : ∃ W1, W1 = (((((w.setCell ⟨G, 8, none⟩ (.bool true)).setCell ⟨G, 9, none⟩ (.int .i64 c)).setCell ⟨G, 10, none⟩ (.int .i64 (x.regs 0))).setCell ⟨G, 11, none⟩ (.int .i64 (x.regs 1))).setCell ⟨G, 12, none⟩ (.int .i64 (x.regs 2))).setCell ⟨G, 13, none⟩ (.int .i64 (x.regs 3)) := ⟨_, rfl⟩
  have h1 : HB W1 N NB G D dv b d V (overW x c) vs st T := by rw [e1]; exact h.hand (h.hd.setEnd c) (six_grown w G _ _ _ _ _ _) h.put h.sl
  have hG1 : Grew (handS G V vs) w W1 := by rw [e1]; exact Grew.of_grown (six_grown w G _ _ _ _ _ _) (.inl rfl)
  have HPUT : Hid (PutOk st x) := h.put
  clear h hc
  go_enter Tryd.func73, Tryd.ntmps73
  go_wp2_with fail
  rw [← e1]
  clear e1 q0 q1 g0 g1 g2 g3 r0 r1 r2 r3 hf
  go_loopg [6] 10 (fun g i wr => ∃ j : Nat, j ≤ 10 ∧ g = 10 - j ∧ i = .int .i64 j ∧ HB wr N NB G D dv b d V (overW x c) vs st (endTo T x (b : Int) ((List.range j).filter (storesF d))) ∧ Grew (handS G V vs) w wr)
  case atStart => exact ⟨0, by omega, by omega, rfl, h1, hG1⟩
  case round =>
    clear h1 hG1
    obtain ⟨j, hj, hg, rfl, h, hG⟩ := hrel
    by_cases hlt : j < 10
    · have hji : (j : Int) < 10 := by omega
      have q0 := h.hd.deed
      have q1 := h.hd.num
      have hst := stores_any dv d (j : Int) wr h.dd.at (by omega)
      rw [storesI_key] at hst
      have hpt := put_any G (j : Int) vs st wr h.hd.sto (deedAt_owns h.so) hs14
      rw [HPUT.out j hlt] at hpt
      have hl9 := h.l9 j hlt
      have hfi := h.fine j hlt
      cases hs : storesF d j with
      | false =>
        rw [hs] at hst
        have hflt : Hid ((List.range (j + 1)).filter (storesF d) = (List.range j).filter (storesF d)) := by
          show _ = _
          rw [List.range_succ, List.filter_append]; simp [hs]
        clear hs hpt
        go_wp2_with fail
        refine hst.mono ?_
        rintro e w2 ⟨rfl, hw2⟩
        rw [hw2]
        clear hst hw2
        go_wp2_with fail
        go_roundg (10 - (j + 1))
        case measure => omega
        case rel => exact ⟨j + 1, by omega, rfl, by go_num, by rw [hflt.out]; exact h, hG⟩
      | true =>
        rw [hs] at hst
        have hflt : Hid ((List.range (j + 1)).filter (storesF d) = (List.range j).filter (storesF d) ++ [j]) := by
          show _ = _
          rw [List.range_succ, List.filter_append]; simp [hs]
        have HT : Hid (endTo T x (b : Int) ((List.range (j + 1)).filter (storesF d)) = settleT (endTo T x (b : Int) ((List.range j).filter (storesF d))) (j : Int) (endOf x (b : Int) j)) := by show _ = _; rw [hflt.out, endTo_snoc]
        have HEN : Hid (endOf x (b : Int) j = if x.is j then ⟨(b : Int), false, false, x.n j⟩ else ⟨(b : Int), false, true, 0⟩) := rfl
        have HFIN : Hid (∀ w' y, y.op = false → BoardAt w' NB D (settleT (endTo T x (b : Int) ((List.range j).filter (storesF d))) (j : Int) y) V → Grew (boardS V) wr w' → endOf x (b : Int) j = y → HB w' N NB G D dv b d V (overW x c) vs st (endTo T x (b : Int) ((List.range (j + 1)).filter (storesF d))) ∧ Grew (handS G V vs) w w') := fun w' y hy hb hgr e => by
          rw [HT.out, e]
          exact ⟨h.board hb hgr (h.fine.settle _ hy) (fun k hk => by rw [settleT_len]; exact h.l9 k hk), hG.trans (hgr.mono fun k hk => .inr (.inl hk))⟩
        clear hs hflt HT
        cases hi : x.is j with
        | true =>
          rw [hi] at hpt HEN
          have hc0 : c = 0 := by
            rcases HC.out with e | e
            · exact e
            · rw [e j] at hi; cases hi
          have tc : (c == 0) = true := by simp [hc0]
          have hset := setB_any NB D j hlt (b : Int) (x.n j) _ V wr h.bd hl9 hfi
          clear hi hc0
          simp only [if_true, Option.getD_some, Option.isSome_some] at hpt
          go_wp2_with (first | (go_at_call 28; refine hst.mono ?_; rintro e w2 ⟨rfl, hw2⟩; rw [hw2]; clear hst hw2) | (go_at_call 74; refine hpt.mono ?_; rintro e w3 ⟨rfl, hw3⟩; rw [hw3]; clear hpt hw3))
          refine hset.mono ?_
          clear hset
          rintro e w4 ⟨⟨t, rfl⟩, hb4, hg4⟩
          have hfin := HFIN.out w4 _ rfl hb4 hg4 HEN.out
          clear h hG hb4 hg4 HFIN
          go_wp2_with fail
          go_roundg (10 - (j + 1))
          case measure => omega
          case rel => exact ⟨j + 1, by omega, rfl, by go_num, hfin.1, hfin.2⟩
        | false =>
          rw [hi] at hpt HEN
          have hvo := voidB_any NB D j hlt (b : Int) _ V wr h.bd hl9 hfi
          clear hi
          simp only [Bool.false_eq_true, if_false, Option.getD_none, Option.isSome_none] at hpt
          go_wp2_with (first | (go_at_call 28; refine hst.mono ?_; rintro e w2 ⟨rfl, hw2⟩; rw [hw2]; clear hst hw2) | (go_at_call 74; refine hpt.mono ?_; rintro e w3 ⟨rfl, hw3⟩; rw [hw3]; clear hpt hw3))
          refine hvo.mono ?_
          clear hvo
          rintro e w4 ⟨⟨t, rfl⟩, hb4, hg4⟩
          have hfin := HFIN.out w4 _ rfl hb4 hg4 HEN.out
          clear h hG hb4 hg4 HFIN
          go_wp2_with fail
          go_roundg (10 - (j + 1))
          case measure => omega
          case rel => exact ⟨j + 1, by omega, rfl, by go_num, hfin.1, hfin.2⟩
    · obtain rfl : j = 10 := by omega
      go_wp2_with fail
      go_end0
      exact ⟨rfl, h, hG⟩
end Go.Proofs.YthlhbmldfjkagaaDoor
