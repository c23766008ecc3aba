/-
  The walks of a builder's Grow, and of strings.Join. The walk of strings.Join. The walks of a desk's say and tell.
-/
import Derived.Test.YtehkjbpgibdgpadGreatDoorJqDa
import Derived.Lib.MakeNoZero
import Derived.Laws.IdiomCopy
import Derived.Test.YtehkjbpgibdgpadGreatDoorJqSq
namespace Go.Proofs.YtehkjbpgibdgpadGreatDoor
open Go.RowKit

/-- A row of texts as it lies in memory, in blocks of which something is known. -/
def StrsIn (Q : Nat → Prop) (w : World) (v : Value) (ws : List (List UInt8)) : Prop :=
  ∃ a cap, v = .slice a ws.length cap ∧ ws.length ≤ cap ∧ ∀ i (h : i < ws.length), ∃ b off, Q b ∧ a = some ⟨b, off, none⟩ ∧ w.cell? ⟨b, off + i, none⟩ = some (.string (strB ws[i]))
theorem StrsIn.grew {Q S : Nat → Prop} {w w' : World} {v : Value} {ws : List (List UInt8)} (h : StrsIn Q w v ws) (hg : Grew S w w') (hS : ∀ b, Q b → ¬ S b) : StrsIn Q w' v ws := by
  obtain ⟨a, cap, rfl, hc, h⟩ := h
  refine ⟨a, cap, rfl, hc, fun i hi => ?_⟩
  obtain ⟨b, off, hq, e, hc⟩ := h i hi
  exact ⟨b, off, hq, e, hg.cell hc (hS b hq)⟩
theorem StrsIn.later {Q : Nat → Prop} {w w' : World} {v : Value} {ws : List (List UInt8)} (h : StrsIn Q w v ws) (hb : Below w.heap.size w w') : StrsIn Q w' v ws := h.grew (S := fun _ => False) (Grew.of_below hb) (fun _ _ h => h)
theorem StrsIn.mono {Q R : Nat → Prop} {w : World} {v : Value} {ws : List (List UInt8)} (h : StrsIn Q w v ws) (hQ : ∀ b, b < w.heap.size → Q b → R b) : StrsIn R w v ws := by
  obtain ⟨a, cap, rfl, hc, h⟩ := h
  refine ⟨a, cap, rfl, hc, fun i hi => ?_⟩
  obtain ⟨b, off, hq, e, hc⟩ := h i hi
  exact ⟨b, off, hQ b (World.block_lt_of_cell? w _ hc) hq, e, hc⟩
def strVs (ws : List (List UInt8)) : List Value := ws.map fun l => .string (strB l)
theorem strVs_append (a b : List (List UInt8)) : strVs (a ++ b) = strVs a ++ strVs b := by simp [strVs]
theorem owns_strs {w : World} {base : Nat} {e : TypeId} {v : Value} {ws : List (List UInt8)} (h : w.ownsRow base e 1 v ws.length (strVs ws)) : StrsIn (fun b => base ≤ b) w v ws := by
  obtain ⟨a, cap, rfl, hc⟩ := owns_slice h
  refine ⟨a, cap, rfl, hc, fun i hi => ?_⟩
  obtain ⟨g, cap', e1, hcell⟩ := owns_cells h (by omega)
  injection e1 with e1 e2 e3
  subst e1
  refine ⟨g, 0, (owns_lt h rfl).1, rfl, ?_⟩
  have := hcell i (.string (strB ws[i])) (by simp [strVs, hi])
  simpa using this

set_option maxRecDepth 100000 in
set_option maxHeartbeats 2000000 in
theorem grow_any (b n : Nat) (w : World) (hbk : w.heap[b]? = some (.cells #[.pointer (some ⟨b, 0, none⟩), .slice none 0 0] 55 (0, 0))) (hn : n ≤ 1000000) :
    Calls Tryz.prog 124 #[.pointer (some ⟨b, 0, none⟩), .int .i64 n] w fun e w' => e = .returned (.tuple #[]) ∧ Bd b [] w' ∧ Below b w w' := by
  have hlt : b < w.heap.size := (Array.getElem?_eq_some_iff.1 hbk).1
  obtain ⟨cs, hrun, hle, hmax⟩ := Lib.run_makeNoZero (P := Tryz.prog) w.drew #[3] 53 5 Tryz.underlying53 n (by omega)
  have hcall : (callFunc 147 #[.int .i64 (n : Int)]).run Tryz.prog w.drew = .ok (.value (.slice (some ⟨w.drew.heap.size, 0, none⟩) n cs.size)) (w.drew.drew.drew.alloc (.cells cs 5)) := by
    rw [run_callFunc_extern Tryz.func147 (by kernel_rfl) (by kernel_rfl) (by kernel_rfl) (e := Extern.BytealgMakeNoZero.makeNoZero #[3] #[53]) (by kernel_rfl), hrun]
    rfl
  have c1 : w.drew.cell? ⟨b, 1, none⟩ = some (.slice none 0 0) := by
    have : w.drew.heap[b]? = _ := hbk
    rw [Lib.cell_of_heap this]; rfl
  have c2 : (w.alloc (.cells cs 5)).cell? ⟨b, 1, none⟩ = some (.slice none 0 0) := by
    have : (w.alloc (.cells cs 5)).heap[b]? = _ := (Lib.alloc_old w _ b hlt).trans hbk
    rw [Lib.cell_of_heap this]; rfl
  have f2 : (w.alloc (.cells cs 5)).frozen? ⟨b, 1, none⟩ = false := Lib.frozen_of_heap ((Lib.alloc_old w _ b hlt).trans hbk) 1
  have hcopy : ∀ W : World, (Builtin.copy_ #[53, 53] 3 #[.slice (some ⟨w.heap.size, 0, none⟩) 0 cs.size, .slice none 0 0]).run Tryz.prog W = .ok (goInt 0) W :=
    fun W => run_copy_none W 53 53 3 5 _ _ 0 cs.size 0 0 Tryz.underlying53 (by kernel_rfl) rfl
  have hfin := Lib.grown_fresh (T := 55) (e := 5) (cs := cs) (Nat.le_refl b) hbk (Nat.le_of_lt hlt) (hmax (by unfold maxLen; omega)) (by decide)
  have HF : Hid _ := hfin
  clear hlt hfin hbk hmax
  go_enter Tryz.func124, Tryz.ntmps124
  go_wp2
  go_region
  all_goals (go_wp2; go_end0; exact ⟨rfl, Lib.IsBuilderF.of (.inr HF.out.1), HF.out.2⟩)

set_option maxRecDepth 100000 in
set_option maxHeartbeats 2000000 in
theorem Grow_any (b n : Nat) (w : World) (hbk : w.heap[b]? = some (.cells #[.pointer none, .slice none 0 0] 55 (0, 0))) (h0 : 0 < n) (hn : n ≤ 1000000) :
    Calls Tryz.prog 90 #[.pointer (some ⟨b, 0, none⟩), .int .i64 n] w fun e w' => e = .returned (.tuple #[]) ∧ Bd b [] w' ∧ Below b w w' := by
  have hcc := copyCheck_fresh b w (by rw [Lib.cell_of_heap hbk]; rfl) (by simp [World.shape?, hbk]) (Lib.frozen_of_heap hbk 0)
  have hbk1 : (w.setCell ⟨b, 0, none⟩ (.pointer (some ⟨b, 0, none⟩))).heap[b]? = some (.cells #[.pointer (some ⟨b, 0, none⟩), .slice none 0 0] 55 (0, 0)) := heap_set hbk _
  have hg := fun W (hW : W.heap[b]? = some (.cells #[.pointer (some ⟨b, 0, none⟩), .slice none 0 0] 55 (0, 0))) => grow_any b n W hW hn
  have hb1 : Below b w (w.setCell ⟨b, 0, none⟩ (.pointer (some ⟨b, 0, none⟩))) := (Below.refl b w).setCell (p := ⟨b, 0, none⟩) (Nat.le_refl _) _
  obtain ⟨W1, e1⟩ : ∃ W1, W1 = w.setCell ⟨b, 0, none⟩ (.pointer (some ⟨b, 0, none⟩)) := ⟨_, rfl⟩
  rw [← e1] at hcc hbk1 hb1
  clear e1 hbk
  have c1 : W1.cell? ⟨b, 1, none⟩ = some (.slice none 0 0) := by rw [Lib.cell_of_heap hbk1]; rfl
  have t0 : ¬ (n : Int) < 0 := by omega
  have t1 : (0 : Int) < (n : Int) := by omega
  have HB : Hid (W1.heap[b]? = some (.cells #[.pointer (some ⟨b, 0, none⟩), .slice none 0 0] 55 (0, 0))) := hbk1
  clear hbk1
  go_enter Tryz.func90, Tryz.ntmps90
  go_wp2_with fail
  refine hcc.mono ?_
  rintro e w1 ⟨rfl, rfl⟩
  clear hcc
  go_wp2_with fail
  go_region
  all_goals go_wp2_with fail
  all_goals refine (hg w1.drew HB.out).mono ?_
  all_goals rintro e w2 ⟨rfl, h2, hb2⟩
  all_goals go_wp2_with fail
  all_goals go_end0
  all_goals exact ⟨rfl, h2, hb1.drew.trans hb2⟩
end Go.Proofs.YtehkjbpgibdgpadGreatDoor
namespace Go.Proofs.YtehkjbpgibdgpadGreatDoor
open Go.RowKit

theorem joinTail_len (r : List (List UInt8)) : (Lib.joinTail [32] r).length = Lib.lens r + r.length := by
  induction r with
  | nil => rfl
  | cons x r ih =>
    have e1 : Lib.joinTail [32] (x :: r) = [32] ++ x ++ Lib.joinTail [32] r := by simp [Lib.joinTail]
    have e2 : Lib.lens (x :: r) = x.length + Lib.lens r := by simp [Lib.lens]
    rw [e1, e2]; simp only [List.length_append, List.length_cons, List.length_nil, ih]; omega
theorem join_len (x : List UInt8) (r : List (List UInt8)) : (Lib.join (x :: r) [32]).length = x.length + Lib.lens r + r.length := by
  rw [Lib.join_cons, List.length_append, joinTail_len]; omega

set_option maxRecDepth 100000 in
set_option maxHeartbeats 1000000 in
theorem join_one {Q : Nat → Prop} (x : List UInt8) (v : Value) (w : World) (h : StrsIn Q w v [x]) :
    Calls Tryz.prog 67 #[v, .string ⟨#[32]⟩] w fun e w' => e = .returned (.string (strB x)) ∧ w' = w := by
  obtain ⟨a, cap, rfl, -, h⟩ := h
  obtain ⟨b, off, -, rfl, hc⟩ := h 0 (by simp)
  simp only [List.getElem_cons_zero, Nat.add_zero] at hc
  clear h
  go_enter Tryz.func67, Tryz.ntmps67
  go_wp2_with fail
  go_ret
  exact ⟨rfl, rfl⟩

set_option maxRecDepth 100000 in
set_option maxHeartbeats 1000000 in
theorem join_many {Q : Nat → Prop} (x : List UInt8) (r : List (List UInt8)) (v : Value) (w : World) (h : StrsIn Q w v (x :: r)) (h0 : r ≠ []) (hl : (Lib.join (x :: r) [32]).length ≤ 100000) :
    Calls Tryz.prog 67 #[v, .string ⟨#[32]⟩] w fun e w' => e = .returned (.string (strB (Lib.join (x :: r) [32]))) ∧ Below w.heap.size w w' := by
  rw [join_len] at hl
  obtain ⟨a, cap, rfl, hcap, h⟩ := h
  obtain ⟨b, off, -, rfl, hc0⟩ := h 0 (by simp)
  simp only [List.getElem_cons_zero, Nat.add_zero] at hc0
  have hpos : 0 < r.length := List.length_pos_iff.2 h0
  have HC : Hid (∀ i (hi : i < r.length), w.cell? ⟨b, off + 1 + i, none⟩ = some (.string (strB r[i]))) := fun i hi => by
    obtain ⟨b', off', -, e, hc⟩ := h (i + 1) (by simp; omega)
    injection e with e
    injection e with e1 e2
    subst e1 e2
    simp only [List.getElem_cons_succ] at hc
    rw [show off + 1 + i = off + (i + 1) by omega]; exact hc
  obtain ⟨n, hn⟩ : ∃ n, n = r.length := ⟨_, rfl⟩
  have hlen : (x :: r).length = n + 1 := by simp [hn]
  rw [hlen] at hcap ⊢
  have HN : Hid (n = r.length) := hn
  have HL : Hid (∀ j, Lib.lens (r.take j) ≤ Lib.lens r) := fun j => Lib.lens_take_le r j
  have hj : Hid (Lib.join (x :: r) [32] = x ++ Lib.joinTail [32] r) := Lib.join_cons x r [32]
  rw [hj.out]
  rw [← hn] at hl hpos
  obtain ⟨L, hL⟩ : ∃ L, L = Lib.lens r := ⟨_, rfl⟩
  rw [← hL] at hl HL
  have HLr : Hid (L = Lib.lens r) := hL
  clear h hn hL h0 hlen
  have hS1 : (⟨#[32]⟩ : ByteArray).size = 1 := rfl
  have hSx : (strB x).size = x.length := rfl
  have t0 : ((n : Int) + 1 == 0) = false := by simp; omega
  have t1 : ((n : Int) + 1 == 1) = false := by simp; omega
  have t2 : ¬ (9223372036854775807 : Int) / (n : Int) ≤ 1 := by
    have : (9223372036854775807 : Int) / (n : Int) ≥ 9223372036854775807 / 100000 := by
      apply Int.le_ediv_of_mul_le (by omega)
      omega
    omega
  have HA : Hid (∀ j, j < n + 1 → ∃ y, (x :: r)[j]? = some y ∧ w.cell? ⟨b, off + j, none⟩ = some (.string (strB y))) := fun j hj => by
    cases j with
    | zero => exact ⟨x, rfl, hc0⟩
    | succ j =>
      have hjr : j < r.length := by have := HN.out; omega
      refine ⟨r[j], by simp [hjr], ?_⟩
      rw [show off + (j + 1) = off + 1 + j by omega]; exact HC.out j hjr
  have HT : Hid (Lib.lens ((x :: r).take (n + 1)) = x.length + L) := by
    show _ = _
    rw [List.take_of_length_le (by have := HN.out; simp; omega), HLr.out]; simp [Lib.lens]
  have HM : Hid (∀ j, Lib.lens ((x :: r).take j) ≤ x.length + L) := fun j => by
    have := Lib.lens_take_le (x :: r) j
    have e : Lib.lens (x :: r) = x.length + L := by rw [HLr.out]; simp [Lib.lens]
    omega
  have hbk : ∀ W : World, (W.alloc (.cells #[.pointer none, .slice none 0 0] 55)).heap[W.heap.size]? = some (.cells #[.pointer none, .slice none 0 0] 55 (0, 0)) := fun W => heap_alloc_new W _
  have HG : Hid (∀ q : Nat, 0 < q → q ≤ 1000000 → Calls Tryz.prog 90 #[.pointer (some ⟨w.heap.size, 0, none⟩), .int .i64 q] (w.alloc (.cells #[.pointer none, .slice none 0 0] 55)) fun e w' => e = .returned (.tuple #[]) ∧ Bd w.heap.size [] w' ∧ Below w.heap.size (w.alloc (.cells #[.pointer none, .slice none 0 0] 55)) w') := fun q h1 h2 => Grow_any _ q _ (hbk w) h1 h2
  clear hbk
  go_enter Tryz.func67, Tryz.ntmps67
  go_wp2_with fail
  go_loop [5, 41] (fun m i => ∃ j q : Nat, j ≤ n + 1 ∧ i = .int .i64 j ∧ m = .int .i64 q ∧ q ≤ 100000 ∧ Hid (q = n + Lib.lens ((x :: r).take j))) (fun m i => n + 1 - (intOf i).toNat)
  case atStart => exact ⟨0, n, by omega, rfl, rfl, by omega, rfl⟩
  case round =>
    obtain ⟨j, q, hj, rfl, rfl, hq, hQ⟩ := hrel
    by_cases hlt : j < n + 1
    · obtain ⟨y, hy, hc⟩ := HA.out j hlt
      have hSy : (strB y).size = y.length := rfl
      have hs := Lib.lens_take_succ (x :: r) j y hy
      have hm := HM.out (j + 1)
      have hq' : q + y.length ≤ 100000 := by have := hQ.out; omega
      have hQ' : Hid (q + y.length = n + Lib.lens ((x :: r).take (j + 1))) := by show _ = _; have := hQ.out; omega
      have t3 : ¬ (9223372036854775807 : Int) - (q : Int) < (y.length : Int) := by omega
      have t4 : (j : Int) < (n : Int) + 1 := by omega
      clear hs hm hy hQ
      go_wp2_with fail
      go_round
      case rel => exact ⟨j + 1, q + y.length, by omega, by go_num, by go_num, hq', hQ'⟩
      case measure => simp [intOf]; omega
    · obtain rfl : j = n + 1 := by omega
      have t4 : ¬ ((n + 1 : Nat) : Int) < (n : Int) + 1 := by omega
      have hqe : q = n + (x.length + L) := by rw [hQ.out, HT.out]
      have hg := HG.out q (by omega) (by omega)
      clear hQ hqe hq
      go_wp2_with fail
      refine hg.mono ?_
      clear hg HG
      rintro e w1 ⟨rfl, hB1, hb1⟩
      have hA0 : Below w.heap.size w (w.alloc (.cells #[.pointer none, .slice none 0 0] 55)) := (Below.refl _ _).alloc (Nat.le_refl _) _
      have hw1 : Below w.heap.size w w1 := hA0.trans hb1
      have d0 := cell_later hw1 hc0
      clear hA0 hb1
      go_wp2_with fail
      refine (writeS_any w.heap.size [] x _ hB1 (by simp only [List.length_nil]; omega)).mono ?_
      rintro e w2 ⟨⟨v2, rfl⟩, hB2, hb2, -⟩
      have hw2 : Below w.heap.size w w2 := hw1.trans hb2
      have hB2' : Hid (Bd w.heap.size (x ++ Lib.joinTail [32] (r.take 0)) w2) := by
        show Bd _ _ _
        rw [List.take_zero, show Lib.joinTail [32] [] = [] from rfl, List.append_nil]; exact hB2
      clear hB1 hw1 d0 hb2 hB2
      have c0 : ¬ cap = 1 := by omega
      go_wp2_with fail
      go_loopg [65] n (fun g i wr => ∃ j : Nat, j ≤ n ∧ g = n - j ∧ i = .int .i64 j ∧ Hid (Bd w.heap.size (x ++ Lib.joinTail [32] (r.take j)) wr) ∧ Below w.heap.size w wr)
      case atStart => exact ⟨0, by omega, by omega, rfl, hB2', hw2⟩
      case round =>
        clear hB2' hw2
        obtain ⟨j, hj, hg, rfl, hB, hb⟩ := hrel
        by_cases hlt : j < n
        · have hjr : j < r.length := by have := HN.out; omega
          have hcj := cell_later hb (HC.out j hjr)
          have hm := HL.out j
          have hm1 := HL.out (j + 1)
          have hs := Lib.lens_take_succ r j r[j] (by simp [hjr])
          have e1 : Hid ((x ++ Lib.joinTail [32] (r.take j)).length ≤ 100000) := by
            show _ ≤ _
            rw [List.length_append, joinTail_len, List.length_take]; omega
          have e2 : Hid ((x ++ Lib.joinTail [32] (r.take j) ++ [32]).length + r[j].length ≤ 100001) := by
            show _ ≤ _
            rw [List.length_append, List.length_append, joinTail_len, List.length_take]; simp only [List.length_cons, List.length_nil]; omega
          have e3 : Hid (x ++ Lib.joinTail [32] (r.take (j + 1)) = x ++ Lib.joinTail [32] (r.take j) ++ [32] ++ r[j]) := by
            show _ = _
            rw [Lib.joinTail_take_succ [32] r j r[j] (by simp [hjr])]; simp
          clear hm hm1 hs
          obtain ⟨y, ey⟩ : ∃ y, y = r[j] := ⟨_, rfl⟩
          rw [← ey] at hcj e2 e3
          clear ey
          have t5 : (j : Int) < (n : Int) := by omega
          go_wp2_with fail
          refine (writeS_any w.heap.size _ [32] _ hB.out (by have := e1.out; simp only [List.length_cons, List.length_nil]; omega)).mono ?_
          rintro e w3 ⟨⟨v3, rfl⟩, hB3, hb3, -⟩
          have hw3 : Below w.heap.size w w3 := hb.trans hb3
          have HB3 : Hid (Bd w.heap.size (x ++ Lib.joinTail [32] (r.take j) ++ [32]) w3) := hB3
          clear hb3 hB3 hcj hB
          go_wp2_with fail
          refine (writeS_any w.heap.size _ y _ HB3.out (by have := e2.out; omega)).mono ?_
          rintro e w4 ⟨⟨v4, rfl⟩, hB4, hb4, -⟩
          have hw4 : Below w.heap.size w w4 := hw3.trans hb4
          have HB4 : Hid (Bd w.heap.size (x ++ Lib.joinTail [32] (r.take (j + 1))) w4) := by show Bd _ _ _; rw [e3.out]; exact hB4
          clear hb4 hB4 HB3 hw3
          go_wp2_with fail
          go_roundg (n - (j + 1))
          case measure => omega
          case rel => exact ⟨j + 1, by omega, rfl, by go_num, HB4, hw4⟩
        · obtain rfl : j = n := by omega
          have e4 : Hid (r.take j = r) := List.take_of_length_le (by have := HN.out; omega)
          go_wp2_with fail
          refine (Tryz.Builder_String_any_k w.heap.size w.heap.size _ _ hB.out hb.size).mono ?_
          rintro e w3 ⟨rfl, -, hb3, -⟩
          have hw3 : Below w.heap.size w w3 := hb.trans hb3
          clear hb3
          go_wp2_with fail
          go_ret
          exact ⟨by rw [e4.out]; rfl, hw3⟩

/-- strings.Join, of one text at least. -/
theorem join_any {Q : Nat → Prop} {ws : List (List UInt8)} (v : Value) (w : World) (h : StrsIn Q w v ws) (h0 : ws ≠ []) (hl : (Lib.join ws [32]).length ≤ 100000) :
    Calls Tryz.prog 67 #[v, .string ⟨#[32]⟩] w fun e w' => e = .returned (.string (strB (Lib.join ws [32]))) ∧ Below w.heap.size w w' := by
  match ws, h0 with
  | [x], _ =>
    refine (join_one x v w h).mono ?_
    rintro e w' ⟨rfl, rfl⟩
    exact ⟨by rw [Lib.join_one], Below.refl _ _⟩
  | x :: y :: r, _ => exact join_many x (y :: r) v w h (by simp) hl
end Go.Proofs.YtehkjbpgibdgpadGreatDoor
namespace Go.Proofs.YtehkjbpgibdgpadGreatDoor
open Go.RowKit

section
variable {P Q : Nat → Prop} {w : World} {B : Nat} {t : List UInt8} {D : DSt}

theorem weaker {w1 : World} (h : w.heap.size ≤ w1.heap.size) {t' : List UInt8} {D' : DSt} {w2 : World} (hd : DeskAt (fun b => P b ∨ w1.heap.size ≤ b) w2 B t' D') : DeskAt (fun b => P b ∨ w.heap.size ≤ b) w2 B t' D' := hd.mono fun _b _ hb => hb.imp id fun hb => Nat.le_trans h hb
theorem weaker2 {w1 : World} (h : w.heap.size ≤ w1.heap.size) {t' : List UInt8} {D' : DSt} {w2 : World} (hd : DeskAt (fun b => (P b ∨ w.heap.size ≤ b) ∨ w1.heap.size ≤ b) w2 B t' D') : DeskAt (fun b => P b ∨ w.heap.size ≤ b) w2 B t' D' := hd.mono fun _b _ hb => hb.elim id fun hb => .inr (Nat.le_trans h hb)

set_option maxRecDepth 100000 in
set_option maxHeartbeats 1000000 in
theorem say_any {ws : List (List UInt8)} {v : Value} (h : DeskAt P w B t D) (hs : StrsIn Q w v ws) (h0 : ws ≠ []) (hl : (Lib.join ws [32]).length ≤ 100000) (ht : t.length ≤ 1000000000) :
    Calls Tryz.prog 29 #[.pointer (some ⟨B, 0, none⟩), v] w fun e w' => e = .returned (.tuple #[]) ∧ DeskAt (fun b => P b ∨ w.heap.size ≤ b) w' B (t ++ sayB ws) D ∧ Grew P w w' := by
  have hj := join_any v w.drew (hs.later (Below.refl _ _).drew) h0 hl
  have HW : Hid (∀ w1, Below w.drew.heap.size w.drew w1 → Calls Tryz.prog 66 #[.pointer (some ⟨B, 0, none⟩), .string (strB (Lib.join ws [32]))] w1 fun e w' => (∃ v, e = .returned v) ∧ DeskAt (fun b => P b ∨ w.heap.size ≤ b) w' B (t ++ Lib.join ws [32]) D ∧ Grew P w w') := fun w1 hb1 => by
    have hb : Below w.heap.size w w1 := (Below.refl _ _).drew.trans hb1
    refine (writeD_any (h.later hb) _ (by omega)).mono ?_
    rintro e w2 ⟨hv, h2, hg2⟩
    exact ⟨hv, weaker hb.size h2, (Grew.of_below hb).trans hg2⟩
  have HW2 : Hid (∀ w2, DeskAt (fun b => P b ∨ w.heap.size ≤ b) w2 B (t ++ Lib.join ws [32]) D → Grew P w w2 → Calls Tryz.prog 66 #[.pointer (some ⟨B, 0, none⟩), .string ⟨#[10]⟩] w2 fun e w' => (∃ v, e = .returned v) ∧ DeskAt (fun b => P b ∨ w.heap.size ≤ b) w' B (t ++ sayB ws) D ∧ Grew P w w') := fun w2 h2 hg2 => by
    refine (writeD_any h2 [10] (by simp only [List.length_append, List.length_cons, List.length_nil]; omega)).mono ?_
    rintro e w3 ⟨hv, h3, hg3⟩
    refine ⟨hv, ?_, grew_then hg2 hg3⟩
    rw [sayB, ← List.append_assoc]
    exact weaker2 hg2.size h3
  obtain ⟨a, cap, rfl, -⟩ := id hs
  generalize Lib.join ws [32] = jn at *
  generalize ws.length = n at *
  clear hs h hl
  go_enter Tryz.func29, Tryz.ntmps29
  go_wp2_with fail
  go_region_with (first | (go_at_call 67; refine hj.mono ?_; rintro e w1 ⟨rfl, hb1⟩) | (go_at_call 66; refine (HW.out _ hb1).mono ?_; rintro e w2 ⟨⟨v2, rfl⟩, h2, hg2⟩))
  all_goals go_wp2_with fail
  all_goals refine (HW2.out _ h2 hg2).mono ?_
  all_goals rintro e w3 ⟨⟨v3, rfl⟩, h3, hg3⟩
  all_goals go_wp2_with fail
  all_goals go_end0
  all_goals exact ⟨rfl, h3, hg3⟩

theorem infoStr : (Tryz.prog.info? 9).map (fun i => (i.zero, i.size, i.bytes)) = some (some (.string ⟨#[]⟩), 1, 16) := by kernel_rfl
theorem strVs_one (ws : List (List UInt8)) : ∀ u ∈ strVs ws, u.oneCell' = true := by
  intro u hu
  obtain ⟨l, -, rfl⟩ := List.mem_map.1 hu
  rfl

set_option maxRecDepth 100000 in
set_option maxHeartbeats 1000000 in
theorem tell_any {ns : List Int} {v : Value} (m : List UInt8) (h : DeskAt P w B t D) (hE : EnvP P w) (hn : NumsAt w v ns) (h64 : ∀ n ∈ ns, I64 n) (hl : ns.length ≤ 100) (hm : m.length ≤ 100) (ht : t.length ≤ 1000000000) :
    Calls Tryz.prog 44 #[.pointer (some ⟨B, 0, none⟩), .string (strB m), v] w fun e w' => e = .returned (.tuple #[]) ∧ DeskAt (fun b => P b ∨ w.heap.size ≤ b) w' B (t ++ tellB m ns) D ∧ Grew P w w' := by
  obtain ⟨i0, hi, hz0, hz1, hz2⟩ := info_parts infoStr
  obtain ⟨a, cap, rfl, hn⟩ := hn
  have HN : Hid (∀ i (h : i < ns.length), ∃ b off, a = some ⟨b, off, none⟩ ∧ w.cell? ⟨b, off + i, none⟩ = some (.int .i64 ns[i])) := hn
  clear hn
  have HS : Hid (∀ (wr : World) (v : Value), Below w.heap.size w wr → wr.ownsRow w.heap.size 9 1 v (ns.length + 1) (strVs (m :: ns.map Lib.itoa)) → Calls Tryz.prog 29 #[.pointer (some ⟨B, 0, none⟩), v] wr fun e w' => e = .returned (.tuple #[]) ∧ DeskAt (fun b => P b ∨ w.heap.size ≤ b) w' B (t ++ tellB m ns) D ∧ Grew P w w') := fun wr v hb ho => by
    have hlen : (m :: ns.map Lib.itoa).length = ns.length + 1 := by simp
    rw [← hlen] at ho
    have hjl : (Lib.join (m :: ns.map Lib.itoa) [32]).length ≤ 100000 := by
      have := tellB_len (w := m) h64
      rw [tellB, sayB, List.length_append] at this
      simp only [List.length_cons, List.length_nil] at this
      omega
    refine (say_any (h.later hb) (owns_strs ho) (by simp) hjl ht).mono ?_
    rintro e w2 ⟨he, h2, hg2⟩
    exact ⟨he, weaker hb.size h2, (Grew.of_below hb).trans hg2⟩
  have HE : Hid (Env w) := hE.env
  obtain ⟨n, en⟩ : ∃ n, n = ns.length := ⟨_, rfl⟩
  rw [← en] at HS ⊢ hl
  have En : Hid (n = ns.length) := en
  clear en h hE
  have hO0 : Hid ((w.alloc (.cells #[.string (strB m)] 9)).ownsRow w.heap.size 9 1 (.slice (some ⟨w.heap.size, 0, none⟩) 1 1) 1 (strVs (m :: (ns.take 0).map Lib.itoa))) := ⟨rfl, .inr ⟨w.heap.size, 1, _, rfl, Nat.le_refl _, heap_alloc_new w _, Nat.le_refl _, by decide, rfl, rfl⟩⟩
  have hB0 : Below w.heap.size w (w.alloc (.cells #[.string (strB m)] 9)) := (Below.refl _ _).alloc (Nat.le_refl _) _
  go_enter Tryz.func44, Tryz.ntmps44
  go_wp2_with fail
  go_loopg [6, 13] n (fun g al i wr => ∃ j : Nat, j ≤ n ∧ g = n - j ∧ i = .int .i64 j ∧ Hid (wr.ownsRow w.heap.size 9 1 al (j + 1) (strVs (m :: (ns.take j).map Lib.itoa))) ∧ Below w.heap.size w wr)
  case atStart => exact ⟨0, by omega, by omega, rfl, hO0, hB0⟩
  case round =>
    clear hO0 hB0
    obtain ⟨j, hj, hg, rfl, hO, hb⟩ := hrel
    obtain ⟨al, acap, rfl, hac⟩ := owns_slice hO.out
    by_cases hlt : j < n
    · have hjn : j < ns.length := by have := En.out; omega
      obtain ⟨b, off, rfl, hc⟩ := HN.out j hjn
      replace hc := cell_later hb hc
      have hx64 : I64 ns[j] := h64 _ (List.getElem_mem hjn)
      have hT : Hid (strVs (m :: (ns.take (j + 1)).map Lib.itoa) = strVs (m :: (ns.take j).map Lib.itoa) ++ [.string (strB (Lib.itoa ns[j]))]) := by
        show _ = _
        rw [List.take_succ_eq_append_getElem hjn]
        simp only [strVs, List.map_cons, List.map_append, List.map_nil, List.cons_append]
      obtain ⟨x, ex⟩ : ∃ x, x = ns[j] := ⟨_, rfl⟩
      rw [← ex] at hc hx64 hT
      have hf := fmt_any hx64 wr (HE.out.later hb)
      clear ex hx64
      generalize Lib.itoa x = y at *
      have t5 : (j : Int) < (n : Int) := by omega
      go_wp2_with fail
      refine hf.mono ?_
      clear hf hc
      rintro e w1 ⟨rfl, hb1⟩
      have hw1 : Below w.heap.size w w1 := hb.trans (hb1.mono hb.size)
      have hO1 : Hid ((w1.alloc (.cells #[.string (strB y)] 9)).ownsRow w.heap.size 9 1 (.slice al (j + 1) acap) (j + 1) (strVs (m :: (ns.take j).map Lib.itoa))) := (owns_kept hO.out fun g hg => hb1.block g (owns_lt hO.out hg).2).alloc _
      have HNw : Hid (∀ j u, [Value.string (strB y)][j]? = some u → (w1.alloc (.cells #[.string (strB y)] 9)).cell? ((⟨w1.heap.size, 0, none⟩ : Addr).add j) = some u) := cell_one_new w1 _ _
      have hz := hw1.size
      clear hO hb1 hb
      go_wp2_with (at_builtin; refine wpList_append_own _ rfl _ _ 22 rfl w.heap.size 9 i0 (.string ⟨#[]⟩) 1 16 Tryz.underlying22 hi hz0 hz1 hz2 rfl (by decide) _ _ _ rfl hO1.out ⟨w1.heap.size, 0, none⟩ 1 1 [.string (strB y)] rfl rfl HNw.out (by simp [Value.oneCell']) (by unfold maxLen; omega) (by omega) (by simp; omega) ?_; intro v2 w2 hO2 hg2 _)
      have hw2 : Below w.heap.size w w2 := (hw1.alloc hz _).grown hg2 (by simp; omega) (fun k hk => (hO1.out.lt k hk).1)
      have HO2 : Hid (w2.ownsRow w.heap.size 9 1 v2 (j + 1 + 1) (strVs (m :: (ns.take (j + 1)).map Lib.itoa))) := by
        show World.ownsRow _ _ _ _ _ _ _
        rw [hT.out]; exact hO2
      clear hO2 hg2 hO1 HNw hT hw1
      go_wp2_with fail
      go_roundg (n - (j + 1))
      case measure => omega
      case rel => exact ⟨j + 1, by omega, rfl, by go_num, HO2, hw2⟩
    · obtain rfl : j = n := by omega
      have hs := HS.out wr (.slice al (j + 1) acap) hb (by
        have h1 := hO.out
        rw [List.take_of_length_le (by have := En.out; omega)] at h1
        exact h1)
      clear hO
      go_wp2_with fail
      refine hs.mono ?_
      rintro e w2 ⟨rfl, h2, hg2⟩
      go_wp2_with fail
      go_end0
      exact ⟨rfl, h2, hg2⟩
end
end Go.Proofs.YtehkjbpgibdgpadGreatDoor
