/-
  The walks of strings.Builder's WriteString, of text.numbersOf and text.printOp.
-/
import Derived.Test.YtdohockbmphhfacDoorTxF
namespace Go.Proofs.YtdohockbmphhfacDoor
open Go.RowKit

theorem sizeBd : (Tryd.prog.info? 125).map (·.size) = some 2 := by kernel_rfl
theorem liesBd : liesAt Tryd.prog Tryd.prog.depth 125 (2 / Tryd.prog.cellsOf 125) 0 125 1 = true := by kernel_rfl
theorem infoBy : (Tryd.prog.info? 5).map (fun i => (i.zero, i.size, i.bytes)) = some (some (.int .u8 0), 1, 1) := by kernel_rfl

set_option maxRecDepth 100000 in
set_option maxHeartbeats 1000000 in
theorem copyCheck_used (b : Nat) (w : World) (h0 : w.cell? ⟨b, 0, none⟩ = some (.pointer (some ⟨b, 0, none⟩))) :
    Calls Tryd.prog 95 #[.pointer (some ⟨b, 0, none⟩)] w fun e w' => e = .returned (.tuple #[]) ∧ w' = w := by
  obtain ⟨j, hj, -⟩ := Option.map_eq_some_iff.1 sizeBd
  go_enter Tryd.func95, Tryd.ntmps95
  go_wp2
  rw [Lib.run_neq_ptr_same w _ Tryd.underlying123 hj]
  go_wp2
  go_end0
  exact ⟨rfl, rfl⟩

set_option maxRecDepth 100000 in
set_option maxHeartbeats 1000000 in
theorem copyCheck_fresh (b : Nat) (w : World) (h0 : w.cell? ⟨b, 0, none⟩ = some (.pointer none)) (hsh : w.shape? b = some (125, 2)) (hfz : w.frozen? ⟨b, 0, none⟩ = false) :
    Calls Tryd.prog 95 #[.pointer (some ⟨b, 0, none⟩)] w fun e w' => e = .returned (.tuple #[]) ∧ w' = w.setCell ⟨b, 0, none⟩ (.pointer (some ⟨b, 0, none⟩)) := by
  obtain ⟨j, hj, hjs⟩ := Option.map_eq_some_iff.1 sizeBd
  go_enter Tryd.func95, Tryd.ntmps95
  go_wp2
  rw [Lib.run_to_unsafe w ⟨b, 0, none⟩ Tryd.underlying123 Tryd.underlying186 hj (by rw [hjs]; decide) hsh (Nat.zero_lt_succ 1)]
  simp only [Result.andThen]
  rw [Oper.upon_value]
  go_wp2
  rw [run_callFunc_extern Tryd.func119 (by kernel_rfl) (by kernel_rfl) (by kernel_rfl) (e := Extern.AbiNoEscape.same) (by kernel_rfl), Lib.run_noEscape]
  simp only [Result.andThen]
  rw [Oper.upon_value]
  go_wp2
  rw [Lib.run_from_unsafe w ⟨b, 0, none⟩ Tryd.underlying186 Tryd.underlying123 hj hsh liesBd]
  simp only [Result.andThen]
  rw [Oper.upon_value]
  go_wp2
  go_end0
  exact ⟨rfl, rfl⟩

/-- A builder in block b that holds these bytes. -/
def Bd (b : Nat) (l : List UInt8) (w : World) : Prop := Lib.IsBuilderF 125 5 b b (Lib.byteCells l) w

/-- Blocks that are not b, and no rows of bytes, are as they were. -/
def Kept9 (b : Nat) (w w' : World) : Prop := Lib.OthersKept 5 (some b) w w'

theorem strCells_eq (l : List UInt8) : Lib.strCells (strB l) = Lib.byteCells l := rfl

set_option maxRecDepth 100000 in
set_option maxHeartbeats 2000000 in
theorem writeS_any (b : Nat) (l m : List UInt8) (w : World) (h : Bd b l w) (hlen : l.length + m.length ≤ 140737488355328) :
    Calls Tryd.prog 74 #[.pointer (some ⟨b, 0, none⟩), .string (strB m)] w fun e w' => (∃ v, e = .returned v) ∧ Bd b (l ++ m) w' ∧ Below b w w' ∧ Kept9 b w w' := by
  obtain ⟨i0, hi, hz0, hz1, hz2⟩ := info_parts infoBy
  have hcc : Calls Tryd.prog 95 #[.pointer (some ⟨b, 0, none⟩)] w fun e w' => e = .returned (.tuple #[]) ∧ Lib.BuilderAtF 125 5 b b (.pointer (some ⟨b, 0, none⟩)) (Lib.byteCells l) w' ∧ Below b w w' ∧ Kept9 b w w' := by
    rcases h with h | h
    · refine (copyCheck_fresh b w h.cell0 h.shape h.frozen0).mono ?_
      rintro e w' ⟨rfl, rfl⟩
      exact ⟨rfl, h.used _, (Below.refl b w).setCell (p := ⟨b, 0, none⟩) (Nat.le_refl _) _, (Lib.OthersKept.refl _ _ w).setCell ⟨b, 0, none⟩ rfl _⟩
    · refine (copyCheck_used b w h.cell0).mono ?_
      rintro e w' ⟨rfl, rfl⟩
      exact ⟨rfl, h, Below.refl _ _, Lib.OthersKept.refl _ _ _⟩
  have hlt0 : b < w.heap.size := by rcases h with h | h <;> exact h.lt
  have hcl : (Lib.byteCells l).length = l.length := by simp [Lib.byteCells]
  have hS : (strB m).size = m.length := rfl
  clear h
  go_enter Tryd.func74, Tryd.ntmps74
  go_wp2_with fail
  refine hcc.mono ?_
  rintro e w1 ⟨rfl, hA1, hb1, hk1⟩
  clear hcc
  have hlt := hA1.lt
  obtain ⟨-, v, hbk, hown, hne⟩ := hA1
  have c0 : w1.cell? ⟨b, 0, none⟩ = some (.pointer (some ⟨b, 0, none⟩)) := by rw [Lib.cell_of_heap hbk]; rfl
  have c1 : w1.cell? ⟨b, 1, none⟩ = some v := by rw [Lib.cell_of_heap hbk]; rfl
  have HO : Hid (w1.ownsRowF b 5 1 v (Lib.byteCells l).length (Lib.byteCells l)) := hown
  have HB : Hid (w1.heap[b]? = some (.cells #[.pointer (some ⟨b, 0, none⟩), v] 125 (0, 0))) := hbk
  have HC : Hid ((Lib.byteCells l).length = l.length) := hcl
  clear hcl hown hbk
  go_wp2_with (at_builtin; refine Lib.wpList_append_own_stringF _ rfl _ _ 26 9 rfl b 5 i0 Tryd.underlying26 Tryd.underlying9 hi hz0 hz1 hz2 _ _ _ rfl HO.out (strB m) rfl (by rw [HC.out]; unfold maxLen; omega) (by rw [HC.out]; omega) (by omega) ?_)
  intro v' w2 hown' hgrow hnil
  have hb2 : w2.heap[b]? = some (.cells #[.pointer (some ⟨b, 0, none⟩), v] 125 (0, 0)) := by
    rw [hgrow.block b hlt (fun e => hne e.symm)]
    exact HB.out
  have d0 : w2.cell? ⟨b, 0, none⟩ = some (.pointer (some ⟨b, 0, none⟩)) := by rw [Lib.cell_of_heap hb2]; rfl
  have d1 : w2.cell? ⟨b, 1, none⟩ = some v := by rw [Lib.cell_of_heap hb2]; rfl
  have f1 : w2.frozen? ⟨b, 1, none⟩ = false := Lib.frozen_of_heap hb2 1
  obtain ⟨ao, n', cap, rfl⟩ : ∃ ao n' cap, v' = .slice ao n' cap := by
    rcases hown'.2 with ⟨hv, _⟩ | ⟨g, cap, cur, fz, hv, _⟩
    · exact ⟨_, _, _, hv⟩
    · exact ⟨_, _, _, hv⟩
  have hE : Hid (Bd b (l ++ m) (w2.setCell ⟨b, 1, none⟩ (.slice ao n' cap))) := by
    refine Or.inr (Lib.BuilderAtF.put (Nat.le_refl _) hb2 (bs' := Lib.byteCells (l ++ m)) ?_ (by decide))
    have h1 := hown'
    rw [strCells_eq, ← Lib.byteCells_append] at h1
    have h2 : (Lib.byteCells (l ++ m)).length = (Lib.byteCells l).length + (strB m).size := by simp [Lib.byteCells, strB_size]
    rw [h2]; exact h1
  have hF : Hid (Below b w (w2.setCell ⟨b, 1, none⟩ (.slice ao n' cap))) := (hb1.grown hgrow (by omega) (fun k hk => (HO.out.lt k hk).1)).setCell (p := ⟨b, 1, none⟩) (Nat.le_refl _) _
  have hK : Hid (Kept9 b w (w2.setCell ⟨b, 1, none⟩ (.slice ao n' cap))) := (hk1.grown hgrow (Lib.ownsRowF_kind HO.out)).setCell ⟨b, 1, none⟩ rfl _
  clear hown' hgrow hnil hb1 hb2 hk1 HO HB HC
  go_wp2_with fail
  go_ret2
  exact ⟨⟨_, rfl⟩, hE.out, hF.out, hK.out⟩

/-! ### What stays -/

theorem Kept9.trans {b : Nat} {u v w : World} (h : Kept9 b u v) (k : Kept9 b v w) : Kept9 b u w := Lib.OthersKept.trans h k
theorem kept_later {b : Nat} {w w' : World} (h : Below w.heap.size w w') : Kept9 b w w' := by
  intro k o hk _ _
  have hlt : k < w.heap.size := (Array.getElem?_eq_some_iff.1 hk).1
  rw [h.block k hlt]; exact hk
theorem Bd.lt {b : Nat} {l : List UInt8} {w : World} (h : Bd b l w) : b < w.heap.size := by rcases h with h | h <;> exact h.lt
theorem ownsF_later {w w' : World} {base : Nat} {e : TypeId} {v : Value} {n : Nat} {xs : List Value} {size : Nat} (h : w.ownsRowF base e size v n xs) (hb : Below w.heap.size w w') : w'.ownsRowF base e size v n xs := by
  refine ⟨h.1, ?_⟩
  rcases h.2 with hn | ⟨g, cap, cur, fz, hv, hbase, hg, rest⟩
  · exact .inl hn
  · refine .inr ⟨g, cap, cur, fz, hv, hbase, ?_, rest⟩
    rw [hb.block g (Array.getElem?_eq_some_iff.1 hg).1]; exact hg
theorem Bd.later {b : Nat} {l : List UInt8} {w w' : World} (h : Bd b l w) (hb : Below w.heap.size w w') : Bd b l w' := by
  have hlt := h.lt
  rcases h with ⟨h1, v, h2, h3, h4⟩ | ⟨h1, v, h2, h3, h4⟩
  · exact .inl ⟨h1, v, by rw [hb.block b hlt]; exact h2, ownsF_later h3 hb, h4⟩
  · exact .inr ⟨h1, v, by rw [hb.block b hlt]; exact h2, ownsF_later h3 hb, h4⟩

/-- A block of cells of a type that is no byte's. -/
def Blk (w : World) (k : Nat) (vs : Array Value) (t : TypeId) : Prop := w.heap[k]? = some (.cells vs t (0, 0))
theorem Blk.lt {w : World} {k : Nat} {vs : Array Value} {t : TypeId} (h : Blk w k vs t) : k < w.heap.size := (Array.getElem?_eq_some_iff.1 h).1
theorem Blk.later {w w' : World} {k : Nat} {vs : Array Value} {t : TypeId} (h : Blk w k vs t) (hb : Below w.heap.size w w') : Blk w' k vs t := by
  unfold Blk; rw [hb.block k h.lt]; exact h
theorem Blk.kept {w w' : World} {b k : Nat} {vs : Array Value} {t : TypeId} (h : Blk w k vs t) (hk : Kept9 b w w') (hb : k ≠ b) (ht : t ≠ 5) : Blk w' k vs t :=
  hk k _ h (fun e => hb (by injection e)) (fun c fz e => ht (by injection e))
theorem Blk.cell {w : World} {k : Nat} {vs : Array Value} {t : TypeId} (h : Blk w k vs t) (i : Nat) : w.cell? ⟨k, i, none⟩ = vs[i]? := Lib.cell_of_heap h i
theorem Blk.free {w : World} {k : Nat} {vs : Array Value} {t : TypeId} (h : Blk w k vs t) (i : Nat) : w.frozen? ⟨k, i, none⟩ = false := Lib.frozen_of_heap h i
theorem blk_new (w : World) (vs : Array Value) (t : TypeId) : Blk (w.alloc (.cells vs t)) w.heap.size vs t := heap_alloc_new w _

theorem Blk.set {w : World} {k : Nat} {vs : Array Value} {t : TypeId} (h : Blk w k vs t) (i : Nat) (v : Value) : Blk (w.setCell ⟨k, i, none⟩ v) k (vs.setIfInBounds i v) t := by
  unfold Blk at h ⊢
  simp [World.setCell, Array.getElem?_modify, h]
theorem Blk.other {w : World} {k c : Nat} {vs : Array Value} {t : TypeId} (h : Blk w k vs t) (hc : c ≠ k) (i : Nat) (v : Value) : Blk (w.setCell ⟨c, i, none⟩ v) k vs t := by
  unfold Blk at h ⊢
  rw [Below.heap_setCell _ _ _ _ (fun e => hc e.symm)]
  exact h

/-! ### numbersOf -/

set_option maxRecDepth 100000 in
set_option maxHeartbeats 400000 in
theorem numbers_any (k a b c n x y z : Int) (hx : numsO ⟨k, a, b, c, n⟩ = [x, y, z]) (w : World) :
    Calls Tryd.prog 96 #[.agg #[.int .i64 k, .int .i64 a, .int .i64 b, .int .i64 c, .int .i64 n]] w fun e w' => e = .returned (.agg #[.int .i64 x, .int .i64 y, .int .i64 z]) ∧ w' = (w.alloc (.cells #[.int .i64 k, .int .i64 a, .int .i64 b, .int .i64 c, .int .i64 n] 63)).alloc (.cells #[.int .i64 x, .int .i64 y, .int .i64 z] 159) := by
  by_cases h : k = 1
  · subst h
    simp only [numsO, if_pos, List.cons.injEq, and_true] at hx
    obtain ⟨rfl, rfl, rfl⟩ := hx
    go_enter Tryd.func96, Tryd.ntmps96
    go_wp2
    exact bodyPost_ret (v := .agg #[.int .i64 a, .int .i64 n, .int .i64 0]) (by simp [results, Tryd.results96, go_sem]) rfl ⟨rfl, rfl⟩
  · have t : (k == 1) = false := by simp [h]
    simp only [numsO, if_neg h, List.cons.injEq, and_true] at hx
    obtain ⟨rfl, rfl, rfl⟩ := hx
    clear h
    go_enter Tryd.func96, Tryd.ntmps96
    go_wp2
    exact bodyPost_ret (v := .agg #[.int .i64 a, .int .i64 b, .int .i64 c]) (by simp [results, Tryd.results96, go_sem]) rfl ⟨rfl, rfl⟩
end Go.Proofs.YtdohockbmphhfacDoor
