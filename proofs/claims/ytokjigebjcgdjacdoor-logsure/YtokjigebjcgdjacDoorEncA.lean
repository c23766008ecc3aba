/-
  The walk of codec.appendOp.
-/
import Derived.Test.YtokjigebjcgdjacDoorMemC
import Derived.Laws.BitsLemmas
namespace Go.Proofs.YtokjigebjcgdjacDoor
open Go.RowKit

theorem infoU8 : (Tryd.prog.info? 5).map (fun i => (i.zero, i.size, i.bytes)) = some (some (.int .u8 0), 1, 1) := by kernel_rfl

/-- Some bytes that are appended, in a block just made. -/
theorem new_cells (w : World) (l : List Int) (t : TypeId) : ∀ j u, (byteCells l)[j]? = some u → (w.alloc (.cells (byteCells l).toArray t)).cell? ((⟨w.heap.size, 0, none⟩ : Addr).add j) = some u := fun j u hu => by
  rw [addr_add, Nat.zero_add, cell_of_row _ _ j _ t (0, 0) (heap_alloc_new w _)]
  simpa using hu

set_option maxRecDepth 100000 in
set_option maxHeartbeats 1000000 in
theorem appendOp_oth {o : Op5} {xs : List Int} {base : Nat} {v : Value} {w : World} (h : aloneF o = 0) (hk : o.k ≠ 1) (hown : w.ownsRow base 5 1 v xs.length (byteCells xs)) (hlen : xs.length ≤ 2000) (hbase : base ≤ w.heap.size) :
    Calls Tryd.prog 29 #[v, .agg #[.int .i64 o.k, .int .i64 o.a, .int .i64 o.b, .int .i64 o.c, .int .i64 o.n]] w fun e w' => (∃ v', e = .returned v' ∧ w'.ownsRow base 5 1 v' (xs ++ opB o).length (byteCells (xs ++ opB o))) ∧ Below base w w' := by
  obtain ⟨i0, hi, hz0, hz1, hz2⟩ := info_parts infoU8
  obtain ⟨p1, p2, p3, p4, p5, p6, p7, p8, p9, p10⟩ := alone_partsC h
  obtain ⟨k, a, b, c, n⟩ := o
  dsimp only at *
  have e1 : IntKind.u8.wrap k = k := by rw [IntKind.wrap_u8]; omega
  have e2 : IntKind.u8.wrap (a + 16 * b) = a + 16 * b := by rw [IntKind.wrap_u8]; omega
  have e3 : IntKind.u8.wrap c = c := by rw [IntKind.wrap_u8]; omega
  have t1 : (k != 1) = true := by simp [hk]
  clear p9 p10 h
  have hB0 : Below base w ((w.alloc (.cells #[.int .i64 k, .int .i64 a, .int .i64 b, .int .i64 c, .int .i64 n] 63)).alloc (.cells #[.int .u8 k, .int .u8 (a + 16 * b), .int .u8 c] 5)) := ((Below.refl _ _).alloc hbase _).alloc (by simp; omega) _
  have hO : Hid (opB ⟨k, a, b, c, n⟩ = [k, a + 16 * b, c]) := by unfold opB; exact if_neg hk
  have hN : Hid (∀ j u, (byteCells [k, a + 16 * b, c])[j]? = some u → ((w.alloc (.cells #[.int .i64 k, .int .i64 a, .int .i64 b, .int .i64 c, .int .i64 n] 63)).alloc (.cells #[.int .u8 k, .int .u8 (a + 16 * b), .int .u8 c] 5)).cell? ((⟨w.heap.size + 1, 0, none⟩ : Addr).add j) = some u) := by
    have := new_cells (w.alloc (.cells #[.int .i64 k, .int .i64 a, .int .i64 b, .int .i64 c, .int .i64 n] 63)) [k, a + 16 * b, c] 5
    rw [World.size_alloc] at this
    exact this
  go_enter Tryd.func29, Tryd.ntmps29
  go_wp2_with (at_builtin; refine wpList_append_own _ rfl _ _ 26 rfl base 5 i0 (.int .u8 0) 1 1 Tryd.underlying26 hi hz0 hz1 hz2 rfl (by decide) _ _ _ rfl ((hown.alloc _).alloc _) ⟨w.heap.size + 1, 0, none⟩ 3 3 (byteCells [k, a + 16 * b, c]) rfl rfl hN.out (byteCells_one _) (by unfold maxLen; omega) (by omega) (by simp; omega) ?_; intro v' w2 hown' hgrow hnil)
  go_ret
  refine ⟨⟨_, rfl, ?_⟩, hB0.grown hgrow (by simp; omega) (fun g hg => (hown.lt g hg).1)⟩
  rw [hO.out, byteCells_append]
  simpa using hown'

theorem shr_byte (n : Int) (j : Nat) (hj : j < 8) : IntKind.u8.wrap (IntKind.u64.wrap n / 2 ^ (8 * j)) = n / 256 ^ j % 256 := by
  rw [IntKind.wrap_u8, IntKind.wrap_u64]
  have : j = 0 ∨ j = 1 ∨ j = 2 ∨ j = 3 ∨ j = 4 ∨ j = 5 ∨ j = 6 ∨ j = 7 := by omega
  rcases this with rfl | rfl | rfl | rfl | rfl | rfl | rfl | rfl
  all_goals simp only [Nat.reduceMul, Int.reducePow]
  all_goals omega
theorem numB_snoc (n : Int) (j : Nat) : numB (j + 1) n = numB j n ++ [n / 256 ^ j % 256] := by
  induction j generalizing n with
  | zero => simp [numB]
  | succ j ih =>
    rw [numB, ih]
    conv => rhs; rw [numB]
    simp only [List.cons_append, List.cons.injEq, List.append_cancel_left_eq, and_true, true_and]
    rw [Int.pow_succ, Int.mul_comm, Int.ediv_ediv_of_nonneg (by omega)]

set_option maxRecDepth 100000 in
set_option maxHeartbeats 1000000 in
theorem appendOp_num {o : Op5} {xs : List Int} {base : Nat} {v : Value} {w : World} (h : aloneF o = 0) (hk : o.k = 1) (hown : w.ownsRow base 5 1 v xs.length (byteCells xs)) (hlen : xs.length ≤ 2000) (hbase : base ≤ w.heap.size) :
    Calls Tryd.prog 29 #[v, .agg #[.int .i64 o.k, .int .i64 o.a, .int .i64 o.b, .int .i64 o.c, .int .i64 o.n]] w fun e w' => (∃ v', e = .returned v' ∧ w'.ownsRow base 5 1 v' (xs ++ opB o).length (byteCells (xs ++ opB o))) ∧ Below base w w' := by
  obtain ⟨i0, hi, hz0, hz1, hz2⟩ := info_parts infoU8
  obtain ⟨p1, p2, p3, p4, p5, p6, p7, p8, p9, p10⟩ := alone_partsC h
  obtain ⟨k, a, b, c, n⟩ := o
  dsimp only at *
  subst hk
  have e2 : IntKind.u8.wrap a = a := by rw [IntKind.wrap_u8]; omega
  clear p9 p10 h
  have hB0 : Below base w ((w.alloc (.cells #[.int .i64 1, .int .i64 a, .int .i64 b, .int .i64 c, .int .i64 n] 63)).alloc (.cells #[.int .u8 1, .int .u8 a] 5)) := ((Below.refl _ _).alloc hbase _).alloc (by simp; omega) _
  have hO : Hid (opB ⟨1, a, b, c, n⟩ = [1, a] ++ numB 8 n) := rfl
  have hN : Hid (∀ j u, (byteCells [1, a])[j]? = some u → ((w.alloc (.cells #[.int .i64 1, .int .i64 a, .int .i64 b, .int .i64 c, .int .i64 n] 63)).alloc (.cells #[.int .u8 1, .int .u8 a] 5)).cell? ((⟨w.heap.size + 1, 0, none⟩ : Addr).add j) = some u) := by
    have := new_cells (w.alloc (.cells #[.int .i64 1, .int .i64 a, .int .i64 b, .int .i64 c, .int .i64 n] 63)) [1, a] 5
    rw [World.size_alloc] at this
    exact this
  go_enter Tryd.func29, Tryd.ntmps29
  go_wp2_with (at_builtin; refine wpList_append_own_at _ rfl _ _ 26 rfl base 5 i0 (.int .u8 0) 1 1 Tryd.underlying26 hi hz0 hz1 hz2 rfl (by decide) v _ _ rfl ((hown.alloc _).alloc _) ⟨w.heap.size + 1, 0, none⟩ 2 2 (byteCells [1, a]) rfl rfl hN.out (byteCells_one _) (by unfold maxLen; omega) (by omega) (by simp; omega) ?_; intro v' w2 hown' hgrow hnil hat)
  have hv0 : v.ownBlock ≠ some w.heap.size := fun e => by have := (hown.lt _ e).2; omega
  have hv2 : v'.ownBlock ≠ some w.heap.size := by
    rcases hat with e | e
    · rw [e]; exact hv0
    · rw [e]; simp; omega
  have hc2 : w2.cell? ⟨w.heap.size, 4, none⟩ = some (.int .i64 n) := hgrow.cell (by go_simp) (fun e => hv0 e.symm)
  have hB2 : Below base w w2 := hB0.grown hgrow (by simp; omega) (fun g hg => (hown.lt g hg).1)
  have hsz2 : w.heap.size < w2.heap.size := World.block_lt_of_cell? w2 _ hc2
  rw [← byteCells_append] at hown'
  clear hat hnil hgrow hB0 hN hv0
  go_loopg [0, 34] 8 (fun g vv i wr => ∃ j : Nat, j ≤ 8 ∧ g = 8 - j ∧ i = .int .i64 j ∧ wr.ownsRow base 5 1 vv (xs.length + 2 + j) (byteCells (xs ++ [1, a] ++ numB j n)) ∧ vv.ownBlock ≠ some w.heap.size ∧ wr.cell? ⟨w.heap.size, 4, none⟩ = some (.int .i64 n) ∧ Below base w wr)
  case atStart => exact ⟨0, by omega, by omega, rfl, by simpa [numB] using hown', hv2, hc2, hB2⟩
  case round =>
    obtain ⟨j, hj, hg, rfl, hO', hv', hc', hB'⟩ := hrel
    clear hown' hv2 hc2 hB2 hsz2
    have hsz : w.heap.size < wr.heap.size := World.block_lt_of_cell? wr _ hc'
    by_cases hlt : j < 8
    · have hsh := shr_byte n j hlt
      have hNw : Hid (∀ i u, (byteCells [n / 256 ^ j % 256])[i]? = some u → (wr.alloc (.cells #[.int .u8 (n / 256 ^ j % 256)] 5)).cell? ((⟨wr.heap.size, 0, none⟩ : Addr).add i) = some u) := new_cells wr [n / 256 ^ j % 256] 5
      have hsn : Hid (numB (j + 1) n = numB j n ++ [n / 256 ^ j % 256]) := numB_snoc n j
      have hba : base ≤ wr.heap.size := by omega
      go_wp2_with (at_builtin; refine wpList_append_own_at _ rfl _ _ 26 rfl base 5 i0 (.int .u8 0) 1 1 Tryd.underlying26 hi hz0 hz1 hz2 rfl (by decide) u0 _ _ rfl (hO'.alloc _) ⟨wr.heap.size, 0, none⟩ 1 1 (byteCells [n / 256 ^ j % 256]) rfl rfl hNw.out (byteCells_one _) (by unfold maxLen; omega) (by omega) (by simp; omega) ?_; intro v3 w3 hown3 hgrow3 hnil3 hat3)
      have hc3 : w3.cell? ⟨w.heap.size, 4, none⟩ = some (.int .i64 n) := hgrow3.cell (cell_later ((Below.refl _ _).alloc (Nat.le_refl _) _) hc') (fun e => hv' e.symm)
      have hv3 : v3.ownBlock ≠ some w.heap.size := by
        rcases hat3 with e | e
        · rw [e]; exact hv'
        · rw [e]; simp; omega
      have hB3 : Below base w w3 := (hB'.alloc hba _).grown hgrow3 (by simp; omega) (fun g hg => (hO'.lt g hg).1)
      rw [← byteCells_append, List.append_assoc, ← hsn.out] at hown3
      clear hat3 hnil3 hgrow3
      go_roundg (8 - (j + 1))
      case measure => omega
      case rel => exact ⟨j + 1, by omega, rfl, by go_num, hown3, hv3, hc3, hB3⟩
    · obtain rfl : j = 8 := by omega
      go_wp2_with fail
      go_ret
      refine ⟨⟨_, rfl, ?_⟩, hB'⟩
      rw [hO.out, ← List.append_assoc]
      simpa [numB_length] using hO'
theorem appendOp_any {o : Op5} {xs : List Int} {base : Nat} {v : Value} {w : World} (h : aloneF o = 0) (hown : w.ownsRow base 5 1 v xs.length (byteCells xs)) (hlen : xs.length ≤ 2000) (hbase : base ≤ w.heap.size) :
    Calls Tryd.prog 29 #[v, .agg #[.int .i64 o.k, .int .i64 o.a, .int .i64 o.b, .int .i64 o.c, .int .i64 o.n]] w fun e w' => (∃ v', e = .returned v' ∧ w'.ownsRow base 5 1 v' (xs ++ opB o).length (byteCells (xs ++ opB o))) ∧ Below base w w' := by
  by_cases hk : o.k = 1
  · exact appendOp_num h hk hown hlen hbase
  · exact appendOp_oth h hk hown hlen hbase
end Go.Proofs.YtokjigebjcgdjacDoor
