/-
  The walk of codec.appendOp. The walk of codec.Encode. The walks of codec.read and of the function that it defers. The walk of codec.Decode. The walk of codecBegun.
-/
import Derived.Test.YtehkjbpgibdgpadGreatDoorJqRa
import Derived.Laws.BitsLemmas
import Derived.Test.YtehkjbpgibdgpadGreatDoorJqWa
import Derived.Laws.MakeOwn
import Derived.Defers
import Derived.Recover
namespace Go.Proofs.YtehkjbpgibdgpadGreatDoor
open Go.RowKit

theorem infoU8 : (Tryz.prog.info? 5).map (fun i => (i.zero, i.size, i.bytes)) = some (some (.int .u8 0), 1, 1) := by kernel_rfl

/-- Some bytes that are appended, in a block just made. -/
theorem new_cells (w : World) (l : List Int) (t : TypeId) : ∀ j u, (byteCells l)[j]? = some u → (w.alloc (.cells (byteCells l).toArray t)).cell? ((⟨w.heap.size, 0, none⟩ : Addr).add j) = some u := fun j u hu => by
  rw [addr_add, Nat.zero_add, cell_of_row _ _ j _ t (0, 0) (heap_alloc_new w _)]
  simpa using hu

set_option maxRecDepth 100000 in
set_option maxHeartbeats 1000000 in
theorem appendOp_oth {o : Op5} {xs : List Int} {base : Nat} {v : Value} {w : World} (h : aloneF o = 0) (hk : o.k ≠ 1) (hown : w.ownsRow base 5 1 v xs.length (byteCells xs)) (hlen : xs.length ≤ 2000) (hbase : base ≤ w.heap.size) :
    Calls Tryz.prog 157 #[v, .agg #[.int .i64 o.k, .int .i64 o.a, .int .i64 o.b, .int .i64 o.c, .int .i64 o.n]] w fun e w' => (∃ v', e = .returned v' ∧ w'.ownsRow base 5 1 v' (xs ++ opB o).length (byteCells (xs ++ opB o))) ∧ Below base w w' := by
  obtain ⟨i0, hi, hz0, hz1, hz2⟩ := info_parts infoU8
  obtain ⟨p1, p2, p3, p4, p5, p6, p7, p8, p9, p10⟩ := alone_partsC h
  obtain ⟨k, a, b, c, n⟩ := o
  dsimp only at *
  have e1 : IntKind.u8.wrap k = k := by rw [IntKind.wrap_u8]; omega
  have e2 : IntKind.u8.wrap (a + 16 * b) = a + 16 * b := by rw [IntKind.wrap_u8]; omega
  have e3 : IntKind.u8.wrap c = c := by rw [IntKind.wrap_u8]; omega
  have t1 : (k != 1) = true := by simp [hk]
  clear p9 p10 h
  have hB0 : Below base w ((w.alloc (.cells #[.int .i64 k, .int .i64 a, .int .i64 b, .int .i64 c, .int .i64 n] 121)).alloc (.cells #[.int .u8 k, .int .u8 (a + 16 * b), .int .u8 c] 5)) := ((Below.refl _ _).alloc hbase _).alloc (by simp; omega) _
  have hO : Hid (opB ⟨k, a, b, c, n⟩ = [k, a + 16 * b, c]) := by unfold opB; exact if_neg hk
  have hN : Hid (∀ j u, (byteCells [k, a + 16 * b, c])[j]? = some u → ((w.alloc (.cells #[.int .i64 k, .int .i64 a, .int .i64 b, .int .i64 c, .int .i64 n] 121)).alloc (.cells #[.int .u8 k, .int .u8 (a + 16 * b), .int .u8 c] 5)).cell? ((⟨w.heap.size + 1, 0, none⟩ : Addr).add j) = some u) := by
    have := new_cells (w.alloc (.cells #[.int .i64 k, .int .i64 a, .int .i64 b, .int .i64 c, .int .i64 n] 121)) [k, a + 16 * b, c] 5
    rw [World.size_alloc] at this
    exact this
  go_enter Tryz.func157, Tryz.ntmps157
  go_wp2_with (at_builtin; refine wpList_append_own _ rfl _ _ 53 rfl base 5 i0 (.int .u8 0) 1 1 Tryz.underlying53 hi hz0 hz1 hz2 rfl (by decide) _ _ _ rfl ((hown.alloc _).alloc _) ⟨w.heap.size + 1, 0, none⟩ 3 3 (byteCells [k, a + 16 * b, c]) rfl rfl hN.out (byteCells_one _) (by unfold maxLen; omega) (by omega) (by simp; omega) ?_; intro v' w2 hown' hgrow hnil)
  go_ret
  refine ⟨⟨_, rfl, ?_⟩, hB0.grown hgrow (by simp; omega) (fun g hg => (hown.lt g hg).1)⟩
  rw [hO.out, byteCells_append]
  simpa using hown'

theorem shr_byte (n : Int) (j : Nat) (hj : j < 8) : IntKind.u8.wrap (IntKind.u64.wrap n / 2 ^ (8 * j)) = n / 256 ^ j % 256 := by
  rw [IntKind.wrap_u8, IntKind.wrap_u64]
  have : j = 0 ∨ j = 1 ∨ j = 2 ∨ j = 3 ∨ j = 4 ∨ j = 5 ∨ j = 6 ∨ j = 7 := by omega
  rcases this with rfl | rfl | rfl | rfl | rfl | rfl | rfl | rfl
  all_goals simp only [Nat.reduceMul, Int.reducePow]
  all_goals omega
theorem numB_snoc (n : Int) (j : Nat) : numB (j + 1) n = numB j n ++ [n / 256 ^ j % 256] := by
  induction j generalizing n with
  | zero => simp [numB]
  | succ j ih =>
    rw [numB, ih]
    conv => rhs; rw [numB]
    simp only [List.cons_append, List.cons.injEq, List.append_cancel_left_eq, and_true, true_and]
    rw [Int.pow_succ, Int.mul_comm, Int.ediv_ediv_of_nonneg (by omega)]

set_option maxRecDepth 100000 in
set_option maxHeartbeats 1000000 in
theorem appendOp_num {o : Op5} {xs : List Int} {base : Nat} {v : Value} {w : World} (h : aloneF o = 0) (hk : o.k = 1) (hown : w.ownsRow base 5 1 v xs.length (byteCells xs)) (hlen : xs.length ≤ 2000) (hbase : base ≤ w.heap.size) :
    Calls Tryz.prog 157 #[v, .agg #[.int .i64 o.k, .int .i64 o.a, .int .i64 o.b, .int .i64 o.c, .int .i64 o.n]] w fun e w' => (∃ v', e = .returned v' ∧ w'.ownsRow base 5 1 v' (xs ++ opB o).length (byteCells (xs ++ opB o))) ∧ Below base w w' := by
  obtain ⟨i0, hi, hz0, hz1, hz2⟩ := info_parts infoU8
  obtain ⟨p1, p2, p3, p4, p5, p6, p7, p8, p9, p10⟩ := alone_partsC h
  obtain ⟨k, a, b, c, n⟩ := o
  dsimp only at *
  subst hk
  have e2 : IntKind.u8.wrap a = a := by rw [IntKind.wrap_u8]; omega
  clear p9 p10 h
  have hB0 : Below base w ((w.alloc (.cells #[.int .i64 1, .int .i64 a, .int .i64 b, .int .i64 c, .int .i64 n] 121)).alloc (.cells #[.int .u8 1, .int .u8 a] 5)) := ((Below.refl _ _).alloc hbase _).alloc (by simp; omega) _
  have hO : Hid (opB ⟨1, a, b, c, n⟩ = [1, a] ++ numB 8 n) := rfl
  have hN : Hid (∀ j u, (byteCells [1, a])[j]? = some u → ((w.alloc (.cells #[.int .i64 1, .int .i64 a, .int .i64 b, .int .i64 c, .int .i64 n] 121)).alloc (.cells #[.int .u8 1, .int .u8 a] 5)).cell? ((⟨w.heap.size + 1, 0, none⟩ : Addr).add j) = some u) := by
    have := new_cells (w.alloc (.cells #[.int .i64 1, .int .i64 a, .int .i64 b, .int .i64 c, .int .i64 n] 121)) [1, a] 5
    rw [World.size_alloc] at this
    exact this
  go_enter Tryz.func157, Tryz.ntmps157
  go_wp2_with (at_builtin; refine wpList_append_own_at _ rfl _ _ 53 rfl base 5 i0 (.int .u8 0) 1 1 Tryz.underlying53 hi hz0 hz1 hz2 rfl (by decide) v _ _ rfl ((hown.alloc _).alloc _) ⟨w.heap.size + 1, 0, none⟩ 2 2 (byteCells [1, a]) rfl rfl hN.out (byteCells_one _) (by unfold maxLen; omega) (by omega) (by simp; omega) ?_; intro v' w2 hown' hgrow hnil hat)
  have hv0 : v.ownBlock ≠ some w.heap.size := fun e => by have := (hown.lt _ e).2; omega
  have hv2 : v'.ownBlock ≠ some w.heap.size := by
    rcases hat with e | e
    · rw [e]; exact hv0
    · rw [e]; simp; omega
  have hc2 : w2.cell? ⟨w.heap.size, 4, none⟩ = some (.int .i64 n) := hgrow.cell (by go_simp) (fun e => hv0 e.symm)
  have hB2 : Below base w w2 := hB0.grown hgrow (by simp; omega) (fun g hg => (hown.lt g hg).1)
  have hsz2 : w.heap.size < w2.heap.size := World.block_lt_of_cell? w2 _ hc2
  rw [← byteCells_append] at hown'
  clear hat hnil hgrow hB0 hN hv0
  go_loopg [0, 34] 8 (fun g vv i wr => ∃ j : Nat, j ≤ 8 ∧ g = 8 - j ∧ i = .int .i64 j ∧ wr.ownsRow base 5 1 vv (xs.length + 2 + j) (byteCells (xs ++ [1, a] ++ numB j n)) ∧ vv.ownBlock ≠ some w.heap.size ∧ wr.cell? ⟨w.heap.size, 4, none⟩ = some (.int .i64 n) ∧ Below base w wr)
  case atStart => exact ⟨0, by omega, by omega, rfl, by simpa [numB] using hown', hv2, hc2, hB2⟩
  case round =>
    obtain ⟨j, hj, hg, rfl, hO', hv', hc', hB'⟩ := hrel
    clear hown' hv2 hc2 hB2 hsz2
    have hsz : w.heap.size < wr.heap.size := World.block_lt_of_cell? wr _ hc'
    by_cases hlt : j < 8
    · have hsh := shr_byte n j hlt
      have hNw : Hid (∀ i u, (byteCells [n / 256 ^ j % 256])[i]? = some u → (wr.alloc (.cells #[.int .u8 (n / 256 ^ j % 256)] 5)).cell? ((⟨wr.heap.size, 0, none⟩ : Addr).add i) = some u) := new_cells wr [n / 256 ^ j % 256] 5
      have hsn : Hid (numB (j + 1) n = numB j n ++ [n / 256 ^ j % 256]) := numB_snoc n j
      have hba : base ≤ wr.heap.size := by omega
      go_wp2_with (at_builtin; refine wpList_append_own_at _ rfl _ _ 53 rfl base 5 i0 (.int .u8 0) 1 1 Tryz.underlying53 hi hz0 hz1 hz2 rfl (by decide) u0 _ _ rfl (hO'.alloc _) ⟨wr.heap.size, 0, none⟩ 1 1 (byteCells [n / 256 ^ j % 256]) rfl rfl hNw.out (byteCells_one _) (by unfold maxLen; omega) (by omega) (by simp; omega) ?_; intro v3 w3 hown3 hgrow3 hnil3 hat3)
      have hc3 : w3.cell? ⟨w.heap.size, 4, none⟩ = some (.int .i64 n) := hgrow3.cell (cell_later ((Below.refl _ _).alloc (Nat.le_refl _) _) hc') (fun e => hv' e.symm)
      have hv3 : v3.ownBlock ≠ some w.heap.size := by
        rcases hat3 with e | e
        · rw [e]; exact hv'
        · rw [e]; simp; omega
      have hB3 : Below base w w3 := (hB'.alloc hba _).grown hgrow3 (by simp; omega) (fun g hg => (hO'.lt g hg).1)
      rw [← byteCells_append, List.append_assoc, ← hsn.out] at hown3
      clear hat3 hnil3 hgrow3
      go_roundg (8 - (j + 1))
      case measure => omega
      case rel => exact ⟨j + 1, by omega, rfl, by go_num, hown3, hv3, hc3, hB3⟩
    · obtain rfl : j = 8 := by omega
      go_wp2_with fail
      go_ret
      refine ⟨⟨_, rfl, ?_⟩, hB'⟩
      rw [hO.out, ← List.append_assoc]
      simpa [numB_length] using hO'
theorem appendOp_any {o : Op5} {xs : List Int} {base : Nat} {v : Value} {w : World} (h : aloneF o = 0) (hown : w.ownsRow base 5 1 v xs.length (byteCells xs)) (hlen : xs.length ≤ 2000) (hbase : base ≤ w.heap.size) :
    Calls Tryz.prog 157 #[v, .agg #[.int .i64 o.k, .int .i64 o.a, .int .i64 o.b, .int .i64 o.c, .int .i64 o.n]] w fun e w' => (∃ v', e = .returned v' ∧ w'.ownsRow base 5 1 v' (xs ++ opB o).length (byteCells (xs ++ opB o))) ∧ Below base w w' := by
  by_cases hk : o.k = 1
  · exact appendOp_num h hk hown hlen hbase
  · exact appendOp_oth h hk hown hlen hbase
end Go.Proofs.YtehkjbpgibdgpadGreatDoor
namespace Go.Proofs.YtehkjbpgibdgpadGreatDoor
open Go.RowKit

/-- What Encode answers. -/
def EncOut (w' : World) (e : Ending) (r : List (List Op5)) : Prop := ∃ u, e = .returned (.tuple #[u, .int .i64 (roundF r)]) ∧ ((roundF r = 0 ∧ BytesAt w' u (encB r)) ∨ (roundF r ≠ 0 ∧ u = .slice none 0 0))

theorem make_two (w : World) : (Instr.makeSlice 53 (.int .i64 2) (.int .i64 2)).run Tryz.prog w = .ok (.slice (some ⟨w.heap.size, 0, none⟩) 2 2) (w.alloc (.cells #[.int .u8 0, .int .u8 0] 5)) := by
  obtain ⟨i, hi, hz, hs, hb⟩ := info_parts infoU8
  have := run_make (P := Tryz.prog) w 53 5 i _ Tryz.underlying53 hi hz .i64 .i64 2 2 (by omega) (by omega) (by rw [hb]; omega) (by omega)
  have e : madeCells (Value.int .u8 0).cells (Int.toNat 2 * 1) = #[.int .u8 0, .int .u8 0] := by kernel_rfl
  rw [this, hs, e]
  rfl
theorem own_two (w : World) (base : Nat) (hb : base ≤ w.heap.size) : (w.alloc (.cells #[.int .u8 0, .int .u8 0] 5)).ownsRow base 5 1 (.slice (some ⟨w.heap.size, 0, none⟩) 2 2) 2 (byteCells [0, 0]) :=
  ⟨rfl, .inr ⟨w.heap.size, 2, #[.int .u8 0, .int .u8 0], rfl, hb, heap_alloc_new w _, by omega, by decide, rfl, rfl⟩⟩

/-- The first two bytes of a row are laid anew. -/
theorem bytes_head {P : Nat → Prop} {w : World} {g cap : Nat} {x0 y0 : Int} {l : List Int} (h : BytesIn P w (.slice (some ⟨g, 0, none⟩) (x0 :: y0 :: l).length cap) (x0 :: y0 :: l)) (x y : Int) :
    BytesIn P ((w.setCell ⟨g, 0, none⟩ (.int .u8 x)).setCell ⟨g, 1, none⟩ (.int .u8 y)) (.slice (some ⟨g, 0, none⟩) (x0 :: y0 :: l).length cap) (x :: y :: l) := by
  obtain ⟨a, cap', e, hc, h⟩ := h
  cases e
  refine ⟨_, cap, rfl, hc, fun i hi => ?_⟩
  obtain ⟨b, off, hp, e, hcell⟩ := h i (by simpa using hi)
  cases e
  refine ⟨g, 0, hp, rfl, ?_⟩
  rw [Nat.zero_add] at hcell ⊢
  obtain ⟨b1, off1, -, e1, h1⟩ := h 1 (by simp)
  cases e1
  match i, hi, hcell with
  | 0, _, hcell =>
    rw [World.cell?_setCell_other _ _ _ _ (fun h => by simp only [Addr.mk.injEq] at h; omega), World.cell?_setCell_same _ _ _ hcell]; rfl
  | 1, _, hcell =>
    rw [World.cell?_setCell_same _ _ _ (by rw [World.cell?_setCell_other _ _ _ _ (fun h => by simp only [Addr.mk.injEq] at h; omega)]; exact hcell)]; rfl
  | i + 2, _, hcell =>
    rw [World.cell?_setCell_other _ _ _ _ (fun h => by simp only [Addr.mk.injEq] at h; omega), World.cell?_setCell_other _ _ _ _ (fun h => by simp only [Addr.mk.injEq] at h; omega), hcell]; rfl

/-- A row of bytes of the call's own. -/
def OwnB (w : World) (base : Nat) (v : Value) (l : List Int) : Prop := w.ownsRow base 5 1 v l.length (byteCells l)

set_option maxRecDepth 100000 in
set_option maxHeartbeats 1000000 in
theorem enc_bad {r : List (List Op5)} {v : Value} {w : World} (hr : RoundAt w v r) (hf : Fits r) (hL : Lim w) (hz : roundF r ≠ 0) :
    Calls Tryz.prog 139 #[v] w fun e w' => EncOut w' e r ∧ Below w.heap.size w w' := by
  go_enter Tryz.func139, Tryz.ntmps139
  go_wp2_with fail
  refine (round_any v r w hr hf hL).mono ?_
  rintro e w1 ⟨rfl, hb1⟩
  go_wp2_with fail
  refine bodyPost_ret (results_tmp2 rfl _ _ _) rfl ?_
  exact ⟨⟨_, rfl, .inr ⟨hz, rfl⟩⟩, hb1⟩

set_option maxRecDepth 100000 in
set_option maxHeartbeats 2000000 in
theorem enc_good {r : List (List Op5)} {v : Value} {w : World} (hr : RoundAt w v r) (hf : Fits r) (hL : Lim w) (hz : roundF r = 0) :
    Calls Tryz.prog 139 #[v] w fun e w' => EncOut w' e r ∧ Below w.heap.size w w' := by
  obtain ⟨i0, hi, hz0, hz1, hz2⟩ := info_parts infoU8
  obtain ⟨h8, hchk⟩ := roundF_zero.1 hz
  have hm2 := make_two
  have HR := hr
  have hF : Hid (roundF r = 0) := hz
  have hlen : IntKind.u8.wrap (r.length : Int) = (r.length : Int) := by rw [IntKind.wrap_u8]; omega
  have hround := round_any v r w hr hf hL
  rw [hz] at hround
  obtain ⟨a, cap, rfl, hr⟩ := hr
  clear hz
  go_enter Tryz.func139, Tryz.ntmps139
  go_wp2_with fail
  refine hround.mono ?_
  rintro e w1 ⟨rfl, hb1⟩
  have hs1 := hb1.size
  have hO1 := own_two w1 w.heap.size hs1
  have hNw : Hid (∀ i u, (byteCells [(r.length : Int)])[i]? = some u → ((w1.alloc (.cells #[.int .u8 0, .int .u8 0] 5)).alloc (.cells #[.int .u8 (r.length : Int)] 5)).cell? ((⟨w1.heap.size + 1, 0, none⟩ : Addr).add i) = some u) := by
    have := new_cells (w1.alloc (.cells #[.int .u8 0, .int .u8 0] 5)) [(r.length : Int)] 5
    rw [World.size_alloc] at this
    exact this
  have hB1 : Below w.heap.size w ((w1.alloc (.cells #[.int .u8 0, .int .u8 0] 5)).alloc (.cells #[.int .u8 (r.length : Int)] 5)) := (hb1.alloc hs1 _).alloc (by simp; omega) _
  clear hround
  go_wp2_with (at_builtin; refine wpList_append_own _ rfl _ _ 53 rfl w.heap.size 5 i0 (.int .u8 0) 1 1 Tryz.underlying53 hi hz0 hz1 hz2 rfl (by decide) _ _ _ rfl (hO1.alloc _) ⟨w1.heap.size + 1, 0, none⟩ 1 1 (byteCells [(r.length : Int)]) rfl rfl hNw.out (byteCells_one _) (by unfold maxLen; omega) (by omega) (by simp; omega) ?_; intro v2 w2 hO2 hgrow2 hnil2)
  have hB2 : Below w.heap.size w w2 := hB1.grown hgrow2 (by simp; omega) (fun g hg => (hO1.lt g hg).1)
  have hO2' : OwnB w2 w.heap.size v2 (0 :: 0 :: (r.length : Int) :: deedsB (r.take 0)) := hO2
  clear hgrow2 hnil2 hO2 hB1 hNw hO1 hs1 hb1
  go_loopg [5, 25] r.length (fun g b i wr => ∃ j : Nat, j ≤ r.length ∧ g = r.length - j ∧ i = .int .i64 (j : Int) ∧ OwnB wr w.heap.size b (0 :: 0 :: (r.length : Int) :: deedsB (r.take j)) ∧ Below w.heap.size w wr)
  case atStart => exact ⟨0, by omega, by omega, rfl, hO2', hB2⟩
  case round =>
    obtain ⟨j, hj, hg, rfl, hO, hB⟩ := hrel
    clear hO2' hB2
    by_cases hlt : j < r.length
    · obtain ⟨b, off, rfl, dv, c0, hD⟩ := hr j hlt
      have hd14 := checkF_len (hchk _ (List.getElem_mem hlt))
      have hal := checkF_alone (hchk _ (List.getElem_mem hlt))
      have hll : (deedsB (r.take j)).length ≤ 141 * 8 := Nat.le_trans (deedsB_length (fun d hd => hchk d (List.mem_of_mem_take hd))) (Nat.mul_le_mul_left _ (by simp; omega))
      have hT : Hid (deedsB (r.take (j + 1)) = deedsB (r.take j) ++ deedB r[j]) := deedsB_take hlt
      have hopl : ∀ k, (opsB (r[j].take k)).length ≤ 140 := fun k => Nat.le_trans (opsB_length _) (by simp; omega)
      replace c0 := cell_later hB c0
      clear hr
      generalize hdd : r[j] = d at *
      generalize deedsB (r.take j) = D at *
      obtain ⟨da, dcap, rfl, hD⟩ := hD
      have hlen' : IntKind.u8.wrap (d.length : Int) = (d.length : Int) := by rw [IntKind.wrap_u8]; omega
      have hsr := hB.size
      have hNw : Hid (∀ i u, (byteCells [(d.length : Int)])[i]? = some u → (wr.alloc (.cells #[.int .u8 (d.length : Int)] 5)).cell? ((⟨wr.heap.size, 0, none⟩ : Addr).add i) = some u) := new_cells wr [(d.length : Int)] 5
      go_wp2_with (at_builtin; refine wpList_append_own _ rfl _ _ 53 rfl w.heap.size 5 i0 (.int .u8 0) 1 1 Tryz.underlying53 hi hz0 hz1 hz2 rfl (by decide) _ _ _ rfl (World.ownsRow.alloc hO _) ⟨wr.heap.size, 0, none⟩ 1 1 (byteCells [(d.length : Int)]) rfl rfl hNw.out (byteCells_one _) (by simp only [List.length_cons]; unfold maxLen; omega) (by simp only [List.length_cons]; omega) (by simp; omega) ?_; intro v3 w3 hO3 hgrow3 hnil3)
      have hB3 : Below w.heap.size w w3 := (hB.alloc hsr _).grown hgrow3 (by simp; omega) (fun g hg => (World.ownsRow.lt hO g hg).1)
      have hO3' : OwnB w3 w.heap.size v3 (0 :: 0 :: (r.length : Int) :: D ++ (d.length : Int) :: opsB (d.take 0)) := by
        unfold OwnB
        rw [← byteCells_append] at hO3
        simpa [opsB] using hO3
      clear hgrow3 hnil3 hO3 hNw hO hB c0 hsr
      go_loopg [5, 37] d.length (fun g b i wr => ∃ k : Nat, k ≤ d.length ∧ g = d.length - k ∧ i = .int .i64 (k : Int) ∧ OwnB wr w.heap.size b (0 :: 0 :: (r.length : Int) :: D ++ (d.length : Int) :: opsB (d.take k)) ∧ Below w.heap.size w wr)
      case atStart => exact ⟨0, by omega, by omega, rfl, hO3', hB3⟩
      case round =>
        obtain ⟨k, hk, hg', rfl, hO, hB⟩ := hrel
        clear hO3' hB3
        by_cases hlt' : k < d.length
        · obtain ⟨db, doff, rfl, c0, c1, c2, c3, c4⟩ := hD k hlt'
          replace c0 := cell_later hB c0
          replace c1 := cell_later hB c1
          replace c2 := cell_later hB c2
          replace c3 := cell_later hB c3
          replace c4 := cell_later hB c4
          have hoT : Hid (opsB (d.take (k + 1)) = opsB (d.take k) ++ opB d[k]) := opsB_take hlt'
          have ha := hal _ (List.getElem_mem hlt')
          have hl2 := hopl k
          have hsr := hB.size
          have HB : Hid (Below w.heap.size w wr) := hB
          have HO : Hid (OwnB wr w.heap.size u5 (0 :: 0 :: (r.length : Int) :: D ++ (d.length : Int) :: opsB (d.take k))) := hO
          clear hD hB hO
          generalize d[k] = o at *
          go_wp2_with fail
          refine (appendOp_any ha (World.ownsRow.alloc HO.out _) (by simp only [List.length_cons, List.length_append]; omega) (by simp; omega)).mono ?_
          rintro e w4 ⟨⟨v4, rfl, hO4⟩, hb4⟩
          have hB4 : Below w.heap.size w w4 := (HB.out.alloc hsr _).trans hb4
          have hO4' : OwnB w4 w.heap.size v4 (0 :: 0 :: (r.length : Int) :: D ++ (d.length : Int) :: opsB (d.take (k + 1))) := by
            unfold OwnB
            rw [hoT.out]
            simpa using hO4
          clear hb4 hO4 HB HO c0 c1 c2 c3 c4
          go_wp2_with fail
          go_roundg (d.length - (k + 1))
          case measure => omega
          case rel => exact ⟨k + 1, by omega, rfl, by go_num, hO4', hB4⟩
        · obtain rfl : k = d.length := by omega
          clear hD
          rw [List.take_length] at hO
          have hO' : OwnB wr w.heap.size u5 (0 :: 0 :: (r.length : Int) :: deedsB (r.take (j + 1))) := by
            rw [hT.out]
            exact hO
          clear hO
          go_wp2_with fail
          go_roundg (r.length - (j + 1))
          case measure => omega
          case rel => exact ⟨j + 1, by omega, rfl, by go_num, hO', hB⟩
    · obtain rfl : j = r.length := by omega
      clear hr
      rw [List.take_length] at hO
      have hbl := bodyB_length hF.out
      have hO' : OwnB wr w.heap.size u5 (0 :: 0 :: bodyB r) := hO
      have hE : encB r = ((bodyB r).length : Int) % 256 :: ((bodyB r).length : Int) / 256 :: bodyB r := rfl
      clear hO
      have hBy := owns_bytes hO'
      rcases hO'.2 with ⟨-, h0⟩ | ⟨g, cp, cur, rfl, hbg, hgg, -⟩
      · simp at h0
      · have hHd := bytes_head hBy (((bodyB r).length : Int) % 256) (((bodyB r).length : Int) / 256)
        rw [← hE] at hHd
        have hw1 : IntKind.u8.wrap ((bodyB r).length : Int) = ((bodyB r).length : Int) % 256 := IntKind.wrap_u8 _
        have hw2 : IntKind.u8.wrap (((bodyB r).length : Int) / 256) = ((bodyB r).length : Int) / 256 := by rw [IntKind.wrap_u8]; omega
        obtain ⟨a0, cp0, e0, -, hcell⟩ := hBy
        cases e0
        obtain ⟨b0, of0, -, e0, q0⟩ := hcell 0 (by simp)
        cases e0
        obtain ⟨b0, of0, -, e0, q1⟩ := hcell 1 (by simp)
        cases e0
        simp only [List.getElem_cons_zero, List.getElem_cons_succ, Nat.add_zero, Nat.zero_add] at q0 q1
        have f0 : ∀ o, wr.frozen? ⟨g, o, none⟩ = false := fun o => by simp [World.frozen?, hgg]
        clear hcell hO' hgg hE
        simp only [List.length_cons] at hHd ⊢
        generalize bodyB r = B at *
        go_wp2_with fail
        refine bodyPost_ret (results_tmp2 rfl _ _ _) rfl ?_
        rw [show ((B.length : Int) + 1 + 1 - 2) = (B.length : Int) by omega]
        exact ⟨⟨_, by rw [hF.out]; rfl, .inl ⟨hF.out, hHd.at⟩⟩, (hB.setCell (p := ⟨g, 0, none⟩) hbg _).setCell (p := ⟨g, 1, none⟩) hbg _⟩

theorem enc_any {r : List (List Op5)} {v : Value} {w : World} (hr : RoundAt w v r) (hf : Fits r) (hL : Lim w) :
    Calls Tryz.prog 139 #[v] w fun e w' => EncOut w' e r ∧ Below w.heap.size w w' := by
  by_cases hz : roundF r = 0
  · exact enc_good hr hf hL hz
  · exact enc_bad hr hf hL hz
end Go.Proofs.YtehkjbpgibdgpadGreatDoor
namespace Go.Proofs.YtehkjbpgibdgpadGreatDoor
open Go.RowKit

theorem eql_nil (w : World) : (binOp .eql 20 (.iface 215 (.agg #[])) .nilIface).run Tryz.prog w = .ok (.bool false) w := by kernel_rfl
theorem eql_gave (w : World) : (binOp .eql 20 (.iface 215 (.agg #[])) (.iface 215 (.agg #[]))).run Tryz.prog w = .ok (.bool true) w := by kernel_rfl

set_option maxRecDepth 100000 in
set_option maxHeartbeats 400000 in
theorem catch_gave (B : Nat) (v u : Value) (w : World) (hp : w.cell? ⟨B, 0, none⟩ = some v) (hq : w.cell? ⟨B + 1, 0, none⟩ = some u) (fp : w.frozen? ⟨B, 0, none⟩ = false) (fq : w.frozen? ⟨B + 1, 0, none⟩ = false) :
    CallsD Tryz.prog 164 #[.pointer (some ⟨B, 0, none⟩), .pointer (some ⟨B + 1, 0, none⟩)] (.panicking gave) w fun e u' w' =>
      e = .returned (.tuple #[]) ∧ u' = .panicking [{ v := .iface 215 (.agg #[]), recovered := true }] ∧ w' = (w.setCell ⟨B, 0, none⟩ (.slice none 0 0)).setCell ⟨B + 1, 0, none⟩ (.bool false) := by
  refine callsD_of_wpS Tryz.func164 rfl fun c₀ cs hu => ?_
  have h1 := eql_nil
  have h2 := eql_gave
  apply wpS_seq
  apply wpS_region
  simp [wpOpsS, go_sem, recoverD, hu, gave, Tryz.ntmps164, Exit.thenS]
  refine wpS_of_wp ?_
  go_wp2
  simp [bodyPostS, results, Tryz.results164]

theorem eql_none (w : World) : (binOp .eql 20 .nilIface .nilIface).run Tryz.prog w = .ok (.bool true) w := by kernel_rfl

set_option maxRecDepth 100000 in
set_option maxHeartbeats 400000 in
theorem catch_idle (p q : Addr) (w : World) :
    CallsD Tryz.prog 164 #[.pointer (some p), .pointer (some q)] .returning w fun e u' w' => e = .returned (.tuple #[]) ∧ u' = .returning ∧ w' = w := by
  refine callsD_of_wpS Tryz.func164 rfl fun c₀ cs hu => ?_
  have h1 := eql_none
  apply wpS_seq
  apply wpS_region
  simp [wpOpsS, go_sem, recoverD, hu, Tryz.ntmps164, Exit.thenS]
  refine wpS_of_wp ?_
  go_wp2
  cases c₀
  simp_all [bodyPostS, results, Tryz.results164]

theorem readAll_some {l : List Int} {r : List (List Op5)} (h : readAll l = some r) : readRound l = some (r, []) := by
  unfold readAll at h
  split at h
  · rename_i r' e; cases h; exact e
  · cases h
theorem readAll_none {l : List Int} (h : readAll l = none) : readRound l = none ∨ ∃ r x m, readRound l = some (r, x :: m) := by
  unfold readAll at h
  split at h
  · cases h
  · rename_i hne
    cases e : readRound l with
    | none => exact .inl rfl
    | some y =>
      obtain ⟨r, m⟩ := y
      cases m with
      | nil => exact absurd e (hne r)
      | cons x m => exact .inr ⟨r, x, m, rfl⟩

/-- The two results' variables, and the reader, as read lays them. -/
structure Beg (w W : World) (l : List Int) : Prop where
  rd : ReadAt W w.heap.size (w.heap.size + 1 + 1) l
  c0 : ∃ v, W.cell? ⟨w.heap.size, 0, none⟩ = some (.slice v 0 0)
  c1 : W.cell? ⟨w.heap.size + 1, 0, none⟩ = some (.bool false)
  f0 : W.frozen? ⟨w.heap.size, 0, none⟩ = false
  f1 : W.frozen? ⟨w.heap.size + 1, 0, none⟩ = false
  lt : w.heap.size + 1 + 1 < W.heap.size
  be : Below w.heap.size w W
theorem beg_new {w : World} {a : Option Addr} {cap : Nat} {l : List Int} (hb : AllB l) (h : BytesIn (fun b => b < w.heap.size) w (.slice a l.length cap) l) :
    Beg w (((w.alloc (.cells #[.slice none 0 0] 37)).alloc (.cells #[.bool false] 4)).alloc (.cells #[.slice a l.length cap] 218)) l := by
  have hB : Below w.heap.size w (((w.alloc (.cells #[.slice none 0 0] 37)).alloc (.cells #[.bool false] 4)).alloc (.cells #[.slice a l.length cap] 218)) := (((Below.refl _ _).alloc (Nat.le_refl _) _).alloc (by simp) _).alloc (by simp; omega) _
  exact ⟨⟨by omega, hb, _, by go_simp, by go_simp, h.grew (S := fun _ => False) (Grew.of_below hB) (fun _ _ h => h)⟩, ⟨none, by go_simp⟩, by go_simp, by go_simp, by go_simp, by simp, hB⟩

/-- The results are read behind the deferred call. -/
theorem done_results {W : World} {B : Nat} {u b : Value} {ts : Array Value} (h0 : W.cell? ⟨B, 0, none⟩ = some u) (h1 : W.cell? ⟨B + 1, 0, none⟩ = some b) (t0 : ts[2]? = some (.pointer (some ⟨B, 0, none⟩))) (t1 : ts[3]? = some (.pointer (some ⟨B + 1, 0, none⟩))) : (results Tryz.f144 ts).run Tryz.prog W = .ok (.tuple #[u, b]) W := by
  simp [results, Tryz.results144, go_sem, t0, t1, h0, h1]
theorem done_ok {w w1 W : World} {r : List (List Op5)} {ua v0 : Option Addr} {ucap : Nat} {ts : Array Value} (c0 : w1.cell? ⟨w.heap.size, 0, none⟩ = some (.slice v0 0 0)) (c1 : w1.cell? ⟨w.heap.size + 1, 0, none⟩ = some (.bool false)) (hlt : w.heap.size + 1 + 1 < W.heap.size) (hU : RoundIn (fun b => W.heap.size ≤ b) w1 (.slice ua r.length ucap) r) (hB : Below w.heap.size w w1)
    (t0 : ts[2]? = some (.pointer (some ⟨w.heap.size, 0, none⟩))) (t1 : ts[3]? = some (.pointer (some ⟨w.heap.size + 1, 0, none⟩))) :
    Leaves Tryz.prog Tryz.f144 ts (fun e w' => (∃ u, e = .returned (.tuple #[u, .bool true]) ∧ RoundAt w' u r) ∧ Below w.heap.size w w') [] (settle .returning) (((w1.setCell ⟨w.heap.size, 0, none⟩ (.slice ua r.length ucap)).setCell ⟨w.heap.size, 0, none⟩ (.slice ua r.length ucap)).setCell ⟨w.heap.size + 1, 0, none⟩ (.bool true)) := by
  have d0 : (w1.setCell ⟨w.heap.size, 0, none⟩ (.slice ua r.length ucap)).cell? ⟨w.heap.size, 0, none⟩ = some (.slice ua r.length ucap) := World.cell?_setCell_same _ _ _ c0
  have d1 : ((w1.setCell ⟨w.heap.size, 0, none⟩ (.slice ua r.length ucap)).setCell ⟨w.heap.size, 0, none⟩ (.slice ua r.length ucap)).cell? ⟨w.heap.size + 1, 0, none⟩ = some (.bool false) := by
    rw [World.cell?_setCell_other _ _ _ _ (fun h => by simp only [Addr.mk.injEq] at h; omega), World.cell?_setCell_other _ _ _ _ (fun h => by simp only [Addr.mk.injEq] at h; omega)]; exact c1
  refine ⟨.tuple #[.slice ua r.length ucap, .bool true], done_results ?_ (World.cell?_setCell_same _ _ _ d1) t0 t1, ⟨_, rfl, ?_⟩, ?_⟩
  · rw [World.cell?_setCell_other _ _ _ _ (fun h => by simp only [Addr.mk.injEq] at h; omega)]; exact World.cell?_setCell_same _ _ _ d0
  · exact (((hU.grew (grew_cellC _ _ _ _) (fun b hb e => by omega)).grew (grew_cellC _ _ _ _) (fun b hb e => by omega)).grew (grew_cellC _ _ _ _) (fun b hb e => by omega)).at
  · exact ((hB.setCell (p := ⟨w.heap.size, 0, none⟩) (Nat.le_refl _) _).setCell (p := ⟨w.heap.size, 0, none⟩) (Nat.le_refl _) _).setCell (p := ⟨w.heap.size + 1, 0, none⟩) (by simp) _
/-- A reader gave up: the results are none, and false. -/
theorem done_gave {w w1 : World} {u : Value} {ts : Array Value} (c0 : w1.cell? ⟨w.heap.size, 0, none⟩ = some u) (c1 : w1.cell? ⟨w.heap.size + 1, 0, none⟩ = some (.bool false)) (hB : Below w.heap.size w w1)
    (t0 : ts[2]? = some (.pointer (some ⟨w.heap.size, 0, none⟩))) (t1 : ts[3]? = some (.pointer (some ⟨w.heap.size + 1, 0, none⟩))) :
    Leaves Tryz.prog Tryz.f144 ts (fun e w' => e = .returned (.tuple #[.slice none 0 0, .bool false]) ∧ Below w.heap.size w w') [] (settle (.panicking [{ v := .iface 215 (.agg #[]), recovered := true }])) ((w1.setCell ⟨w.heap.size, 0, none⟩ (.slice none 0 0)).setCell ⟨w.heap.size + 1, 0, none⟩ (.bool false)) := by
  have d1 : (w1.setCell ⟨w.heap.size, 0, none⟩ (.slice none 0 0)).cell? ⟨w.heap.size + 1, 0, none⟩ = some (.bool false) := by
    rw [World.cell?_setCell_other _ _ _ _ (fun h => by simp only [Addr.mk.injEq] at h; omega)]; exact c1
  refine ⟨.tuple #[.slice none 0 0, .bool false], done_results ?_ (World.cell?_setCell_same _ _ _ d1) t0 t1, rfl, ?_⟩
  · rw [World.cell?_setCell_other _ _ _ _ (fun h => by simp only [Addr.mk.injEq] at h; omega)]; exact World.cell?_setCell_same _ _ _ c0
  · exact (hB.setCell (p := ⟨w.heap.size, 0, none⟩) (Nat.le_refl _) _).setCell (p := ⟨w.heap.size + 1, 0, none⟩) (by simp) _

set_option maxRecDepth 100000 in
set_option maxHeartbeats 1000000 in
theorem read_some {l : List Int} {r : List (List Op5)} {v : Value} {w : World} (h : BytesAt w v l) (hb : AllB l) (e : readAll l = some r) :
    Calls Tryz.prog 144 #[v] w fun e w' => (∃ u, e = .returned (.tuple #[u, .bool true]) ∧ RoundAt w' u r) ∧ Below w.heap.size w w' := by
  have hmf : ∀ (fn : Fn) (first cap : Array Value) (w : World), (Instr.makeFunc fn first cap).run Tryz.prog w = .ok (.func fn first cap) w := fun _ _ _ _ => rfl
  have h' := h.inside
  obtain ⟨a, cap, rfl, -⟩ := h
  have hbeg := beg_new hb h'
  go_enter_defers Tryz.func144, Tryz.ntmps144
  go_wp2_with fail
  generalize ((w.alloc (.cells #[.slice none 0 0] 37)).alloc (.cells #[.bool false] 4)).alloc (.cells #[.slice a l.length cap] 218) = W at *
  obtain ⟨hR, ⟨v0, c0⟩, c1, f0, f1, hlt, hB⟩ := hbeg
  refine (round_some hR (readAll_some e)).mono ?_
  rintro e w1 ⟨⟨u, rfl, hU⟩, hR1, hG1⟩
  replace c0 := hG1.cell c0 (show ¬ w.heap.size = w.heap.size + 1 + 1 by omega)
  replace c1 := hG1.cell c1 (show ¬ w.heap.size + 1 = w.heap.size + 1 + 1 by omega)
  replace f0 := (hG1.frozen (p := ⟨w.heap.size, 0, none⟩) (by simp; omega) (show ¬ w.heap.size = w.heap.size + 1 + 1 by omega)).trans f0
  replace f1 := (hG1.frozen (p := ⟨w.heap.size + 1, 0, none⟩) (by simp; omega) (show ¬ w.heap.size + 1 = w.heap.size + 1 + 1 by omega)).trans f1
  have hB1 : Below w.heap.size w w1 := hG1.below hB hB.size (fun k hk => by omega)
  have hlt1 : w.heap.size + 1 + 1 < w1.heap.size := Nat.lt_of_lt_of_le hlt hG1.size
  have hU0 := hU
  obtain ⟨ua, ucap, rfl, -⟩ := hU
  clear hR hG1
  go_wp2_with fail
  refine (end_none (hR1.other (Nat.le_refl _) (by omega) 0 _)).mono ?_
  rintro e w2 ⟨rfl, rfl⟩
  go_wp2_with fail
  refine leaves_cons (f := 164) (args := #[.pointer (some ⟨w.heap.size, 0, none⟩), .pointer (some ⟨w.heap.size + 1, 0, none⟩)]) (by simp) (by simp [go_sem]) ?_
  refine (catch_idle ⟨w.heap.size, 0, none⟩ ⟨w.heap.size + 1, 0, none⟩ _).mono ?_
  rintro e u' w'' ⟨rfl, rfl, rfl⟩
  exact done_ok c0 c1 hlt hU0 hB1 rfl rfl

set_option maxRecDepth 100000 in
set_option maxHeartbeats 1000000 in
theorem read_none {l : List Int} {v : Value} {w : World} (h : BytesAt w v l) (hb : AllB l) (e : readAll l = none) :
    Calls Tryz.prog 144 #[v] w fun e w' => e = .returned (.tuple #[.slice none 0 0, .bool false]) ∧ Below w.heap.size w w' := by
  have hmf : ∀ (fn : Fn) (first cap : Array Value) (w : World), (Instr.makeFunc fn first cap).run Tryz.prog w = .ok (.func fn first cap) w := fun _ _ _ _ => rfl
  have h' := h.inside
  obtain ⟨a, cap, rfl, -⟩ := h
  have hbeg := beg_new hb h'
  go_enter_defers Tryz.func144, Tryz.ntmps144
  go_wp2_with fail
  generalize ((w.alloc (.cells #[.slice none 0 0] 37)).alloc (.cells #[.bool false] 4)).alloc (.cells #[.slice a l.length cap] 218) = W at *
  obtain ⟨hR, ⟨v0, c0⟩, c1, f0, f1, hlt, hB⟩ := hbeg
  rcases readAll_none e with e | ⟨r, x, m, e⟩
  · refine (round_none hR e).mono ?_
    rintro e w1 ⟨rfl, hG1⟩
    replace c0 := hG1.cell c0 (show ¬ w.heap.size = w.heap.size + 1 + 1 by omega)
    replace c1 := hG1.cell c1 (show ¬ w.heap.size + 1 = w.heap.size + 1 + 1 by omega)
    replace f0 := (hG1.frozen (p := ⟨w.heap.size, 0, none⟩) (by simp; omega) (show ¬ w.heap.size = w.heap.size + 1 + 1 by omega)).trans f0
    replace f1 := (hG1.frozen (p := ⟨w.heap.size + 1, 0, none⟩) (by simp; omega) (show ¬ w.heap.size + 1 = w.heap.size + 1 + 1 by omega)).trans f1
    have hB1 : Below w.heap.size w w1 := hG1.below hB hB.size (fun k hk => by omega)
    refine leaves_cons (f := 164) (args := #[.pointer (some ⟨w.heap.size, 0, none⟩), .pointer (some ⟨w.heap.size + 1, 0, none⟩)]) (by simp) (by simp [go_sem]) ?_
    refine (catch_gave w.heap.size _ _ _ c0 c1 f0 f1).mono ?_
    rintro e u' w'' ⟨rfl, rfl, rfl⟩
    exact done_gave c0 c1 hB1 rfl rfl
  · refine (round_some hR e).mono ?_
    rintro e w1 ⟨⟨u, rfl, hU⟩, hR1, hG1⟩
    replace c0 := hG1.cell c0 (show ¬ w.heap.size = w.heap.size + 1 + 1 by omega)
    replace c1 := hG1.cell c1 (show ¬ w.heap.size + 1 = w.heap.size + 1 + 1 by omega)
    replace f0 := (hG1.frozen (p := ⟨w.heap.size, 0, none⟩) (by simp; omega) (show ¬ w.heap.size = w.heap.size + 1 + 1 by omega)).trans f0
    replace f1 := (hG1.frozen (p := ⟨w.heap.size + 1, 0, none⟩) (by simp; omega) (show ¬ w.heap.size + 1 = w.heap.size + 1 + 1 by omega)).trans f1
    have hB1 : Below w.heap.size w w1 := hG1.below hB hB.size (fun k hk => by omega)
    obtain ⟨ua, ucap, rfl, -⟩ := hU
    clear hR hG1
    go_wp2_with fail
    refine (end_some (hR1.other (Nat.le_refl _) (by omega) 0 _)).mono ?_
    rintro e w2 ⟨rfl, rfl⟩
    have d0 : (w1.setCell ⟨w.heap.size, 0, none⟩ (.slice ua r.length ucap)).cell? ⟨w.heap.size, 0, none⟩ = some (.slice ua r.length ucap) := World.cell?_setCell_same _ _ _ c0
    have d1 : (w1.setCell ⟨w.heap.size, 0, none⟩ (.slice ua r.length ucap)).cell? ⟨w.heap.size + 1, 0, none⟩ = some (.bool false) := by
      rw [World.cell?_setCell_other _ _ _ _ (fun h => by simp only [Addr.mk.injEq] at h; omega)]; exact c1
    refine leaves_cons (f := 164) (args := #[.pointer (some ⟨w.heap.size, 0, none⟩), .pointer (some ⟨w.heap.size + 1, 0, none⟩)]) (by simp) (by simp [go_sem]) ?_
    refine (catch_gave w.heap.size _ _ _ d0 d1 (by rw [World.frozen?_setCell]; exact f0) (by rw [World.frozen?_setCell]; exact f1)).mono ?_
    rintro e u' w'' ⟨rfl, rfl, rfl⟩
    exact done_gave d0 d1 (hB1.setCell (p := ⟨w.heap.size, 0, none⟩) (Nat.le_refl _) _) rfl rfl
end Go.Proofs.YtehkjbpgibdgpadGreatDoor
namespace Go.Proofs.YtehkjbpgibdgpadGreatDoor
open Go.RowKit

/-- What Decode answers. -/
def DecOut (w' : World) (e : Ending) (t : List (List Op5) × Int × Int) : Prop := ∃ u, e = .returned (.tuple #[u, .int .i64 t.2.1, .int .i64 t.2.2]) ∧ RoundAt w' u t.1
theorem roundAt_nil (w : World) : RoundAt w (.slice none 0 0) [] := ⟨none, 0, rfl, fun i hi => by simp at hi⟩

theorem shl_byte {y : Int} (h : IsB y) : wrap64 (y * 256) = 256 * y := by unfold IsB at h; unfold wrap64; omega

set_option maxRecDepth 100000 in
set_option maxHeartbeats 1000000 in
theorem dec_short {l : List Int} {v : Value} {w : World} (h : BytesAt w v l) (h2 : l.length < 2) :
    Calls Tryz.prog 116 #[v] w fun e w' => DecOut w' e (decF l) ∧ Below w.heap.size w w' := by
  have hF : Hid (decF l = ([], 0, 6)) := by
    match l, h2 with
    | [], _ => rfl
    | [_], _ => rfl
  obtain ⟨a, cap, rfl, hc, -⟩ := h
  go_enter Tryz.func116, Tryz.ntmps116
  go_wp2_with fail
  refine bodyPost_ret (results_tmp3 rfl _ _ _) rfl ?_
  rw [hF.out]
  exact ⟨⟨_, rfl, roundAt_nil _⟩, Below.refl _ _⟩

set_option maxRecDepth 100000 in
set_option maxHeartbeats 1000000 in
theorem dec_long {l : List Int} {x y : Int} {v : Value} {w : World} (h : BytesAt w v (x :: y :: l)) (hb : AllB (x :: y :: l)) (hm : l.length ≤ 140737488355328) (hL : Lim w) :
    Calls Tryz.prog 116 #[v] w fun e w' => DecOut w' e (decF (x :: y :: l)) ∧ Below w.heap.size w w' := by
  have H := h
  obtain ⟨a, cap, rfl, hc, hcell⟩ := h
  obtain ⟨b, off, -, rfl, c0⟩ := hcell 0 (by simp)
  obtain ⟨b', off', -, e, c1⟩ := hcell 1 (by simp)
  cases e
  simp only [List.length_cons, List.getElem_cons_zero, List.getElem_cons_succ, Nat.add_zero] at c0 c1 hc H
  clear hcell
  have hx := int_byte hb.head
  have hy := int_byte hb.tail.head
  have hs := shl_byte hb.tail.head
  have bx := hb.head
  have bY := hb.tail.head
  unfold IsB at bx bY
  have hs : x + 256 * y = x + y * 256 := by omega
  have hd : decF (x :: y :: l) = if (l.length : Int) < x + 256 * y then ([], 0, 6) else match readAll (l.take (x + 256 * y).toNat) with | none => ([], 0, 3) | some r => if roundF r ≠ 0 then ([], 0, roundF r) else (r, 2 + x + 256 * y, 0) := rfl
  rw [hs, show 2 + x + 256 * y = 2 + x + y * 256 by omega] at hd
  by_cases hlt : (l.length : Int) < x + y * 256
  · rw [if_pos hlt] at hd
    have HD : Hid (decF (x :: y :: l) = ([], 0, 6)) := hd
    have ht : ((l.length : Int) + 1 + 1 < 2 + x + y * 256) := by omega
    clear hd hs hlt
    go_enter Tryz.func116, Tryz.ntmps116
    go_wp2_with fail
    go_region
    go_wp2_with fail
    refine bodyPost_ret (results_tmp3 rfl _ _ _) rfl ?_
    rw [HD.out]
    exact ⟨⟨_, rfl, roundAt_nil _⟩, (Below.refl _ _).drew⟩
  · rw [if_neg hlt] at hd
    have ht : ¬ ((l.length : Int) + 1 + 1 < 2 + x + y * 256) := by omega
    obtain ⟨sv, hsv, hB⟩ := cut_lh (P := fun _ => True) (W := w) (l := x :: y :: l) H (m := 2) (n := 2 + x + y * 256) (by omega) (by omega) (by simp only [List.length_cons]; omega)
    have hsv' : ∀ w, (Instr.slice 53 (.slice (some ⟨b, off, none⟩) (l.length + 1 + 1) cap) (some (.int .i64 2)) (some (.int .i64 (2 + x + y * 256))) none).run Tryz.prog w = .ok sv w := hsv
    have hE : (((x :: y :: l).take (2 + x + y * 256).toNat).drop (2 : Int).toNat) = l.take (x + y * 256).toNat := by
      rw [show (2 + x + y * 256).toNat = (x + y * 256).toNat + 2 by omega]; rfl
    rw [hE] at hB
    clear hE hsv hs H hlt
    have hAll : AllB (l.take (x + y * 256).toNat) := hb.tail.tail.take _
    generalize l.take (x + y * 256).toNat = m at *
    cases hr : readAll m with
    | none =>
      rw [hr] at hd
      have HD : Hid (decF (x :: y :: l) = ([], 0, 3)) := hd
      have hread := read_none (w := w.drew) hB hAll hr
      clear hd hB hr
      go_enter Tryz.func116, Tryz.ntmps116
      go_wp2_with fail
      go_region
      go_wp2_with fail
      refine hread.mono ?_
      rintro e w1 ⟨rfl, hb1⟩
      have hB1 : Below w.heap.size w w1 := (Below.refl _ _).drew.trans hb1
      go_wp2_with fail
      refine bodyPost_ret (results_tmp3 rfl _ _ _) rfl ?_
      rw [HD.out]
      exact ⟨⟨_, rfl, roundAt_nil _⟩, hB1⟩
    | some r =>
      rw [hr] at hd
      have hread := read_some (w := w.drew) hB hAll hr
      have hfit := readAll_fits hAll hr
      have hF : Fits r := ⟨by omega, fun i hi => by have := hfit.2 _ (List.getElem_mem hi); omega⟩
      clear hB hr hfit
      by_cases hz : roundF r = 0
      · have HD : Hid (decF (x :: y :: l) = (r, 2 + x + y * 256, 0)) := hd.trans (if_neg (by simp [hz]))
        clear hd
        go_enter Tryz.func116, Tryz.ntmps116
        go_wp2_with fail
        go_region
        go_wp2_with fail
        refine hread.mono ?_
        rintro e w1 ⟨⟨u, rfl, hU⟩, hb1⟩
        have hB1 : Below w.heap.size w w1 := (Below.refl _ _).drew.trans hb1
        clear hread hb1
        go_wp2_with fail
        refine (round_any u r w1 hU hF (hL.later hB1)).mono ?_
        rintro e w2 ⟨rfl, hb2⟩
        have hU2 := hU.later hb2
        have hB2 : Below w.heap.size w w2 := hB1.trans (hb2.mono hB1.size)
        clear hU hB1 hb2
        go_wp2_with fail
        refine bodyPost_ret (results_tmp3 rfl _ _ _) rfl ?_
        rw [HD.out]
        exact ⟨⟨_, rfl, hU2⟩, hB2⟩
      · have HD : Hid (decF (x :: y :: l) = ([], 0, roundF r)) := hd.trans (if_pos hz)
        clear hd
        go_enter Tryz.func116, Tryz.ntmps116
        go_wp2_with fail
        go_region
        go_wp2_with fail
        refine hread.mono ?_
        rintro e w1 ⟨⟨u, rfl, hU⟩, hb1⟩
        have hB1 : Below w.heap.size w w1 := (Below.refl _ _).drew.trans hb1
        clear hread hb1
        go_wp2_with fail
        refine (round_any u r w1 hU hF (hL.later hB1)).mono ?_
        rintro e w2 ⟨rfl, hb2⟩
        have hB2 : Below w.heap.size w w2 := hB1.trans (hb2.mono hB1.size)
        clear hU hB1 hb2
        go_wp2_with fail
        refine bodyPost_ret (results_tmp3 rfl _ _ _) rfl ?_
        rw [HD.out]
        exact ⟨⟨_, rfl, roundAt_nil _⟩, hB2⟩

theorem dec_any {l : List Int} {v : Value} {w : World} (h : BytesAt w v l) (hb : AllB l) (hm : l.length ≤ 140737488355328) (hL : Lim w) :
    Calls Tryz.prog 116 #[v] w fun e w' => DecOut w' e (decF l) ∧ Below w.heap.size w w' := by
  match l, h, hb, hm with
  | [], h, _, _ => exact dec_short h (by simp)
  | [_], h, _, _ => exact dec_short h (by simp)
  | x :: y :: l, h, hb, hm => exact dec_long h hb (by simp at hm; omega) hL
end Go.Proofs.YtehkjbpgibdgpadGreatDoor
namespace Go.Proofs.YtehkjbpgibdgpadGreatDoor
open Go.RowKit

def oC : Op5 := ⟨2, 1, 2, 0, 0⟩
def rC : List (List Op5) := [[oC]]
theorem roundC : roundF rC = 0 := by decide
theorem fitsC : Fits rC := ⟨by simp [rC], fun i hi => by
  obtain rfl : i = 0 := by simp [rC] at hi; omega
  simp [rC]⟩
theorem encC : encB rC = [5, 0, 1, 1, 2, 33, 0] := by decide
theorem r64C : R64 rC := fun d hd o ho => by
  obtain rfl : d = [oC] := by simpa [rC] using hd
  obtain rfl : o = oC := by simpa using ho
  exact ⟨by decide, by decide⟩
theorem decC : decF [5, 0, 1, 1, 2, 33, 0, 9] = (rC, 7, 0) := by
  have := dec_enc roundC r64C [9]
  rw [encC] at this
  exact this
theorem allC : AllB [5, 0, 1, 1, 2, 33, 0, 9] := by unfold AllB IsB; decide
theorem all1 : AllB [1] := by unfold AllB IsB; decide
theorem strC : strOfNums [5, 0, 1, 1, 2, 33, 0] = ⟨#[5, 0, 1, 1, 2, 33, 0]⟩ := rfl

theorem roundAtC (w : World) : RoundAt ((w.alloc (.cells #[.int .i64 2, .int .i64 1, .int .i64 2, .int .i64 0, .int .i64 0] 121)).alloc (.cells #[.slice (some ⟨w.heap.size, 0, none⟩) 1 1] 85)) (.slice (some ⟨w.heap.size + 1, 0, none⟩) 1 1) rC := by
  refine ⟨_, 1, rfl, fun i hi => ?_⟩
  obtain rfl : i = 0 := by simp [rC] at hi; omega
  refine ⟨w.heap.size + 1, 0, rfl, .slice (some ⟨w.heap.size, 0, none⟩) 1 1, ?_, _, 1, rfl, fun k hk => ⟨w.heap.size, 0, rfl, ?_⟩⟩
  · go_simp
  · obtain rfl : k = 0 := by simp [rC] at hk; omega
    exact ⟨by go_simp; rfl, by go_simp; rfl, by go_simp; rfl, by go_simp; rfl, by go_simp; rfl⟩

/-- The string of some bytes. -/
theorem BytesAt.str {w : World} {l : List Int} {a : Option Addr} {cap : Nat} (h : BytesAt w (.slice a l.length cap) l) : (convert 53 9 (.slice a l.length cap)).run Tryz.prog w = .ok (.string (strOfNums l)) w := by
  by_cases h0 : 0 < l.length
  · obtain ⟨a', cap', e, -, hc⟩ := h
    cases e
    obtain ⟨b, off, -, rfl, -⟩ := hc 0 h0
    refine run_convert_bytes_arg w 53 5 Tryz.underlying53 Tryz.underlying5 b off l.length cap l rfl (fun i hi => ?_) 9 Tryz.underlying9
    obtain ⟨b', off', -, e, hcell⟩ := hc i hi
    cases e
    rw [hcell, List.getD_eq_getElem?_getD, List.getElem?_eq_getElem hi]; rfl
  · obtain rfl : l = [] := List.eq_nil_of_length_eq_zero (by omega)
    cases a with
    | none => exact run_convert_bytes_nil w 53 5 Tryz.underlying53 Tryz.underlying5 _ _ 9 Tryz.underlying9
    | some ad =>
      show (convert 53 9 (.slice (some ad) 0 cap)).run Tryz.prog w = _
      rw [run_convert_bytes_string w 53 9 5 _ _ _ Tryz.underlying53 Tryz.underlying5 Tryz.underlying9, run_bytesToString w ad 0 cap [] (by simpa using run_loadCells_list (P := Tryz.prog) w ad [] (by simp))]
      rfl

theorem bytes_new (w : World) (l : List Int) (t : TypeId) : BytesAt (w.alloc (.cells (byteCells l).toArray t)) (.slice (some ⟨w.heap.size, 0, none⟩) l.length l.length) l :=
  ⟨_, _, rfl, Nat.le_refl _, fun i hi => ⟨w.heap.size, 0, trivial, rfl, by
    have := new_cells w l t i (.int .u8 l[i]) (by simp [byteCells, hi])
    rw [addr_add] at this; exact this⟩⟩


end Go.Proofs.YtehkjbpgibdgpadGreatDoor
