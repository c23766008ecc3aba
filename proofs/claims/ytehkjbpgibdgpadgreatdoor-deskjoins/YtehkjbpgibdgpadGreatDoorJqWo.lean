/-
  A worker as it lies in memory; worlds that part in some blocks alone. A deed's cells; copy of operations; the walk of code.Own at a round of one deed. The walk of worker.New. The walk of the reference's Stores. The reference's board as it lies in memory; append as one step of a region, with the place where the new row lies. The workers of a round as they lie in memory, and the row of pointers to them.
-/
import Derived.Test.YtehkjbpgibdgpadGreatDoorJqTb
import Derived.Test.YtehkjbpgibdgpadGreatDoorJqMb
import Derived.Test.YtehkjbpgibdgpadGreatDoorJqWa
import Derived.StillTailTactics
import Derived.Laws.CopyOwn
import Derived.Laws.MakeOwn
import Derived.Maps.AppendAt
import Derived.Deep.RegionLaw
import Derived.Deep.CutRange
namespace Go.Proofs.YtehkjbpgibdgpadGreatDoor
open Go.RowKit Go.Shelf

theorem grown_alloc (w : World) (o : Obj) (row : Option Nat) : w.grownBy (w.alloc o) row := below_grown ((Below.refl _ _).alloc (Nat.le_refl _) _) row
theorem grown_drewN (w : World) (n : Nat) (row : Option Nat) : w.grownBy (w.drewN n) row := ⟨rfl, rfl, rfl, Nat.le_refl _, fun _ _ _ => rfl⟩

/-- A worker: its deed, its number, its place, what it stored, its code, its registers, whether it is over. -/
structure WorkAt (w : World) (C : Nat) (dv : Value) (b : Nat) (x : Wk) : Prop where
  deed : w.cell? ⟨C, 0, none⟩ = some dv
  num : w.cell? ⟨C, 1, none⟩ = some (.int .i64 (b : Int))
  place : w.cell? ⟨C, 2, none⟩ = some (.int .i64 (x.nx : Int))
  sto : ∀ k, k < 10 → w.cell? ⟨C, 3 + k * 2, none⟩ = some (.int .i64 (x.n k))
  is : ∀ k, k < 10 → w.cell? ⟨C, 3 + k * 2 + 1, none⟩ = some (.bool (x.is k))
  code : w.cell? ⟨C, 23, none⟩ = some (.int .i64 x.code)
  reg : ∀ i, i < 4 → w.cell? ⟨C, 24 + i, none⟩ = some (.int .i64 (x.regs i))
  over : w.cell? ⟨C, 28, none⟩ = some (.bool x.over)
  free : ∀ o, w.frozen? ⟨C, o, none⟩ = false

theorem WorkAt.lt {w : World} {C : Nat} {dv : Value} {b : Nat} {x : Wk} (h : WorkAt w C dv b x) : C < w.heap.size := World.block_lt_of_cell? w _ h.deed
theorem WorkAt.kept {w w' : World} {C : Nat} {dv : Value} {b : Nat} {x : Wk} (h : WorkAt w C dv b x) (hb : w'.heap[C]? = w.heap[C]?) : WorkAt w' C dv b x := by
  have hc : ∀ o, w'.cell? ⟨C, o, none⟩ = w.cell? ⟨C, o, none⟩ := fun o => World.cell?_of_block hb
  have hf : ∀ o, w'.frozen? ⟨C, o, none⟩ = w.frozen? ⟨C, o, none⟩ := fun o => World.frozen?_of_block hb
  exact ⟨by rw [hc]; exact h.deed, by rw [hc]; exact h.num, by rw [hc]; exact h.place, fun k hk => by rw [hc]; exact h.sto k hk, fun k hk => by rw [hc]; exact h.is k hk, by rw [hc]; exact h.code, fun k hk => by rw [hc]; exact h.reg k hk, by rw [hc]; exact h.over, fun o => by rw [hf]; exact h.free o⟩
theorem WorkAt.later {w w' : World} {C : Nat} {dv : Value} {b : Nat} {x : Wk} (h : WorkAt w C dv b x) (hb : Below w.heap.size w w') : WorkAt w' C dv b x := h.kept (hb.block C h.lt)
theorem WorkAt.alloc {w : World} {C : Nat} {dv : Value} {b : Nat} {x : Wk} (h : WorkAt w C dv b x) (o : Obj) : WorkAt (w.alloc o) C dv b x := h.later ((Below.refl _ _).alloc (Nat.le_refl _) _)
theorem WorkAt.drew {w : World} {C : Nat} {dv : Value} {b : Nat} {x : Wk} (h : WorkAt w C dv b x) : WorkAt w.drew C dv b x := h.kept rfl
theorem WorkAt.drewN {w : World} {C : Nat} {dv : Value} {b : Nat} {x : Wk} (h : WorkAt w C dv b x) (n : Nat) : WorkAt (w.drewN n) C dv b x := h.kept rfl
theorem WorkAt.grew {S : Nat → Prop} {w w' : World} {C : Nat} {dv : Value} {b : Nat} {x : Wk} (h : WorkAt w C dv b x) (hg : Grew S w w') (hn : ¬ S C) : WorkAt w' C dv b x := h.kept (hg.block C h.lt hn)
theorem WorkAt.grown {w w' : World} {B C : Nat} {dv : Value} {b : Nat} {x : Wk} (h : WorkAt w C dv b x) (hg : w.grownBy w' (some B)) (hn : C ≠ B) : WorkAt w' C dv b x := h.kept (hg.block C h.lt (fun e => hn (by cases e; rfl)))

theorem cell_apart {w : World} {C o m : Nat} (u : Value) (h : o ≠ m) : (w.setCell ⟨C, m, none⟩ u).cell? ⟨C, o, none⟩ = w.cell? ⟨C, o, none⟩ :=
  World.cell?_setCell_other _ _ _ _ (fun h => by simp only [Addr.mk.injEq] at h; omega)

theorem WorkAt.setNext {w : World} {C : Nat} {dv : Value} {b : Nat} {x : Wk} (h : WorkAt w C dv b x) (n : Nat) : WorkAt (w.setCell ⟨C, 2, none⟩ (.int .i64 (n : Int))) C dv b ⟨n, x.is, x.n, x.regs, x.code, x.over⟩ :=
  ⟨by rw [cell_apart _ (by omega)]; exact h.deed, by rw [cell_apart _ (by omega)]; exact h.num, World.cell?_setCell_same _ _ _ h.place, fun k hk => by rw [cell_apart _ (by omega)]; exact h.sto k hk, fun k hk => by rw [cell_apart _ (by omega)]; exact h.is k hk, by rw [cell_apart _ (by omega)]; exact h.code, fun k hk => by rw [cell_apart _ (by omega)]; exact h.reg k hk, by rw [cell_apart _ (by omega)]; exact h.over, fun o => by rw [World.frozen?_setCell]; exact h.free o⟩
theorem WorkAt.setReg {w : World} {C : Nat} {dv : Value} {b : Nat} {x : Wk} (h : WorkAt w C dv b x) {m : Nat} (hm : m < 4) (n : Int) : WorkAt (w.setCell ⟨C, 24 + m, none⟩ (.int .i64 n)) C dv b ⟨x.nx, x.is, x.n, putAt x.regs m n, x.code, x.over⟩ :=
  ⟨by rw [cell_apart _ (by omega)]; exact h.deed, by rw [cell_apart _ (by omega)]; exact h.num, by rw [cell_apart _ (by omega)]; exact h.place, fun k hk => by rw [cell_apart _ (by omega)]; exact h.sto k hk, fun k hk => by rw [cell_apart _ (by omega)]; exact h.is k hk, by rw [cell_apart _ (by omega)]; exact h.code, fun k hk => by
    by_cases e : k = m
    · subst e; rw [World.cell?_setCell_same _ _ _ (h.reg k hk)]; simp [putAt]
    · rw [cell_apart _ (by omega), h.reg k hk]; simp [putAt, e], by rw [cell_apart _ (by omega)]; exact h.over, fun o => by rw [World.frozen?_setCell]; exact h.free o⟩
theorem WorkAt.setSto {w : World} {C : Nat} {dv : Value} {b : Nat} {x : Wk} (h : WorkAt w C dv b x) {m : Nat} (hm : m < 10) (n : Int) : WorkAt ((w.setCell ⟨C, 3 + m * 2, none⟩ (.int .i64 n)).setCell ⟨C, 3 + m * 2 + 1, none⟩ (.bool true)) C dv b ⟨x.nx, fun i => if i = m then true else x.is i, putAt x.n m n, x.regs, x.code, x.over⟩ :=
  ⟨by rw [cell_apart _ (by omega), cell_apart _ (by omega)]; exact h.deed, by rw [cell_apart _ (by omega), cell_apart _ (by omega)]; exact h.num, by rw [cell_apart _ (by omega), cell_apart _ (by omega)]; exact h.place, fun k hk => by
    rw [cell_apart _ (by omega)]
    by_cases e : k = m
    · subst e; rw [World.cell?_setCell_same _ _ _ (h.sto k hk)]; simp [putAt]
    · rw [cell_apart _ (by omega), h.sto k hk]; simp [putAt, e], fun k hk => by
    by_cases e : k = m
    · subst e; rw [World.cell?_setCell_same _ _ _ (by rw [cell_apart _ (by omega)]; exact h.is k hk)]; simp
    · rw [cell_apart _ (by omega), cell_apart _ (by omega), h.is k hk]; simp [e], by rw [cell_apart _ (by omega), cell_apart _ (by omega)]; exact h.code, fun k hk => by rw [cell_apart _ (by omega), cell_apart _ (by omega)]; exact h.reg k hk, by rw [cell_apart _ (by omega), cell_apart _ (by omega)]; exact h.over, fun o => by rw [World.frozen?_setCell, World.frozen?_setCell]; exact h.free o⟩
theorem WorkAt.setOver {w : World} {C : Nat} {dv : Value} {b : Nat} {x : Wk} (h : WorkAt w C dv b x) (c : Int) : WorkAt ((w.setCell ⟨C, 23, none⟩ (.int .i64 c)).setCell ⟨C, 28, none⟩ (.bool true)) C dv b (overW x c) :=
  ⟨by rw [cell_apart _ (by omega), cell_apart _ (by omega)]; exact h.deed, by rw [cell_apart _ (by omega), cell_apart _ (by omega)]; exact h.num, by rw [cell_apart _ (by omega), cell_apart _ (by omega)]; exact h.place, fun k hk => by rw [cell_apart _ (by omega), cell_apart _ (by omega)]; exact h.sto k hk, fun k hk => by rw [cell_apart _ (by omega), cell_apart _ (by omega)]; exact h.is k hk, by rw [cell_apart _ (by omega)]; exact World.cell?_setCell_same _ _ _ h.code, fun k hk => by rw [cell_apart _ (by omega), cell_apart _ (by omega)]; exact h.reg k hk, World.cell?_setCell_same _ _ _ (by rw [cell_apart _ (by omega)]; exact h.over), fun o => by rw [World.frozen?_setCell, World.frozen?_setCell]; exact h.free o⟩
end Go.Proofs.YtehkjbpgibdgpadGreatDoor
namespace Go.Proofs.YtehkjbpgibdgpadGreatDoor
open Go.RowKit Go.Shelf

theorem info50 : (Tryz.prog.info? 85).map (fun i => (i.zero, i.size, i.bytes)) = some (some (.slice none 0 0), 1, 24) := by kernel_rfl
theorem info61 : (Tryz.prog.info? 121).map (fun i => (i.zero, i.size, i.bytes)) = some (some (.agg #[.int .i64 0, .int .i64 0, .int .i64 0, .int .i64 0, .int .i64 0]), 5, 40) := by kernel_rfl

/-- copy of a deed's operations into a row of the call's own. -/
theorem run_copy_deed (w : World) (ty : TypeId) (g : Nat) (cur : Array Value) (t : TypeId) (a : Option Addr) (cap : Nat) (d : List Op5) (hg : w.heap[g]? = some (.cells cur t (0, 0))) (hcur : cur.size = d.length * 5) (hd : DeedAt w (.slice a d.length cap) d) :
    (Builtin.copy_ #[85, 85] ty #[.slice (some ⟨g, 0, none⟩) d.length d.length, .slice a d.length cap]).run Tryz.prog w = .ok (goInt d.length) (w.setRow g (deedCells d).toArray) := by
  obtain ⟨i, hi, -, hs, -⟩ := info_parts info61
  by_cases h0 : 0 < d.length
  · obtain ⟨b, off, rfl, hc⟩ := hd.cells h0
    have hl := run_loadCells_list (P := Tryz.prog) w ⟨b, off, none⟩ (deedCells d) hc
    have hst := run_storeCells_at Tryz.prog g 0 t (deedCells d) 0 cur w hg (by rw [hcur, deedCells_length]; omega) (deedCells_one d)
    have hdrop : cur.toList.drop (0 + 0 + (deedCells d).length) = [] := List.drop_eq_nil_of_le (by rw [deedCells_length]; simp [hcur])
    rw [hdrop] at hst
    rw [deedCells_length] at hl
    simp only [Nat.add_zero, List.take_zero, List.nil_append, List.append_nil] at hst
    simp [Builtin.copy_, run_underlying Tryz.underlying85, Builtin.lenOf, Builtin.firstCells, sizeOf, typeInfo, hi, hs, hl, hst]
  · obtain rfl : d = [] := List.eq_nil_of_length_eq_zero (by omega)
    have hl : ∀ (x : Addr), (loadCells x 0).run Tryz.prog w = .ok #[] w := fun x => by simpa using run_loadCells_list (P := Tryz.prog) w x [] (by simp)
    obtain rfl : cur = #[] := Array.eq_empty_of_size_eq_zero (by simpa using hcur)
    have hself : w.setRow g (deedCells []).toArray = w := setRow_self w g #[] t (0, 0) hg
    rw [hself]
    cases a <;> simp [Builtin.copy_, run_underlying Tryz.underlying85, Builtin.lenOf, Builtin.firstCells, sizeOf, typeInfo, hi, storeCells, hl]
theorem wpList_copy_deed {w : World} {ops : Array Oper} {rest : List Oper} {o : Oper} {a : Act} {Q : Exit → Act → World → Prop} (hgd : o.guard = none) (x s : Operand)
    (ho : o.op = .call { callee := .builtin .copy, args := #[x, s], argTypes := #[85, 85] }) (g : Nat) (cur : Array Value) (t : TypeId) (da : Option Addr) (cap : Nat) (d : List Op5)
    (hx : a.eval x = .slice (some ⟨g, 0, none⟩) d.length d.length) (hs : a.eval s = .slice da d.length cap) (hg : w.heap[g]? = some (.cells cur t (0, 0))) (hcur : cur.size = d.length * 5) (hd : DeedAt w (.slice da d.length cap) d)
    (h : wpList Tryz.prog ops Q rest (a.put o.dst (goInt d.length)) (w.setRow g (deedCells d).toArray)) : wpList Tryz.prog ops Q (o :: rest) a w := by
  refine wpList_plain hgd fun K hK => ?_
  have hrun := run_copy_deed w o.type g cur t da cap d hg hcur hd
  unfold Oper.wp
  simp [execOp, ho, resolve, invoke, builtin, hx, hs, hrun, Result.andThen]
  exact hK _ _ h

theorem make_one (w : World) : (Instr.makeSlice 37 (.int .i64 1) (.int .i64 1)).run Tryz.prog w = .ok (.slice (some ⟨w.heap.size, 0, none⟩) 1 1) (w.alloc (.cells #[.slice none 0 0] 85)) := by
  obtain ⟨i, hi, hz, hs, hb⟩ := info_parts info50
  have := run_make (P := Tryz.prog) w 37 85 i _ Tryz.underlying37 hi hz .i64 .i64 1 1 (by omega) (by omega) (by rw [hb]; omega) (by omega)
  have e : madeCells (Value.slice none 0 0).cells (Int.toNat 1 * 1) = #[.slice none 0 0] := by kernel_rfl
  rw [this, hs, e]
  rfl
theorem make_deed (n : Nat) (hn : n ≤ 14) : ∃ cs : Array Value, cs.size = n * 5 ∧ ∀ w, (Instr.makeSlice 85 (.int .i64 (n : Int)) (.int .i64 (n : Int))).run Tryz.prog w = .ok (.slice (some ⟨w.heap.size, 0, none⟩) n n) (w.alloc (.cells cs 121)) := by
  obtain ⟨i, hi, hz, hs, hb⟩ := info_parts info61
  refine ⟨madeCells (Value.agg #[.int .i64 0, .int .i64 0, .int .i64 0, .int .i64 0, .int .i64 0]).cells (n * i.size), ?_, fun w => ?_⟩
  · rw [size_madeCells, hs]
  · have := run_make (P := Tryz.prog) w 85 121 i _ Tryz.underlying85 hi hz .i64 .i64 n n (by omega) (Int.le_refl _) (by rw [hb]; omega) (by omega)
    simp only [Int.toNat_natCast] at this
    exact this

theorem size_setCell' (w : World) (a : Addr) (u : Value) : (w.setCell a u).heap.size = w.heap.size := by simp [World.setCell]

set_option maxRecDepth 100000 in
set_option maxHeartbeats 1000000 in
theorem own_one (b : Nat) (dv : Value) (d : List Op5) (w : World) (hb : w.cell? ⟨b, 0, none⟩ = some dv) (hd : DeedAt w dv d) (hlen : d.length ≤ 14) :
    Calls Tryz.prog 182 #[.slice (some ⟨b, 0, none⟩) 1 1] w fun e w' => ∃ u, e = .returned (.slice (some ⟨w.heap.size, 0, none⟩) 1 1) ∧ w'.cell? ⟨w.heap.size, 0, none⟩ = some u ∧ DeedIn (fun g => w.heap.size < g) w' u d ∧ Below w.heap.size w w' := by
  have hm1 := make_one
  obtain ⟨cs, hcs, hm2⟩ := make_deed d.length hlen
  have HD := hd
  obtain ⟨da, dcap, rfl, -⟩ := hd
  have hbz : b < w.heap.size := World.block_lt_of_cell? w _ hb
  go_enter Tryz.func182, Tryz.ntmps182
  go_wp2_with fail
  have hBW0 : Below w.heap.size w (w.alloc (.cells #[.slice none 0 0] 85)) := (Below.refl _ _).alloc (Nat.le_refl _) _
  obtain ⟨W0, e0⟩ : ∃ W0, W0 = w.alloc (.cells #[.slice none 0 0] 85) := ⟨_, rfl⟩
  have q0 : W0.cell? ⟨w.heap.size, 0, none⟩ = some (.slice none 0 0) := by rw [e0]; go_simp
  have q1 : W0.frozen? ⟨w.heap.size, 0, none⟩ = false := by rw [e0]; go_simp
  have hsz : W0.heap.size = w.heap.size + 1 := by rw [e0]; simp
  rw [← e0] at hBW0 ⊢
  clear e0
  go_loopg [11] 1 (fun g i wr => ∃ j : Nat, j ≤ 1 ∧ g = 1 - j ∧ i = .int .i64 j ∧ ((j = 0 ∧ wr = W0) ∨ (j = 1 ∧ ∃ u, wr.cell? ⟨w.heap.size, 0, none⟩ = some u ∧ DeedIn (fun g => w.heap.size < g) wr u d ∧ Below w.heap.size w wr)))
  case atStart => exact ⟨0, by omega, by omega, rfl, .inl ⟨rfl, rfl⟩⟩
  case round =>
    obtain ⟨j, hj, hg, rfl, ⟨rfl, rfl⟩ | ⟨rfl, u, hu, hdu, hBu⟩⟩ := hrel
    · replace hb := cell_later hBW0 hb
      have hz1 : w.heap.size < wr.heap.size := by omega
      have hBW : Below w.heap.size w ((wr.setCell ⟨w.heap.size, 0, none⟩ (.slice (some ⟨w.heap.size + 1, 0, none⟩) d.length d.length)).alloc (.cells cs 121)) := (hBW0.setCell (p := ⟨w.heap.size, 0, none⟩) (Nat.le_refl _) _).alloc (by rw [size_setCell']; omega) _
      have hgW : ((wr.setCell ⟨w.heap.size, 0, none⟩ (.slice (some ⟨w.heap.size + 1, 0, none⟩) d.length d.length)).alloc (.cells cs 121)).heap[w.heap.size + 1]? = some (.cells cs 121 (0, 0)) := by
        have := World.alloc_heap_new (wr.setCell ⟨w.heap.size, 0, none⟩ (.slice (some ⟨w.heap.size + 1, 0, none⟩) d.length d.length)) (.cells cs 121)
        rw [size_setCell', hsz] at this
        exact this
      have hcW : ((wr.setCell ⟨w.heap.size, 0, none⟩ (.slice (some ⟨w.heap.size + 1, 0, none⟩) d.length d.length)).alloc (.cells cs 121)).cell? ⟨w.heap.size, 0, none⟩ = some (.slice (some ⟨w.heap.size + 1, 0, none⟩) d.length d.length) := by
        rw [((Below.refl _ _).alloc (Nat.le_refl _) _).cell (p := ⟨w.heap.size, 0, none⟩) (by rw [size_setCell']; exact hz1)]
        exact World.cell?_setCell_same _ _ _ q0
      go_wp2_with (refine wpList_copy_deed rfl (.tmp 25) (.tmp 26) rfl (w.heap.size + 1) cs 121 da dcap d rfl rfl ?hg hcs ?hd ?_)
      case hg => exact hgW
      case hd => exact HD.later hBW
      go_roundg (1 - 1)
      case measure => omega
      case rel =>
        refine ⟨1, by omega, rfl, rfl, .inr ⟨rfl, .slice (some ⟨w.heap.size + 1, 0, none⟩) d.length d.length, ?_, deedIn_row _ (by omega) (setRow_heap _ _ _ _ _ _ hgW), below_setRow hBW (by omega) _⟩⟩
        rw [World.cell?_of_block (w := (wr.setCell ⟨w.heap.size, 0, none⟩ (.slice (some ⟨w.heap.size + 1, 0, none⟩) d.length d.length)).alloc (.cells cs 121)) (setRow_other _ _ _ _ (by simp))]
        exact hcW
    · clear hb q0 q1
      go_wp2_with fail
      go_ret
      exact ⟨u, rfl, hu, hdu, hBu⟩
end Go.Proofs.YtehkjbpgibdgpadGreatDoor
namespace Go.Proofs.YtehkjbpgibdgpadGreatDoor
open Go.RowKit Go.Shelf

theorem fld0 (c n : Int) (w : World) : (Instr.field 42 (.agg #[.int .i64 c, .int .i64 n]) 0).run Tryz.prog w = .ok (.int .i64 c) w := by kernel_rfl

set_option maxHeartbeats 1000000 in
theorem worker_none (dv : Value) (d : List Op5) (b : Int) (w : World) (hd : DeedAt w dv d) (hmax : d.length ≤ 9223372036854775807) (hL : Lim w) (h : (checkF d).1 ≠ 0 ∨ b < 0 ∨ 8 ≤ b) :
    Calls Tryz.prog 171 #[dv, .int .i64 b] w fun e w' => e = .returned (.pointer none) ∧ Below w.heap.size w w' := by
  have hck := check_any dv d w hd hmax hL
  obtain ⟨c, hc⟩ : ∃ c, c = (checkF d).1 := ⟨_, rfl⟩
  obtain ⟨n, hn⟩ : ∃ n, n = (checkF d).2 := ⟨_, rfl⟩
  rw [← hc, ← hn] at hck
  rw [← hc] at h
  have hfld := fld0 c n
  clear hc hn
  obtain ⟨da, dcap, rfl, -⟩ := hd
  go_enter Tryz.func171, Tryz.ntmps171
  go_wp2_with fail
  refine hck.mono ?_
  clear hck
  rintro e w1 ⟨rfl, hb1⟩
  by_cases h0 : c = 0
  · have t0 : (c != 0) = false := by simp [h0]
    have h' : b < 0 ∨ 8 ≤ b := by
      rcases h with h | h
      · exact absurd h0 h
      · exact h
    clear h h0
    rcases h' with hb | hb
    · go_wp2_with fail
      go_ret
      exact ⟨rfl, hb1⟩
    · have hb' : ¬ b < 0 := by omega
      go_wp2_with fail
      go_ret
      exact ⟨rfl, hb1⟩
  · have t0 : (c != 0) = true := by simp [h0]
    clear h h0
    go_wp2_with fail
    go_ret
    exact ⟨rfl, hb1⟩

set_option maxRecDepth 100000 in
set_option maxHeartbeats 1000000 in
theorem worker_new (dv : Value) (d : List Op5) (b : Nat) (w : World) (hd : DeedAt w dv d) (hc : (checkF d).1 = 0) (hb : b < 8) (hL : Lim w) :
    Calls Tryz.prog 171 #[dv, .int .i64 (b : Int)] w fun e w' => ∃ C u, e = .returned (.pointer (some ⟨C, 0, none⟩)) ∧ w.heap.size ≤ C ∧ WorkAt w' C u b wk0 ∧ DeedIn (fun g => w.heap.size ≤ g ∧ g ≠ C) w' u d ∧ Below w.heap.size w w' := by
  have hlen := check_len hc
  have hck := check_any dv d w hd (by omega) hL
  obtain ⟨n, hn⟩ : ∃ n, n = (checkF d).2 := ⟨_, rfl⟩
  rw [← hn, hc] at hck
  have hfld := fld0 0 n
  clear hn hc
  have HD := hd
  obtain ⟨da, dcap, rfl, -⟩ := hd
  have hb0 : ¬ (b : Int) < 0 := by omega
  have hb8 : ¬ (8 : Int) ≤ (b : Int) := by omega
  go_enter Tryz.func171, Tryz.ntmps171
  go_wp2_with fail
  refine hck.mono ?_
  clear hck
  rintro e w1 ⟨rfl, hb1⟩
  go_wp2_with fail
  have hbA : Below w.heap.size w (w1.alloc (.cells #[.slice da d.length dcap] 85)) := hb1.alloc hb1.size _
  refine (own_one w1.heap.size (.slice da d.length dcap) d _ (by go_simp) (HD.later hbA) hlen).mono ?_
  rintro e w2 ⟨u, rfl, hu, hdu, hb2⟩
  have hB2 : Below w.heap.size w w2 := hbA.trans (hb2.mono hbA.size)
  rw [World.size_alloc] at hu hdu
  have hz2 : w1.heap.size + 1 < w2.heap.size := World.block_lt_of_cell? w2 _ hu
  have hz1 := hb1.size
  obtain ⟨ua, ucap, rfl, -⟩ := id hdu
  clear hbA hb2 hb1 HD hfld
  go_wp2_with fail
  go_ret
  have hBn : Below w2.heap.size w2 (w2.alloc (.cells #[.slice ua d.length ucap, .int .i64 (b : Int), .int .i64 0, .int .i64 0, .bool false, .int .i64 0, .bool false, .int .i64 0, .bool false, .int .i64 0, .bool false, .int .i64 0, .bool false, .int .i64 0, .bool false, .int .i64 0, .bool false, .int .i64 0, .bool false, .int .i64 0, .bool false, .int .i64 0, .bool false, .int .i64 0, .int .i64 0, .int .i64 0, .int .i64 0, .int .i64 0, .bool false] 253)) := (Below.refl _ _).alloc (Nat.le_refl _) _
  refine ⟨w2.heap.size, .slice ua d.length ucap, rfl, by omega, ?_, (hdu.mono (fun g hg h => ⟨by omega, by omega⟩)).later hBn, hB2.alloc hB2.size _⟩
  show WorkAt _ _ _ _ ⟨0, fun _ => false, fun _ => 0, fun _ => 0, 0, false⟩
  exact ⟨by go_simp, by go_simp, by go_simp, lt10 (by go_simp) (by go_simp) (by go_simp) (by go_simp) (by go_simp) (by go_simp) (by go_simp) (by go_simp) (by go_simp) (by go_simp), lt10 (by go_simp) (by go_simp) (by go_simp) (by go_simp) (by go_simp) (by go_simp) (by go_simp) (by go_simp) (by go_simp) (by go_simp), by go_simp, lt4 (by go_simp) (by go_simp) (by go_simp) (by go_simp), by go_simp, fun o => by go_simp⟩
end Go.Proofs.YtehkjbpgibdgpadGreatDoor
namespace Go.Proofs.YtehkjbpgibdgpadGreatDoor
open Go.RowKit


/-- May a deed store to a key? -/
def storesI (d : List Op5) (k : Int) : Bool := d.any fun o => o.k == 7 && o.a == k

theorem storesI_next {d : List Op5} {k : Int} {j : Nat} (h : j < d.length) (hn : (d[j].k == 7 && d[j].a == k) = false) : storesI (d.drop (j + 1)) k = storesI (d.drop j) k := by
  rw [List.drop_eq_getElem_cons h]; simp only [storesI, List.any_cons, hn, Bool.false_or]
theorem storesI_hit {d : List Op5} {k : Int} {j : Nat} (h : j < d.length) (h7 : d[j].k = 7) (ha : d[j].a = k) : storesI d k = true := by
  simp only [storesI, List.any_eq_true]
  exact ⟨d[j], List.getElem_mem h, by simp [h7, ha]⟩



theorem storesI_key (d : List Op5) (k : Nat) : storesI d (k : Int) = storesF d k := rfl
end Go.Proofs.YtehkjbpgibdgpadGreatDoor
namespace Go.Proofs.YtehkjbpgibdgpadGreatDoor
open Go.RowKit Go.Shelf

def slotCells : List Slot4 → List Value
  | [] => []
  | s :: r => .int .i64 s.b :: .bool s.op :: .bool s.vo :: .int .i64 s.n :: slotCells r
theorem slotCells_append (l m : List Slot4) : slotCells (l ++ m) = slotCells l ++ slotCells m := by
  induction l with
  | nil => rfl
  | cons o r ih => simp only [List.cons_append, slotCells, ih]
theorem slotCells_length (l : List Slot4) : (slotCells l).length = l.length * 4 := by
  induction l with
  | nil => rfl
  | cons o r ih => simp only [slotCells, List.length_cons, ih]; omega
theorem slotCells_one (l : List Slot4) : ∀ u ∈ slotCells l, u.oneCell' = true := by
  induction l with
  | nil => intro u hu; simp [slotCells] at hu
  | cons o r ih =>
    intro u hu
    simp only [slotCells, List.mem_cons] at hu
    rcases hu with rfl | rfl | rfl | rfl | hu
    · rfl
    · rfl
    · rfl
    · rfl
    · exact ih u hu
theorem slotCells_at (l : List Slot4) : ∀ i, i < l.length → (slotCells l)[i * 4]? = some (.int .i64 (slotAt l i).b) ∧ (slotCells l)[i * 4 + 1]? = some (.bool (slotAt l i).op) ∧ (slotCells l)[i * 4 + 2]? = some (.bool (slotAt l i).vo) ∧ (slotCells l)[i * 4 + 3]? = some (.int .i64 (slotAt l i).n) := by
  induction l with
  | nil => intro i h; simp at h
  | cons o r ih =>
    intro i h
    cases i with
    | zero => exact ⟨rfl, rfl, rfl, rfl⟩
    | succ i =>
      have := ih i (by simpa using h)
      rw [show (i + 1) * 4 = i * 4 + 4 by omega, show slotAt (o :: r) (i + 1) = slotAt r i by simp [slotAt]]
      exact this

/-- A board: ten slices, each in a row of its own. -/
structure BoardAt (w : World) (N D : Nat) (T : Nat → List Slot4) (V : Nat → Value) : Prop where
  cell : ∀ k, k < 10 → w.cell? ⟨D, k, none⟩ = some (V k)
  own : ∀ k, k < 10 → w.ownsRow N 231 4 (V k) (T k).length (slotCells (T k))
  apart : ∀ k, k < 10 → ∀ g, (V k).ownBlock = some g → g ≠ D ∧ ∀ j, j < 10 → (V j).ownBlock = some g → j = k
  free : ∀ o, w.frozen? ⟨D, o, none⟩ = false
theorem BoardAt.lt {w : World} {N D : Nat} {T : Nat → List Slot4} {V : Nat → Value} (h : BoardAt w N D T V) : D < w.heap.size := World.block_lt_of_cell? w _ (h.cell 0 (by omega))
theorem BoardAt.kept {w w' : World} {N D : Nat} {T : Nat → List Slot4} {V : Nat → Value} (h : BoardAt w N D T V) (hD : w'.heap[D]? = w.heap[D]?) (hb : ∀ k, k < 10 → ∀ g, (V k).ownBlock = some g → w'.heap[g]? = w.heap[g]?) : BoardAt w' N D T V :=
  ⟨fun k hk => by rw [World.cell?_of_block (w := w) hD]; exact h.cell k hk, fun k hk => owns_kept (h.own k hk) (hb k hk), h.apart, fun o => (World.frozen?_of_block hD).trans (h.free o)⟩
theorem BoardAt.later {w w' : World} {N D : Nat} {T : Nat → List Slot4} {V : Nat → Value} (h : BoardAt w N D T V) (hb : Below w.heap.size w w') : BoardAt w' N D T V := h.kept (hb.block D h.lt) (fun k hk g hg => hb.block g (owns_lt (h.own k hk) hg).2)
def putV (V : Nat → Value) (k : Nat) (v : Value) : Nat → Value := fun j => if j = k then v else V j
theorem BoardAt.append {w w' : World} {N D : Nat} {T : Nat → List Slot4} {V : Nat → Value} (h : BoardAt w N D T V) {k : Nat} (hk : k < 10) {v' : Value} {s : Slot4} (ho : w'.ownsRow N 231 4 v' ((T k).length + 1) (slotCells (T k) ++ slotCells [s])) (hg : w.grownBy w' (V k).ownBlock) (hat : v'.ownBlock = (V k).ownBlock ∨ v'.ownBlock = some w.heap.size) :
    BoardAt (w'.setCell ⟨D, k, none⟩ v') N D (putT T k (T k ++ [s])) (putV V k v') := by
  have hD : w'.heap[D]? = w.heap[D]? := hg.block D h.lt (fun e => (h.apart k hk D e.symm).1 rfl)
  have hc : ∀ j, w'.cell? ⟨D, j, none⟩ = w.cell? ⟨D, j, none⟩ := fun j => World.cell?_of_block hD
  have hv' : ∀ g, v'.ownBlock = some g → g ≠ D ∧ ∀ j, j < 10 → (V j).ownBlock = some g → j = k := fun g hgg => by
    rcases hat with e | e
    · exact h.apart k hk g (by rw [← e]; exact hgg)
    · rw [e] at hgg
      cases hgg
      exact ⟨fun e => by have := h.lt; omega, fun j hj hjg => by have := (owns_lt (h.own j hj) hjg).2; omega⟩
  refine ⟨fun j hj => ?_, fun j hj => ?_, fun j hj g hgg => ?_, fun o => ?_⟩
  · unfold putV
    by_cases e : j = k
    · subst e; rw [if_pos rfl]; exact World.cell?_setCell_same _ _ _ (by rw [hc]; exact h.cell j hj)
    · rw [if_neg e, World.cell?_setCell_other _ _ _ _ (fun h => by simp only [Addr.mk.injEq] at h; omega), hc]; exact h.cell j hj
  · unfold putV putT
    by_cases e : j = k
    · subst e
      rw [if_pos rfl, if_pos rfl, List.length_append, slotCells_append]
      exact owns_kept ho fun g hgg => Below.heap_setCell _ _ _ _ (hv' g hgg).1
    · rw [if_neg e, if_neg e]
      refine owns_kept (h.own j hj) fun g hgg => ?_
      rw [Below.heap_setCell _ _ _ _ (h.apart j hj g hgg).1]
      exact hg.block g (owns_lt (h.own j hj) hgg).2 (fun e' => e ((h.apart j hj g hgg).2 k hk e'.symm).symm)
  · unfold putV at hgg ⊢
    by_cases e : j = k
    · subst e
      rw [if_pos rfl] at hgg
      refine ⟨(hv' g hgg).1, fun i hi hig => ?_⟩
      by_cases ei : i = j
      · exact ei
      · rw [if_neg ei] at hig; exact (hv' g hgg).2 i hi hig
    · rw [if_neg e] at hgg
      refine ⟨(h.apart j hj g hgg).1, fun i hi hig => ?_⟩
      by_cases ei : i = k
      · rw [if_pos ei] at hig
        exact absurd ((hv' g hig).2 j hj hgg) e
      · rw [if_neg ei] at hig; exact (h.apart j hj g hgg).2 i hi hig
  · rw [World.frozen?_setCell, World.frozen?_of_block hD]; exact h.free o
theorem board_below {w w' : World} {N D n : Nat} {T : Nat → List Slot4} {V : Nat → Value} (h : BoardAt w N D T V) {k : Nat} (hk : k < 10) (hg : w.grownBy w' (V k).ownBlock) {a : World} (ha : Below n a w) (hn : n ≤ w.heap.size) (hN : n ≤ N) (hD : n ≤ D) (v' : Value) : Below n a (w'.setCell ⟨D, k, none⟩ v') :=
  (ha.grown hg hn (fun _ hq => Nat.le_trans hN (owns_lt (h.own k hk) hq).1)).setCell (p := ⟨D, k, none⟩) hD v'
end Go.Proofs.YtehkjbpgibdgpadGreatDoor
namespace Go.Proofs.YtehkjbpgibdgpadGreatDoor
open Go.RowKit Go.Shelf

def ptrs (C : Nat → Nat) (n : Nat) : List Value := (List.range n).map fun i => .pointer (some ⟨C i, 0, none⟩)
theorem ptrs_succ (C : Nat → Nat) (n : Nat) : ptrs C (n + 1) = ptrs C n ++ [.pointer (some ⟨C n, 0, none⟩)] := by
  unfold ptrs; rw [List.range_succ, List.map_append]; rfl
theorem ptrs_congr {C C' : Nat → Nat} {n : Nat} (h : ∀ i, i < n → C i = C' i) : ptrs C n = ptrs C' n := by
  unfold ptrs
  apply List.map_congr_left
  intro i hi
  rw [h i (by simpa using hi)]
theorem ptrs_at (C : Nat → Nat) {n i : Nat} (h : i < n) : (ptrs C n)[i]? = some (.pointer (some ⟨C i, 0, none⟩)) := by
  unfold ptrs; simp [h]
def putN (C : Nat → Nat) (n k : Nat) : Nat → Nat := fun i => if i = n then k else C i
def recol (c : Nat → Nat) (m k : Nat) : Nat → Nat := fun b => if b = m then k else c b

/-- The workers, and the row of pointers to them. -/
structure WorkersAt (w : World) (c : Nat → Nat) (N : Nat) (vW : Value) (C : Nat → Nat) (U : Nat → Value) (n : Nat) (r : List (List Op5)) (X : Nat → Wk) : Prop where
  own : w.ownsRow N 227 1 vW n (ptrs C n)
  col : ∀ g, vW.ownBlock = some g → c g = 3
  wk : ∀ i, i < n → WorkAt w (C i) (U i) i (X i)
  ck : ∀ i, i < n → c (C i) = 100 + i
  dd : ∀ i, i < n → ∀ h : i < r.length, DeedIn (fun g => c g = 5) w (U i) r[i]
theorem WorkersAt.grew {S : Nat → Prop} {w w' : World} {c c' : Nat → Nat} {N : Nat} {vW : Value} {C : Nat → Nat} {U : Nat → Value} {n : Nat} {r : List (List Op5)} {X : Nat → Wk} (h : WorkersAt w c N vW C U n r X) (hn : n ≤ 100) (hg : Grew S w w') (hS : ∀ b, b < w.heap.size → S b → c b ≠ 3 ∧ c b ≠ 5 ∧ (c b < 100 ∨ 200 ≤ c b)) (hc : ∀ b, b < w.heap.size → c' b = c b) : WorkersAt w' c' N vW C U n r X := by
  refine ⟨owns_kept h.own fun g hgg => ?_, fun g hgg => ?_, fun i hi => ?_, fun i hi => ?_, fun i hi hr => ?_⟩
  · have hlt := (owns_lt h.own hgg).2
    exact hg.block g hlt (fun e => (hS g hlt e).1 (h.col g hgg))
  · rw [hc g (owns_lt h.own hgg).2]; exact h.col g hgg
  · exact (h.wk i hi).grew hg (fun e => by have := (hS _ (h.wk i hi).lt e).2.2; have := h.ck i hi; omega)
  · rw [hc _ (h.wk i hi).lt]; exact h.ck i hi
  · have h1 := h.dd i hi hr
    have h2 : DeedIn (fun g => c g = 5 ∧ g < w.heap.size) w (U i) r[i] := h1.mono fun b hb hp => ⟨hp, hb⟩
    exact (h2.grew hg (fun b hb e => (hS b hb.2 e).2.1 hb.1)).mono fun b _ hb => by rw [hc b hb.2]; exact hb.1
theorem WorkersAt.push {w w' : World} {c : Nat → Nat} {N : Nat} {vW v1 : Value} {C : Nat → Nat} {U : Nat → Value} {n Cn : Nat} {u : Value} {r : List (List Op5)} (h : WorkersAt w c N vW C U n r (fun _ => wk0)) (hn : n < 100) (hw : WorkAt w Cn u n wk0) (hcn : c Cn = 100 + n) (hd : ∀ h : n < r.length, DeedIn (fun g => c g = 5) w u r[n])
    (ho : w'.ownsRow N 227 1 v1 (n + 1) (ptrs C n ++ [.pointer (some ⟨Cn, 0, none⟩)])) (hg : w.grownBy w' vW.ownBlock) (hat : v1.ownBlock = vW.ownBlock ∨ v1.ownBlock = some w.heap.size) :
    WorkersAt w' (recol c w.heap.size 3) N v1 (putN C n Cn) (putV U n u) (n + 1) r (fun _ => wk0) := by
  have hrc : ∀ b, b < w.heap.size → recol c w.heap.size 3 b = c b := fun b hb => by unfold recol; rw [if_neg (by omega)]
  have hgs : Grew (fun b => vW.ownBlock = some b) w w' := ⟨hg.os, hg.tape, hg.output, hg.size, fun k hk hn => hg.block k hk (fun e => hn e.symm)⟩
  have hblk : ∀ b, c b ≠ 3 → b < w.heap.size → w'.heap[b]? = w.heap[b]? := fun b hb hlt => hg.block b hlt (fun e => hb (h.col b e.symm))
  have hC : ∀ i, i < n → putN C n Cn i = C i := fun i hi => by unfold putN; rw [if_neg (by omega)]
  have hU : ∀ i, i < n → putV U n u i = U i := fun i hi => by unfold putV; rw [if_neg (by omega)]
  have hCn : putN C n Cn n = Cn := by unfold putN; rw [if_pos rfl]
  have hUn : putV U n u n = u := by unfold putV; rw [if_pos rfl]
  refine ⟨?_, fun g hgg => ?_, fun i hi => ?_, fun i hi => ?_, fun i hi hr => ?_⟩
  · rw [ptrs_succ, hCn, ptrs_congr (C' := C) hC]; exact ho
  · rcases hat with e | e
    · rw [e] at hgg
      rw [hrc g (owns_lt h.own hgg).2]; exact h.col g hgg
    · rw [e] at hgg; cases hgg; unfold recol; rw [if_pos rfl]
  · by_cases e : i = n
    · subst e; rw [hCn, hUn]; exact hw.kept (hblk _ (by omega) hw.lt)
    · rw [hC i (by omega), hU i (by omega)]
      have h1 := h.wk i (by omega)
      exact h1.kept (hblk _ (by have := h.ck i (by omega); omega) h1.lt)
  · by_cases e : i = n
    · subst e; rw [hCn, hrc _ hw.lt]; exact hcn
    · rw [hC i (by omega), hrc _ (h.wk i (by omega)).lt]; exact h.ck i (by omega)
  · have key : ∀ v, DeedIn (fun g => c g = 5) w v r[i] → DeedIn (fun g => recol c w.heap.size 3 g = 5) w' v r[i] := fun v h1 => by
      have h2 : DeedIn (fun g => c g = 5 ∧ g < w.heap.size) w v r[i] := h1.mono fun b hb hp => ⟨hp, hb⟩
      exact (h2.grew hgs (fun b hb e => by have := h.col b e; omega)).mono fun b _ hb => by rw [hrc b hb.2]; exact hb.1
    by_cases e : i = n
    · subst e; rw [hUn]; exact key _ (hd hr)
    · rw [hU i (by omega)]; exact key _ (h.dd i (by omega) hr)
end Go.Proofs.YtehkjbpgibdgpadGreatDoor
