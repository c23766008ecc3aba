/-
  A deed's cells; copy of operations; the walk of code.Own at a round of one deed.
-/
import Derived.Test.YthlhbmldfjkagaaDoorWorkA
import Derived.Laws.CopyOwn
import Derived.Laws.MakeOwn
import Derived.Maps.AppendAt
namespace Go.Proofs.YthlhbmldfjkagaaDoor
open Go.RowKit Go.Shelf

/-- A deed in blocks of which something is known. -/
def DeedIn (P : Nat → Prop) (w : World) (v : Value) (d : List Op5) : Prop :=
  ∃ a cap, v = .slice a d.length cap ∧ ∀ i (h : i < d.length), ∃ b off, P b ∧ a = some ⟨b, off, none⟩ ∧
    w.cell? ⟨b, off + i * 5, none⟩ = some (.int .i64 d[i].k) ∧ w.cell? ⟨b, off + i * 5 + 1, none⟩ = some (.int .i64 d[i].a) ∧
    w.cell? ⟨b, off + i * 5 + 2, none⟩ = some (.int .i64 d[i].b) ∧ w.cell? ⟨b, off + i * 5 + 3, none⟩ = some (.int .i64 d[i].c) ∧
    w.cell? ⟨b, off + i * 5 + 4, none⟩ = some (.int .i64 d[i].n)
theorem DeedIn.at {P : Nat → Prop} {w : World} {v : Value} {d : List Op5} (h : DeedIn P w v d) : DeedAt w v d := by
  obtain ⟨a, cap, rfl, h⟩ := h
  refine ⟨a, cap, rfl, fun i hi => ?_⟩
  obtain ⟨b, off, -, e, hc⟩ := h i hi
  exact ⟨b, off, e, hc⟩
theorem DeedIn.mono {P Q : Nat → Prop} {w : World} {v : Value} {d : List Op5} (h : DeedIn P w v d) (hPQ : ∀ b, b < w.heap.size → P b → Q b) : DeedIn Q w v d := by
  obtain ⟨a, cap, rfl, h⟩ := h
  refine ⟨a, cap, rfl, fun i hi => ?_⟩
  obtain ⟨b, off, hp, e, hc⟩ := h i hi
  exact ⟨b, off, hPQ b (World.block_lt_of_cell? w _ hc.1) hp, e, hc⟩
theorem DeedIn.grew {P S : Nat → Prop} {w w' : World} {v : Value} {d : List Op5} (h : DeedIn P w v d) (hg : Grew S w w') (hPS : ∀ b, P b → ¬ S b) : DeedIn P w' v d := by
  obtain ⟨a, cap, rfl, h⟩ := h
  refine ⟨a, cap, rfl, fun i hi => ?_⟩
  obtain ⟨b, off, hp, e, c0, c1, c2, c3, c4⟩ := h i hi
  have hn := hPS b hp
  exact ⟨b, off, hp, e, hg.cell c0 hn, hg.cell c1 hn, hg.cell c2 hn, hg.cell c3 hn, hg.cell c4 hn⟩
theorem DeedIn.later {P : Nat → Prop} {w w' : World} {v : Value} {d : List Op5} (h : DeedIn P w v d) (hb : Below w.heap.size w w') : DeedIn P w' v d := h.grew (S := fun _ => False) (Grew.of_below hb) (fun _ _ h => h)

def deedCells : List Op5 → List Value
  | [] => []
  | o :: r => .int .i64 o.k :: .int .i64 o.a :: .int .i64 o.b :: .int .i64 o.c :: .int .i64 o.n :: deedCells r
theorem deedCells_length (d : List Op5) : (deedCells d).length = d.length * 5 := by
  induction d with
  | nil => rfl
  | cons o r ih => simp only [deedCells, List.length_cons, ih]; omega
theorem deedCells_one (d : List Op5) : ∀ u ∈ deedCells d, u.oneCell' = true := by
  induction d with
  | nil => intro u hu; simp [deedCells] at hu
  | cons o r ih =>
    intro u hu
    simp only [deedCells, List.mem_cons] at hu
    rcases hu with rfl | rfl | rfl | rfl | rfl | hu
    · rfl
    · rfl
    · rfl
    · rfl
    · rfl
    · exact ih u hu
theorem deedCells_at (d : List Op5) : ∀ i (h : i < d.length), (deedCells d)[i * 5]? = some (.int .i64 d[i].k) ∧ (deedCells d)[i * 5 + 1]? = some (.int .i64 d[i].a) ∧ (deedCells d)[i * 5 + 2]? = some (.int .i64 d[i].b) ∧ (deedCells d)[i * 5 + 3]? = some (.int .i64 d[i].c) ∧ (deedCells d)[i * 5 + 4]? = some (.int .i64 d[i].n) := by
  induction d with
  | nil => intro i h; simp at h
  | cons o r ih =>
    intro i h
    cases i with
    | zero => exact ⟨rfl, rfl, rfl, rfl, rfl⟩
    | succ i =>
      have := ih i (by simpa using h)
      rw [show (i + 1) * 5 = i * 5 + 5 by omega]
      exact this
theorem addr_add (b off t : Nat) : (⟨b, off, none⟩ : Addr).add t = ⟨b, off + t, none⟩ := by
  unfold Addr.add; split <;> simp_all
theorem DeedAt.cells {w : World} {a : Option Addr} {cap : Nat} {d : List Op5} (h : DeedAt w (.slice a d.length cap) d) (h0 : 0 < d.length) : ∃ b off, a = some ⟨b, off, none⟩ ∧ ∀ j u, (deedCells d)[j]? = some u → w.cell? ((⟨b, off, none⟩ : Addr).add j) = some u := by
  obtain ⟨a', cap', e, h⟩ := h
  cases e
  obtain ⟨b, off, rfl, -⟩ := h 0 h0
  refine ⟨b, off, rfl, fun j u hu => ?_⟩
  have hj : j < d.length * 5 := by
    have := (List.getElem?_eq_some_iff.1 hu).1
    rw [deedCells_length] at this; exact this
  obtain ⟨q, m, hm, rfl⟩ : ∃ q m, m < 5 ∧ j = q * 5 + m := ⟨j / 5, j % 5, by omega, by omega⟩
  obtain ⟨b', off', e, c0, c1, c2, c3, c4⟩ := h q (by omega)
  cases e
  obtain ⟨p0, p1, p2, p3, p4⟩ := deedCells_at d q (by omega)
  rw [addr_add]
  have : m = 0 ∨ m = 1 ∨ m = 2 ∨ m = 3 ∨ m = 4 := by omega
  rcases this with rfl | rfl | rfl | rfl | rfl
  · rw [Nat.add_zero] at hu ⊢; rw [p0] at hu; cases hu; exact c0
  · rw [p1] at hu; cases hu; rw [← Nat.add_assoc]; exact c1
  · rw [p2] at hu; cases hu; rw [← Nat.add_assoc]; exact c2
  · rw [p3] at hu; cases hu; rw [← Nat.add_assoc]; exact c3
  · rw [p4] at hu; cases hu; rw [← Nat.add_assoc]; exact c4
theorem deedIn_row {w : World} {g cap : Nat} {d : List Op5} {t : TypeId} (P : Nat → Prop) (hP : P g) (hg : w.heap[g]? = some (.cells (deedCells d).toArray t (0, 0))) : DeedIn P w (.slice (some ⟨g, 0, none⟩) d.length cap) d := by
  refine ⟨_, cap, rfl, fun i hi => ⟨g, 0, hP, rfl, ?_⟩⟩
  obtain ⟨p0, p1, p2, p3, p4⟩ := deedCells_at d i hi
  have hc : ∀ j, w.cell? ⟨g, j, none⟩ = (deedCells d)[j]? := fun j => by simp [World.cell?, hg]
  simp only [Nat.zero_add, hc]
  exact ⟨p0, p1, p2, p3, p4⟩

theorem info50 : (Tryd.prog.info? 32).map (fun i => (i.zero, i.size, i.bytes)) = some (some (.slice none 0 0), 1, 24) := by kernel_rfl
theorem info61 : (Tryd.prog.info? 34).map (fun i => (i.zero, i.size, i.bytes)) = some (some (.agg #[.int .i64 0, .int .i64 0, .int .i64 0, .int .i64 0, .int .i64 0]), 5, 40) := by kernel_rfl

/-- copy of a deed's operations into a row of the call's own. -/
theorem run_copy_deed (w : World) (ty : TypeId) (g : Nat) (cur : Array Value) (t : TypeId) (a : Option Addr) (cap : Nat) (d : List Op5) (hg : w.heap[g]? = some (.cells cur t (0, 0))) (hcur : cur.size = d.length * 5) (hd : DeedAt w (.slice a d.length cap) d) :
    (Builtin.copy_ #[32, 32] ty #[.slice (some ⟨g, 0, none⟩) d.length d.length, .slice a d.length cap]).run Tryd.prog w = .ok (goInt d.length) (w.setRow g (deedCells d).toArray) := by
  obtain ⟨i, hi, -, hs, -⟩ := info_parts info61
  by_cases h0 : 0 < d.length
  · obtain ⟨b, off, rfl, hc⟩ := hd.cells h0
    have hl := run_loadCells_list (P := Tryd.prog) w ⟨b, off, none⟩ (deedCells d) hc
    have hst := run_storeCells_at Tryd.prog g 0 t (deedCells d) 0 cur w hg (by rw [hcur, deedCells_length]; omega) (deedCells_one d)
    have hdrop : cur.toList.drop (0 + 0 + (deedCells d).length) = [] := List.drop_eq_nil_of_le (by rw [deedCells_length]; simp [hcur])
    rw [hdrop] at hst
    rw [deedCells_length] at hl
    simp only [Nat.add_zero, List.take_zero, List.nil_append, List.append_nil] at hst
    simp [Builtin.copy_, run_underlying Tryd.underlying32, Builtin.lenOf, Builtin.firstCells, sizeOf, typeInfo, hi, hs, hl, hst]
  · obtain rfl : d = [] := List.eq_nil_of_length_eq_zero (by omega)
    have hl : ∀ (x : Addr), (loadCells x 0).run Tryd.prog w = .ok #[] w := fun x => by simpa using run_loadCells_list (P := Tryd.prog) w x [] (by simp)
    obtain rfl : cur = #[] := Array.eq_empty_of_size_eq_zero (by simpa using hcur)
    have hself : w.setRow g (deedCells []).toArray = w := setRow_self w g #[] t (0, 0) hg
    rw [hself]
    cases a <;> simp [Builtin.copy_, run_underlying Tryd.underlying32, Builtin.lenOf, Builtin.firstCells, sizeOf, typeInfo, hi, storeCells, hl]
theorem wpList_copy_deed {w : World} {ops : Array Oper} {rest : List Oper} {o : Oper} {a : Act} {Q : Exit → Act → World → Prop} (hgd : o.guard = none) (x s : Operand)
    (ho : o.op = .call { callee := .builtin .copy, args := #[x, s], argTypes := #[32, 32] }) (g : Nat) (cur : Array Value) (t : TypeId) (da : Option Addr) (cap : Nat) (d : List Op5)
    (hx : a.eval x = .slice (some ⟨g, 0, none⟩) d.length d.length) (hs : a.eval s = .slice da d.length cap) (hg : w.heap[g]? = some (.cells cur t (0, 0))) (hcur : cur.size = d.length * 5) (hd : DeedAt w (.slice da d.length cap) d)
    (h : wpList Tryd.prog ops Q rest (a.put o.dst (goInt d.length)) (w.setRow g (deedCells d).toArray)) : wpList Tryd.prog ops Q (o :: rest) a w := by
  refine wpList_plain hgd fun K hK => ?_
  have hrun := run_copy_deed w o.type g cur t da cap d hg hcur hd
  unfold Oper.wp
  simp [execOp, ho, resolve, invoke, builtin, hx, hs, hrun, Result.andThen]
  exact hK _ _ h

theorem make_one (w : World) : (Instr.makeSlice 23 (.int .i64 1) (.int .i64 1)).run Tryd.prog w = .ok (.slice (some ⟨w.heap.size, 0, none⟩) 1 1) (w.alloc (.cells #[.slice none 0 0] 32)) := by
  obtain ⟨i, hi, hz, hs, hb⟩ := info_parts info50
  have := run_make (P := Tryd.prog) w 23 32 i _ Tryd.underlying23 hi hz .i64 .i64 1 1 (by omega) (by omega) (by rw [hb]; omega) (by omega)
  have e : madeCells (Value.slice none 0 0).cells (Int.toNat 1 * 1) = #[.slice none 0 0] := by kernel_rfl
  rw [this, hs, e]
  rfl
theorem make_deed (n : Nat) (hn : n ≤ 14) : ∃ cs : Array Value, cs.size = n * 5 ∧ ∀ w, (Instr.makeSlice 32 (.int .i64 (n : Int)) (.int .i64 (n : Int))).run Tryd.prog w = .ok (.slice (some ⟨w.heap.size, 0, none⟩) n n) (w.alloc (.cells cs 34)) := by
  obtain ⟨i, hi, hz, hs, hb⟩ := info_parts info61
  refine ⟨madeCells (Value.agg #[.int .i64 0, .int .i64 0, .int .i64 0, .int .i64 0, .int .i64 0]).cells (n * i.size), ?_, fun w => ?_⟩
  · rw [size_madeCells, hs]
  · have := run_make (P := Tryd.prog) w 32 34 i _ Tryd.underlying32 hi hz .i64 .i64 n n (by omega) (Int.le_refl _) (by rw [hb]; omega) (by omega)
    simp only [Int.toNat_natCast] at this
    exact this

theorem size_setCell' (w : World) (a : Addr) (u : Value) : (w.setCell a u).heap.size = w.heap.size := by simp [World.setCell]

set_option maxRecDepth 100000 in
set_option maxHeartbeats 1000000 in
theorem own_one (b : Nat) (dv : Value) (d : List Op5) (w : World) (hb : w.cell? ⟨b, 0, none⟩ = some dv) (hd : DeedAt w dv d) (hlen : d.length ≤ 14) :
    Calls Tryd.prog 69 #[.slice (some ⟨b, 0, none⟩) 1 1] w fun e w' => ∃ u, e = .returned (.slice (some ⟨w.heap.size, 0, none⟩) 1 1) ∧ w'.cell? ⟨w.heap.size, 0, none⟩ = some u ∧ DeedIn (fun g => w.heap.size < g) w' u d ∧ Below w.heap.size w w' := by
  have hm1 := make_one
  obtain ⟨cs, hcs, hm2⟩ := make_deed d.length hlen
  have HD := hd
  obtain ⟨da, dcap, rfl, -⟩ := hd
  have hbz : b < w.heap.size := World.block_lt_of_cell? w _ hb
  go_enter Tryd.func69, Tryd.ntmps69
  go_wp2_with fail
  have hBW0 : Below w.heap.size w (w.alloc (.cells #[.slice none 0 0] 32)) := (Below.refl _ _).alloc (Nat.le_refl _) _
  obtain ⟨W0, e0⟩ : ∃ W0, W0 = w.alloc (.cells #[.slice none 0 0] 32) := ⟨_, rfl⟩
  have q0 : W0.cell? ⟨w.heap.size, 0, none⟩ = some (.slice none 0 0) := by rw [e0]; go_simp
  have q1 : W0.frozen? ⟨w.heap.size, 0, none⟩ = false := by rw [e0]; go_simp
  have hsz : W0.heap.size = w.heap.size + 1 := by rw [e0]; simp
  rw [← e0] at hBW0 ⊢
  clear e0
  go_loopg [11] 1 (fun g i wr => ∃ j : Nat, j ≤ 1 ∧ g = 1 - j ∧ i = .int .i64 j ∧ ((j = 0 ∧ wr = W0) ∨ (j = 1 ∧ ∃ u, wr.cell? ⟨w.heap.size, 0, none⟩ = some u ∧ DeedIn (fun g => w.heap.size < g) wr u d ∧ Below w.heap.size w wr)))
  case atStart => exact ⟨0, by omega, by omega, rfl, .inl ⟨rfl, rfl⟩⟩
  case round =>
    obtain ⟨j, hj, hg, rfl, ⟨rfl, rfl⟩ | ⟨rfl, u, hu, hdu, hBu⟩⟩ := hrel
    · replace hb := cell_later hBW0 hb
      have hz1 : w.heap.size < wr.heap.size := by omega
      have hBW : Below w.heap.size w ((wr.setCell ⟨w.heap.size, 0, none⟩ (.slice (some ⟨w.heap.size + 1, 0, none⟩) d.length d.length)).alloc (.cells cs 34)) := (hBW0.setCell (p := ⟨w.heap.size, 0, none⟩) (Nat.le_refl _) _).alloc (by rw [size_setCell']; omega) _
      have hgW : ((wr.setCell ⟨w.heap.size, 0, none⟩ (.slice (some ⟨w.heap.size + 1, 0, none⟩) d.length d.length)).alloc (.cells cs 34)).heap[w.heap.size + 1]? = some (.cells cs 34 (0, 0)) := by
        have := World.alloc_heap_new (wr.setCell ⟨w.heap.size, 0, none⟩ (.slice (some ⟨w.heap.size + 1, 0, none⟩) d.length d.length)) (.cells cs 34)
        rw [size_setCell', hsz] at this
        exact this
      have hcW : ((wr.setCell ⟨w.heap.size, 0, none⟩ (.slice (some ⟨w.heap.size + 1, 0, none⟩) d.length d.length)).alloc (.cells cs 34)).cell? ⟨w.heap.size, 0, none⟩ = some (.slice (some ⟨w.heap.size + 1, 0, none⟩) d.length d.length) := by
        rw [((Below.refl _ _).alloc (Nat.le_refl _) _).cell (p := ⟨w.heap.size, 0, none⟩) (by rw [size_setCell']; exact hz1)]
        exact World.cell?_setCell_same _ _ _ q0
      go_wp2_with (refine wpList_copy_deed rfl (.tmp 25) (.tmp 26) rfl (w.heap.size + 1) cs 34 da dcap d rfl rfl ?hg hcs ?hd ?_)
      case hg => exact hgW
      case hd => exact HD.later hBW
      go_roundg (1 - 1)
      case measure => omega
      case rel =>
        refine ⟨1, by omega, rfl, rfl, .inr ⟨rfl, .slice (some ⟨w.heap.size + 1, 0, none⟩) d.length d.length, ?_, deedIn_row _ (by omega) (setRow_heap _ _ _ _ _ _ hgW), below_setRow hBW (by omega) _⟩⟩
        rw [World.cell?_of_block (w := (wr.setCell ⟨w.heap.size, 0, none⟩ (.slice (some ⟨w.heap.size + 1, 0, none⟩) d.length d.length)).alloc (.cells cs 34)) (setRow_other _ _ _ _ (by simp))]
        exact hcW
    · clear hb q0 q1
      go_wp2_with fail
      go_ret
      exact ⟨u, rfl, hu, hdu, hBu⟩
end Go.Proofs.YthlhbmldfjkagaaDoor
