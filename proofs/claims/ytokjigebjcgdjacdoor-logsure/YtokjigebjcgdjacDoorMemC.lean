/-
  Bytes as they lie in memory; a row of bytes of the call's own.
-/
import Derived.Test.YtokjigebjcgdjacDoorWalkC
import Derived.Test.YtokjigebjcgdjacDoorWorkG
import Derived.Test.YtokjigebjcgdjacDoorMathC
import Derived.Laws.BytesArg
namespace Go.Proofs.YtokjigebjcgdjacDoor
open Go.RowKit

/-- Bytes, in blocks of which something is known. -/
def BytesIn (P : Nat → Prop) (w : World) (v : Value) (l : List Int) : Prop :=
  ∃ a cap, v = .slice a l.length cap ∧ l.length ≤ cap ∧ ∀ i (h : i < l.length), ∃ b off, P b ∧ a = some ⟨b, off, none⟩ ∧ w.cell? ⟨b, off + i, none⟩ = some (.int .u8 l[i])
def BytesAt (w : World) (v : Value) (l : List Int) : Prop := BytesIn (fun _ => True) w v l

theorem BytesIn.at {P : Nat → Prop} {w : World} {v : Value} {l : List Int} (h : BytesIn P w v l) : BytesAt w v l := by
  obtain ⟨a, cap, rfl, hc, h⟩ := h
  refine ⟨a, cap, rfl, hc, fun i hi => ?_⟩
  obtain ⟨b, off, -, e⟩ := h i hi
  exact ⟨b, off, trivial, e⟩
theorem BytesAt.inside {w : World} {v : Value} {l : List Int} (h : BytesAt w v l) : BytesIn (fun b => b < w.heap.size) w v l := by
  obtain ⟨a, cap, rfl, hc, h⟩ := h
  refine ⟨a, cap, rfl, hc, fun i hi => ?_⟩
  obtain ⟨b, off, -, e, hcell⟩ := h i hi
  exact ⟨b, off, World.block_lt_of_cell? w _ hcell, e, hcell⟩
theorem BytesIn.mono {P Q : Nat → Prop} {w : World} {v : Value} {l : List Int} (h : BytesIn P w v l) (hPQ : ∀ b, P b → Q b) : BytesIn Q w v l := by
  obtain ⟨a, cap, rfl, hc, h⟩ := h
  refine ⟨a, cap, rfl, hc, fun i hi => ?_⟩
  obtain ⟨b, off, hp, e⟩ := h i hi
  exact ⟨b, off, hPQ b hp, e⟩
theorem BytesIn.grew {P S : Nat → Prop} {w w' : World} {v : Value} {l : List Int} (h : BytesIn P w v l) (hg : Grew S w w') (hPS : ∀ b, P b → ¬ S b) : BytesIn P w' v l := by
  obtain ⟨a, cap, rfl, hc, h⟩ := h
  refine ⟨a, cap, rfl, hc, fun i hi => ?_⟩
  obtain ⟨b, off, hp, e, hcell⟩ := h i hi
  exact ⟨b, off, hp, e, hg.cell hcell (hPS b hp)⟩
theorem BytesIn.later {P : Nat → Prop} {w w' : World} {v : Value} {l : List Int} (h : BytesIn P w v l) (hb : Below w.heap.size w w') : BytesIn P w' v l := h.grew (S := fun _ => False) (Grew.of_below hb) (fun _ _ h => h)
theorem BytesAt.later {w w' : World} {v : Value} {l : List Int} (h : BytesAt w v l) (hb : Below w.heap.size w w') : BytesAt w' v l := BytesIn.later h hb

/-- All bytes but the first one. -/
theorem BytesIn.tail {P : Nat → Prop} {w : World} {x : Int} {l : List Int} {a : Option Addr} {cap : Nat} (h : BytesIn P w (.slice a (l.length + 1) cap) (x :: l)) : BytesIn P w (sliced a 1 (l.length + 1) cap 1) l := by
  obtain ⟨a', cap', e, hc, h⟩ := h
  cases e
  simp only [List.length_cons] at hc
  refine ⟨if cap = 1 then a else a.map (·.add (1 * 1)), cap - 1, ?_, by omega, fun i hi => ?_⟩
  · unfold sliced; rw [show l.length + 1 - 1 = l.length by omega]
  · obtain ⟨b, off, hp, rfl, hcell⟩ := h (i + 1) (by simp; omega)
    rw [if_neg (by omega)]
    refine ⟨b, off + 1, hp, ?_, ?_⟩
    · simp [Addr.add]
    · rw [show off + 1 + i = off + (i + 1) by omega]; simpa using hcell
/-- Some bytes behind one another, from number m on to number n. -/
theorem BytesIn.part {P : Nat → Prop} {w : World} {l : List Int} {a : Option Addr} {cap m n : Nat} (hmn : m ≤ n) (hn : n ≤ l.length) (h : BytesIn P w (.slice a l.length cap) l) : BytesIn P w (sliced a m n cap 1) ((l.take n).drop m) := by
  obtain ⟨a', cap', e, hc, h⟩ := h
  cases e
  have hl : ((l.take n).drop m).length = n - m := by simp; omega
  refine ⟨if cap = m then a else a.map (·.add (m * 1)), cap - m, ?_, by rw [hl]; omega, fun i hi => ?_⟩
  · unfold sliced; rw [hl]
  · rw [hl] at hi
    obtain ⟨b, off, hp, rfl, hcell⟩ := h (m + i) (by omega)
    rw [if_neg (by omega)]
    refine ⟨b, off + m, hp, by simp [Addr.add], ?_⟩
    rw [show off + m + i = off + (m + i) by omega]
    rw [hcell]
    simp [List.getElem_drop, List.getElem_take]

theorem sizeB (w : World) : (sizeOf (Tryd.prog.elem 26)).run Tryd.prog w = .ok 1 w := by kernel_rfl
theorem slB : Tryd.prog.underlying 26 = some (.slice (Tryd.prog.elem 26)) := by kernel_rfl
/-- A slice expression over bytes, with both bounds, the upper one, the lower one. -/
theorem cut_lh {P : Nat → Prop} {W : World} {l : List Int} {a : Option Addr} {cap : Nat} (h : BytesIn P W (.slice a l.length cap) l) {m n : Int} (h0 : 0 ≤ m) (h1 : m ≤ n) (h2 : n ≤ l.length) :
    ∃ v, (∀ w, (Instr.slice 26 (.slice a l.length cap) (some (.int .i64 m)) (some (.int .i64 n)) none).run Tryd.prog w = .ok v w) ∧ BytesIn P W v ((l.take n.toNat).drop m.toNat) := by
  have hc : l.length ≤ cap := by obtain ⟨a', cap', e, hc, -⟩ := h; cases e; exact hc
  refine ⟨sliced a m.toNat n.toNat cap 1, fun w => ?_, h.part (by omega) (by omega)⟩
  rw [run_slice_lh w _ _ _ _ slB .i64 .i64 m n h0 h1 (by omega), sizeB]
  rfl
theorem cut_h {P : Nat → Prop} {W : World} {l : List Int} {a : Option Addr} {cap : Nat} (h : BytesIn P W (.slice a l.length cap) l) {n : Int} (h0 : 0 ≤ n) (h2 : n ≤ l.length) :
    ∃ v, (∀ w, (Instr.slice 26 (.slice a l.length cap) none (some (.int .i64 n)) none).run Tryd.prog w = .ok v w) ∧ BytesIn P W v (l.take n.toNat) := by
  have hc : l.length ≤ cap := by obtain ⟨a', cap', e, hc, -⟩ := h; cases e; exact hc
  refine ⟨sliced a 0 n.toNat cap 1, fun w => ?_, h.part (m := 0) (by omega) (by omega)⟩
  rw [run_slice_h w _ _ _ _ slB .i64 n h0 (by omega), sizeB]
  rfl
theorem cut_l {P : Nat → Prop} {W : World} {l : List Int} {a : Option Addr} {cap : Nat} (h : BytesIn P W (.slice a l.length cap) l) {m : Int} (h0 : 0 ≤ m) (h2 : m ≤ l.length) :
    ∃ v, (∀ w, (Instr.slice 26 (.slice a l.length cap) (some (.int .i64 m)) none none).run Tryd.prog w = .ok v w) ∧ BytesIn P W v (l.drop m.toNat) := by
  refine ⟨sliced a m.toNat l.length cap 1, fun w => ?_, ?_⟩
  · rw [run_slice_l w _ _ _ _ slB .i64 m h0 h2, sizeB]
    rfl
  · have := h.part (m := m.toNat) (n := l.length) (by omega) (Nat.le_refl _)
    rw [List.take_length] at this; exact this

/-- A row of bytes as cells. -/
def byteCells (l : List Int) : List Value := l.map (Value.int .u8)
theorem byteCells_length (l : List Int) : (byteCells l).length = l.length := by simp [byteCells]
theorem byteCells_append (l m : List Int) : byteCells (l ++ m) = byteCells l ++ byteCells m := by simp [byteCells]
theorem byteCells_one (l : List Int) : ∀ u ∈ byteCells l, u.oneCell' = true := ints_oneCell .u8 l

/-- What the call owns, it has. -/
theorem owns_bytes {w : World} {base : Nat} {e : TypeId} {v : Value} {l : List Int} (h : w.ownsRow base e 1 v l.length (byteCells l)) : BytesIn (fun b => base ≤ b) w v l := by
  rcases h.2 with ⟨rfl, h0⟩ | ⟨g, cap, cur, rfl, hb, hg, hnc, -, hsz, htake⟩
  · obtain rfl : l = [] := List.eq_nil_of_length_eq_zero h0
    exact ⟨none, 0, rfl, Nat.le_refl _, fun i hi => by simp at hi⟩
  · refine ⟨_, cap, rfl, hnc, fun i hi => ⟨g, 0, hb, rfl, ?_⟩⟩
    have := World.ownsRow.cells h (g := g) rfl i (.int .u8 l[i]) (by simp [byteCells, hi])
    rw [show (⟨g, 0, none⟩ : Addr).add i = ⟨g, 0 + i, none⟩ by unfold Addr.add; split <;> simp_all] at this
    exact this
/-- The cells of some bytes, as an append reads them. -/
theorem BytesIn.cells {P : Nat → Prop} {w : World} {l : List Int} {a : Option Addr} {cap : Nat} (h : BytesIn P w (.slice a l.length cap) l) (h0 : 0 < l.length) : ∃ b off, a = some ⟨b, off, none⟩ ∧ ∀ j u, (byteCells l)[j]? = some u → w.cell? ((⟨b, off, none⟩ : Addr).add j) = some u := by
  obtain ⟨a', cap', e, hc, h⟩ := h
  cases e
  obtain ⟨b, off, -, rfl, -⟩ := h 0 h0
  refine ⟨b, off, rfl, fun j u hu => ?_⟩
  have hj : j < l.length := by
    have := (List.getElem?_eq_some_iff.1 hu).1
    simpa [byteCells] using this
  obtain ⟨b', off', -, e, hcell⟩ := h j hj
  cases e
  rw [show (⟨b, off, none⟩ : Addr).add j = ⟨b, off + j, none⟩ by unfold Addr.add; split <;> simp_all, hcell]
  simpa [byteCells, hj] using hu

theorem byte_back {x : Int} (h : IsB x) : ((UInt8.ofNat x.toNat).toNat : Int) = x := by
  unfold IsB at h
  rw [UInt8.toNat_ofNat']
  omega
theorem bytes_inj {l m : List Int} (hl : AllB l) (hm : AllB m) (e : (l.map fun n => UInt8.ofNat n.toNat) = m.map fun n => UInt8.ofNat n.toNat) : l = m := by
  induction l generalizing m with
  | nil => cases m with
    | nil => rfl
    | cons y m => simp at e
  | cons x l ih => cases m with
    | nil => simp at e
    | cons y m =>
      simp only [List.map_cons, List.cons.injEq] at e
      rw [ih hl.tail hm.tail e.2]
      have := congrArg (fun u : UInt8 => (u.toNat : Int)) e.1
      simp only [byte_back hl.head, byte_back hm.head] at this
      rw [this]
theorem strOf_eq {l m : List Int} (hl : AllB l) (hm : AllB m) : ((strOfNums l).toList == (strOfNums m).toList) = decide (l = m) := by
  rw [ByteArray.toList_eq, ByteArray.toList_eq, strOfNums_data, strOfNums_data]
  by_cases h : l = m
  · subst h; simp
  · simp only [h, decide_false, beq_eq_false_iff_ne, ne_eq]
    exact fun e => h (bytes_inj hl hm e)

end Go.Proofs.YtokjigebjcgdjacDoor
