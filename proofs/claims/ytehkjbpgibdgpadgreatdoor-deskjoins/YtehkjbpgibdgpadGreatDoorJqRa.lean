/-
  Bytes as they lie in memory; a row of bytes of the call's own. A reader as it lies in memory; the walks of its next and end. The walk of a reader's number: eight bytes, the lowest one first. The walk of a reader's op. The walks of a reader's deed and round. The walk of a reader's round.
-/
import Derived.Test.YtehkjbpgibdgpadGreatDoorJqWa
import Derived.Test.YtehkjbpgibdgpadGreatDoorJqMa
import Derived.Laws.BytesArg
import Derived.WalkLawsBesides
import Derived.Laws.Bits64b
import Derived.Laws.BitsLemmas
import Derived.Laws.MakeOwn
import Derived.Deep.LoopGhost
namespace Go.Proofs.YtehkjbpgibdgpadGreatDoor
open Go.RowKit

/-- Bytes, in blocks of which something is known. -/
def BytesIn (P : Nat → Prop) (w : World) (v : Value) (l : List Int) : Prop :=
  ∃ a cap, v = .slice a l.length cap ∧ l.length ≤ cap ∧ ∀ i (h : i < l.length), ∃ b off, P b ∧ a = some ⟨b, off, none⟩ ∧ w.cell? ⟨b, off + i, none⟩ = some (.int .u8 l[i])
def BytesAt (w : World) (v : Value) (l : List Int) : Prop := BytesIn (fun _ => True) w v l

theorem BytesIn.at {P : Nat → Prop} {w : World} {v : Value} {l : List Int} (h : BytesIn P w v l) : BytesAt w v l := by
  obtain ⟨a, cap, rfl, hc, h⟩ := h
  refine ⟨a, cap, rfl, hc, fun i hi => ?_⟩
  obtain ⟨b, off, -, e⟩ := h i hi
  exact ⟨b, off, trivial, e⟩
theorem BytesAt.inside {w : World} {v : Value} {l : List Int} (h : BytesAt w v l) : BytesIn (fun b => b < w.heap.size) w v l := by
  obtain ⟨a, cap, rfl, hc, h⟩ := h
  refine ⟨a, cap, rfl, hc, fun i hi => ?_⟩
  obtain ⟨b, off, -, e, hcell⟩ := h i hi
  exact ⟨b, off, World.block_lt_of_cell? w _ hcell, e, hcell⟩
theorem BytesIn.mono {P Q : Nat → Prop} {w : World} {v : Value} {l : List Int} (h : BytesIn P w v l) (hPQ : ∀ b, P b → Q b) : BytesIn Q w v l := by
  obtain ⟨a, cap, rfl, hc, h⟩ := h
  refine ⟨a, cap, rfl, hc, fun i hi => ?_⟩
  obtain ⟨b, off, hp, e⟩ := h i hi
  exact ⟨b, off, hPQ b hp, e⟩
theorem BytesIn.grew {P S : Nat → Prop} {w w' : World} {v : Value} {l : List Int} (h : BytesIn P w v l) (hg : Grew S w w') (hPS : ∀ b, P b → ¬ S b) : BytesIn P w' v l := by
  obtain ⟨a, cap, rfl, hc, h⟩ := h
  refine ⟨a, cap, rfl, hc, fun i hi => ?_⟩
  obtain ⟨b, off, hp, e, hcell⟩ := h i hi
  exact ⟨b, off, hp, e, hg.cell hcell (hPS b hp)⟩
theorem BytesIn.later {P : Nat → Prop} {w w' : World} {v : Value} {l : List Int} (h : BytesIn P w v l) (hb : Below w.heap.size w w') : BytesIn P w' v l := h.grew (S := fun _ => False) (Grew.of_below hb) (fun _ _ h => h)
theorem BytesAt.later {w w' : World} {v : Value} {l : List Int} (h : BytesAt w v l) (hb : Below w.heap.size w w') : BytesAt w' v l := BytesIn.later h hb

/-- All bytes but the first one. -/
theorem BytesIn.tail {P : Nat → Prop} {w : World} {x : Int} {l : List Int} {a : Option Addr} {cap : Nat} (h : BytesIn P w (.slice a (l.length + 1) cap) (x :: l)) : BytesIn P w (sliced a 1 (l.length + 1) cap 1) l := by
  obtain ⟨a', cap', e, hc, h⟩ := h
  cases e
  simp only [List.length_cons] at hc
  refine ⟨if cap = 1 then a else a.map (·.add (1 * 1)), cap - 1, ?_, by omega, fun i hi => ?_⟩
  · unfold sliced; rw [show l.length + 1 - 1 = l.length by omega]
  · obtain ⟨b, off, hp, rfl, hcell⟩ := h (i + 1) (by simp; omega)
    rw [if_neg (by omega)]
    refine ⟨b, off + 1, hp, ?_, ?_⟩
    · simp [Addr.add]
    · rw [show off + 1 + i = off + (i + 1) by omega]; simpa using hcell
/-- Some bytes behind one another, from number m on to number n. -/
theorem BytesIn.part {P : Nat → Prop} {w : World} {l : List Int} {a : Option Addr} {cap m n : Nat} (hmn : m ≤ n) (hn : n ≤ l.length) (h : BytesIn P w (.slice a l.length cap) l) : BytesIn P w (sliced a m n cap 1) ((l.take n).drop m) := by
  obtain ⟨a', cap', e, hc, h⟩ := h
  cases e
  have hl : ((l.take n).drop m).length = n - m := by simp; omega
  refine ⟨if cap = m then a else a.map (·.add (m * 1)), cap - m, ?_, by rw [hl]; omega, fun i hi => ?_⟩
  · unfold sliced; rw [hl]
  · rw [hl] at hi
    obtain ⟨b, off, hp, rfl, hcell⟩ := h (m + i) (by omega)
    rw [if_neg (by omega)]
    refine ⟨b, off + m, hp, by simp [Addr.add], ?_⟩
    rw [show off + m + i = off + (m + i) by omega]
    rw [hcell]
    simp [List.getElem_drop, List.getElem_take]

theorem sizeB (w : World) : (sizeOf (Tryz.prog.elem 53)).run Tryz.prog w = .ok 1 w := by kernel_rfl
theorem slB : Tryz.prog.underlying 53 = some (.slice (Tryz.prog.elem 53)) := by kernel_rfl
/-- A slice expression over bytes, with both bounds, the upper one, the lower one. -/
theorem cut_lh {P : Nat → Prop} {W : World} {l : List Int} {a : Option Addr} {cap : Nat} (h : BytesIn P W (.slice a l.length cap) l) {m n : Int} (h0 : 0 ≤ m) (h1 : m ≤ n) (h2 : n ≤ l.length) :
    ∃ v, (∀ w, (Instr.slice 53 (.slice a l.length cap) (some (.int .i64 m)) (some (.int .i64 n)) none).run Tryz.prog w = .ok v w) ∧ BytesIn P W v ((l.take n.toNat).drop m.toNat) := by
  have hc : l.length ≤ cap := by obtain ⟨a', cap', e, hc, -⟩ := h; cases e; exact hc
  refine ⟨sliced a m.toNat n.toNat cap 1, fun w => ?_, h.part (by omega) (by omega)⟩
  rw [run_slice_lh w _ _ _ _ slB .i64 .i64 m n h0 h1 (by omega), sizeB]
  rfl
theorem cut_h {P : Nat → Prop} {W : World} {l : List Int} {a : Option Addr} {cap : Nat} (h : BytesIn P W (.slice a l.length cap) l) {n : Int} (h0 : 0 ≤ n) (h2 : n ≤ l.length) :
    ∃ v, (∀ w, (Instr.slice 53 (.slice a l.length cap) none (some (.int .i64 n)) none).run Tryz.prog w = .ok v w) ∧ BytesIn P W v (l.take n.toNat) := by
  have hc : l.length ≤ cap := by obtain ⟨a', cap', e, hc, -⟩ := h; cases e; exact hc
  refine ⟨sliced a 0 n.toNat cap 1, fun w => ?_, h.part (m := 0) (by omega) (by omega)⟩
  rw [run_slice_h w _ _ _ _ slB .i64 n h0 (by omega), sizeB]
  rfl
theorem cut_l {P : Nat → Prop} {W : World} {l : List Int} {a : Option Addr} {cap : Nat} (h : BytesIn P W (.slice a l.length cap) l) {m : Int} (h0 : 0 ≤ m) (h2 : m ≤ l.length) :
    ∃ v, (∀ w, (Instr.slice 53 (.slice a l.length cap) (some (.int .i64 m)) none none).run Tryz.prog w = .ok v w) ∧ BytesIn P W v (l.drop m.toNat) := by
  refine ⟨sliced a m.toNat l.length cap 1, fun w => ?_, ?_⟩
  · rw [run_slice_l w _ _ _ _ slB .i64 m h0 h2, sizeB]
    rfl
  · have := h.part (m := m.toNat) (n := l.length) (by omega) (Nat.le_refl _)
    rw [List.take_length] at this; exact this

/-- A row of bytes as cells. -/
def byteCells (l : List Int) : List Value := l.map (Value.int .u8)
theorem byteCells_length (l : List Int) : (byteCells l).length = l.length := by simp [byteCells]
theorem byteCells_append (l m : List Int) : byteCells (l ++ m) = byteCells l ++ byteCells m := by simp [byteCells]
theorem byteCells_one (l : List Int) : ∀ u ∈ byteCells l, u.oneCell' = true := ints_oneCell .u8 l

/-- What the call owns, it has. -/
theorem owns_bytes {w : World} {base : Nat} {e : TypeId} {v : Value} {l : List Int} (h : w.ownsRow base e 1 v l.length (byteCells l)) : BytesIn (fun b => base ≤ b) w v l := by
  rcases h.2 with ⟨rfl, h0⟩ | ⟨g, cap, cur, rfl, hb, hg, hnc, -, hsz, htake⟩
  · obtain rfl : l = [] := List.eq_nil_of_length_eq_zero h0
    exact ⟨none, 0, rfl, Nat.le_refl _, fun i hi => by simp at hi⟩
  · refine ⟨_, cap, rfl, hnc, fun i hi => ⟨g, 0, hb, rfl, ?_⟩⟩
    have := World.ownsRow.cells h (g := g) rfl i (.int .u8 l[i]) (by simp [byteCells, hi])
    rw [show (⟨g, 0, none⟩ : Addr).add i = ⟨g, 0 + i, none⟩ by unfold Addr.add; split <;> simp_all] at this
    exact this
/-- The cells of some bytes, as an append reads them. -/
theorem BytesIn.cells {P : Nat → Prop} {w : World} {l : List Int} {a : Option Addr} {cap : Nat} (h : BytesIn P w (.slice a l.length cap) l) (h0 : 0 < l.length) : ∃ b off, a = some ⟨b, off, none⟩ ∧ ∀ j u, (byteCells l)[j]? = some u → w.cell? ((⟨b, off, none⟩ : Addr).add j) = some u := by
  obtain ⟨a', cap', e, hc, h⟩ := h
  cases e
  obtain ⟨b, off, -, rfl, -⟩ := h 0 h0
  refine ⟨b, off, rfl, fun j u hu => ?_⟩
  have hj : j < l.length := by
    have := (List.getElem?_eq_some_iff.1 hu).1
    simpa [byteCells] using this
  obtain ⟨b', off', -, e, hcell⟩ := h j hj
  cases e
  rw [show (⟨b, off, none⟩ : Addr).add j = ⟨b, off + j, none⟩ by unfold Addr.add; split <;> simp_all, hcell]
  simpa [byteCells, hj] using hu

theorem byte_back {x : Int} (h : IsB x) : ((UInt8.ofNat x.toNat).toNat : Int) = x := by
  unfold IsB at h
  rw [UInt8.toNat_ofNat']
  omega
theorem bytes_inj {l m : List Int} (hl : AllB l) (hm : AllB m) (e : (l.map fun n => UInt8.ofNat n.toNat) = m.map fun n => UInt8.ofNat n.toNat) : l = m := by
  induction l generalizing m with
  | nil => cases m with
    | nil => rfl
    | cons y m => simp at e
  | cons x l ih => cases m with
    | nil => simp at e
    | cons y m =>
      simp only [List.map_cons, List.cons.injEq] at e
      rw [ih hl.tail hm.tail e.2]
      have := congrArg (fun u : UInt8 => (u.toNat : Int)) e.1
      simp only [byte_back hl.head, byte_back hm.head] at this
      rw [this]
theorem strOf_eq {l m : List Int} (hl : AllB l) (hm : AllB m) : ((strOfNums l).toList == (strOfNums m).toList) = decide (l = m) := by
  rw [ByteArray.toList_eq, ByteArray.toList_eq, strOfNums_data, strOfNums_data]
  by_cases h : l = m
  · subst h; simp
  · simp only [h, decide_false, beq_eq_false_iff_ne, ne_eq]
    exact fun e => h (bytes_inj hl hm e)

end Go.Proofs.YtehkjbpgibdgpadGreatDoor
namespace Go.Proofs.YtehkjbpgibdgpadGreatDoor
open Go.RowKit

/-- A reader in block C: what is left, in blocks below N. -/
def ReadAt (w : World) (N C : Nat) (l : List Int) : Prop :=
  N ≤ C ∧ AllB l ∧ ∃ v, w.cell? ⟨C, 0, none⟩ = some v ∧ w.frozen? ⟨C, 0, none⟩ = false ∧ BytesIn (fun b => b < N) w v l

theorem ReadAt.lt {w : World} {N C : Nat} {l : List Int} (h : ReadAt w N C l) : C < w.heap.size := by
  obtain ⟨-, -, v, hv, -⟩ := h
  exact World.block_lt_of_cell? w _ hv
theorem ReadAt.grew {S : Nat → Prop} {w w' : World} {N C : Nat} {l : List Int} (h : ReadAt w N C l) (hg : Grew S w w') (hS : ∀ b, b ≤ C → ¬ S b) : ReadAt w' N C l := by
  have hlt := h.lt
  obtain ⟨hN, hb, v, hv, hf, hl⟩ := h
  exact ⟨hN, hb, v, hg.cell hv (hS C (Nat.le_refl _)), by rw [hg.frozen (p := ⟨C, 0, none⟩) hlt (hS C (Nat.le_refl _))]; exact hf, hl.grew hg fun b hb => hS b (by omega)⟩
theorem ReadAt.alloc {w : World} {N C : Nat} {l : List Int} (h : ReadAt w N C l) (o : Obj) : ReadAt (w.alloc o) N C l := h.grew (S := fun _ => False) (Grew.of_below ((Below.refl _ _).alloc (Nat.le_refl _) _)) (fun _ _ h => h)
theorem ReadAt.apart {w : World} {N C g : Nat} {l : List Int} (h : ReadAt w N C l) (hg : C < g) (o : Nat) (u : Value) : ReadAt (w.setCell ⟨g, o, none⟩ u) N C l :=
  h.grew (S := fun b => b = g) ⟨rfl, rfl, rfl, by simp [World.setCell], fun i _ hi => Below.heap_setCell _ _ _ _ hi⟩ (fun b hb e => by omega)
theorem ReadAt.other {w : World} {N C g : Nat} {l : List Int} (h : ReadAt w N C l) (hg : N ≤ g) (hne : g ≠ C) (o : Nat) (u : Value) : ReadAt (w.setCell ⟨g, o, none⟩ u) N C l := by
  have hlt := h.lt
  have hG : Grew (fun b => b = g) w (w.setCell ⟨g, o, none⟩ u) := ⟨rfl, rfl, rfl, by simp [World.setCell], fun i _ hi => Below.heap_setCell _ _ _ _ hi⟩
  obtain ⟨hN, hb, v, hv, hf, hl⟩ := h
  exact ⟨hN, hb, v, hG.cell hv (fun e => hne e.symm), by rw [hG.frozen (p := ⟨C, 0, none⟩) hlt (fun e => hne e.symm)]; exact hf, hl.grew hG fun b hb e => by omega⟩
theorem ReadAt.all {w : World} {N C : Nat} {l : List Int} (h : ReadAt w N C l) : AllB l := h.2.1

/-- What a reader gives up with. -/
def gave : List PanicEntry := [{ v := .iface 215 (.agg #[]), recovered := false }]

theorem grew_cellC (w : World) (C o : Nat) (u : Value) : Grew (fun b => b = C) w (w.setCell ⟨C, o, none⟩ u) := ⟨rfl, rfl, rfl, by simp [World.setCell], fun i _ hi => Below.heap_setCell _ _ _ _ hi⟩

set_option maxHeartbeats 400000 in
theorem next_some {N C : Nat} {x : Int} {l : List Int} {w : World} (h : ReadAt w N C (x :: l)) :
    Calls Tryz.prog 178 #[.pointer (some ⟨C, 0, none⟩)] w fun e w' => e = .returned (.int .u8 x) ∧ ReadAt w' N C l ∧ Grew (fun b => b = C) w w' ∧ w'.heap.size = w.heap.size := by
  obtain ⟨hN, hb, v, hv, hf, hl⟩ := h
  have HL := hl
  obtain ⟨a, cap, rfl, hc, hcell⟩ := hl
  obtain ⟨b, off, hbN, rfl, hx⟩ := hcell 0 (by simp)
  simp only [List.length_cons, List.getElem_cons_zero, Nat.add_zero] at hv hx hc HL
  clear hcell
  have HT := HL.tail
  unfold sliced at HT
  by_cases h1 : cap = 1
  · rw [if_pos h1, Nat.add_sub_cancel] at HT
    subst h1
    obtain rfl : l = [] := List.eq_nil_of_length_eq_zero (by omega)
    simp only [List.length_nil, Nat.zero_add, Nat.sub_self] at HT hv
    go_enter Tryz.func178, Tryz.ntmps178
    go_wp2
    go_ret
    exact ⟨rfl, ⟨hN, hb.tail, _, World.cell?_setCell_same _ _ _ hv, by rw [World.frozen?_setCell]; exact hf, HT.grew (grew_cellC _ C 0 _) (fun b hb e => by omega)⟩, grew_cellC _ _ _ _, by simp [World.setCell]⟩
  · rw [if_neg h1, Nat.add_sub_cancel] at HT
    simp only [Option.map_some, Nat.mul_one, addr_add] at HT
    go_enter Tryz.func178, Tryz.ntmps178
    go_wp2
    go_ret
    exact ⟨rfl, ⟨hN, hb.tail, _, World.cell?_setCell_same _ _ _ hv, by rw [World.frozen?_setCell]; exact hf, HT.grew (grew_cellC _ C 0 _) (fun b hb e => by omega)⟩, grew_cellC _ _ _ _, by simp [World.setCell]⟩

set_option maxHeartbeats 400000 in
theorem next_none {N C : Nat} {w : World} (h : ReadAt w N C []) :
    Calls Tryz.prog 178 #[.pointer (some ⟨C, 0, none⟩)] w fun e w' => e = .panicked gave ∧ w' = w := by
  obtain ⟨hN, hb, v, hv, hf, hl⟩ := h
  obtain ⟨a, cap, rfl, hc, -⟩ := hl
  simp only [List.length_nil] at hv
  go_enter Tryz.func178, Tryz.ntmps178
  go_wp2
  exact ⟨rfl, rfl, rfl⟩

set_option maxHeartbeats 400000 in
theorem end_none {N C : Nat} {w : World} (h : ReadAt w N C []) :
    Calls Tryz.prog 166 #[.pointer (some ⟨C, 0, none⟩)] w fun e w' => e = .returned (.tuple #[]) ∧ w' = w := by
  obtain ⟨hN, hb, v, hv, hf, hl⟩ := h
  obtain ⟨a, cap, rfl, hc, -⟩ := hl
  simp only [List.length_nil] at hv
  go_enter Tryz.func166, Tryz.ntmps166
  go_wp2
  go_end0
  exact ⟨rfl, rfl⟩

set_option maxHeartbeats 400000 in
theorem end_some {N C : Nat} {x : Int} {l : List Int} {w : World} (h : ReadAt w N C (x :: l)) :
    Calls Tryz.prog 166 #[.pointer (some ⟨C, 0, none⟩)] w fun e w' => e = .panicked gave ∧ w' = w := by
  obtain ⟨hN, hb, v, hv, hf, hl⟩ := h
  obtain ⟨a, cap, rfl, hc, -⟩ := hl
  simp only [List.length_cons] at hv
  go_enter Tryz.func166, Tryz.ntmps166
  go_wp2
  exact ⟨rfl, rfl, rfl⟩
end Go.Proofs.YtehkjbpgibdgpadGreatDoor
namespace Go.Proofs.YtehkjbpgibdgpadGreatDoor
open Go.RowKit

theorem or_byteN (V X j : Nat) (hj : j < 8) (hV : V < 256 ^ j) (hX : X < 256) : bits .or .u64 (V : Int) (IntKind.u64.wrap (IntKind.u64.wrap (X : Int) * 2 ^ (8 * j))) = ((V + X * 256 ^ j : Nat) : Int) := by
  have e : (256 : Nat) ^ j = 2 ^ (8 * j) := by rw [Nat.pow_mul]
  have h1 : IntKind.u64.wrap (X : Int) = X := by rw [IntKind.wrap_u64]; omega
  have hp : 2 ^ (8 * j) ≤ 72057594037927936 := Nat.pow_le_pow_right (n := 2) (j := 56) (by omega) (by omega)
  have hlt : X * 2 ^ (8 * j) < 18446744073709551616 := by
    have : X * 2 ^ (8 * j) ≤ 255 * 72057594037927936 := Nat.mul_le_mul (by omega) hp
    omega
  have hc : ((X * 2 ^ (8 * j) : Nat) : Int) = (X : Int) * 2 ^ (8 * j) := by simp [Int.natCast_mul, Int.natCast_pow]
  have h2 : IntKind.u64.wrap ((X : Int) * 2 ^ (8 * j)) = ((X * 2 ^ (8 * j) : Nat) : Int) := by
    rw [← hc, IntKind.wrap_u64, Int.emod_eq_of_lt (Int.natCast_nonneg _) (by omega)]
  rw [e] at hV
  rw [h1, h2, bits_or_u64_nat _ _ (by omega) hlt, Nat.or_comm, Nat.mul_comm X, ← Nat.two_pow_add_eq_or_of_lt hV, e, Nat.add_comm, Nat.mul_comm X]
/-- Bytes that are lifted to their places and laid together are their number. -/
theorem or_byte {l : List Int} (hl : AllB l) {j : Nat} (hj : j < 8) (h : j < l.length) : bits .or .u64 (valB (l.take j)) (IntKind.u64.wrap (IntKind.u64.wrap l[j] * 2 ^ (8 * j))) = valB (l.take (j + 1)) := by
  have hx := hl l[j] (List.getElem_mem h)
  have hv := valB_lt (l.take j) (hl.take j)
  have hlen : (l.take j).length = j := by simp; omega
  rw [hlen] at hv
  have hs := valB_snoc (l.take j) l[j]
  rw [hlen] at hs
  rw [List.take_succ_eq_append_getElem h, hs]
  unfold IsB at hx
  obtain ⟨V, hV⟩ := Int.eq_ofNat_of_zero_le hv.1
  obtain ⟨X, hX⟩ := Int.eq_ofNat_of_zero_le hx.1
  rw [hV] at hv ⊢
  rw [hX] at hx ⊢
  have hv' : V < 256 ^ j := by
    have h2 := hv.2
    rw [show (256 : Int) ^ j = ((256 ^ j : Nat) : Int) by simp [Int.natCast_pow]] at h2
    exact Int.ofNat_lt.1 h2
  rw [or_byteN V X j hj hv' (by omega)]
  simp [Int.natCast_add, Int.natCast_mul, Int.natCast_pow]
theorem wrap_sgn {l : List Int} (hl : AllB l) (h : l.length = 8) : wrap64 (valB l) = sgnF (valB l) := by
  have hv := valB_lt l hl
  rw [h] at hv
  have e : (256 : Int) ^ 8 = 18446744073709551616 := by decide
  rw [e] at hv
  unfold wrap64 sgnF
  split <;> omega

set_option maxHeartbeats 400000 in
theorem number_some {N C : Nat} {l : List Int} {w : World} (h : ReadAt w N C l) (h8 : 8 ≤ l.length) :
    Calls Tryz.prog 193 #[.pointer (some ⟨C, 0, none⟩)] w fun e w' => e = .returned (.int .i64 (sgnF (valB (l.take 8)))) ∧ ReadAt w' N C (l.drop 8) ∧ Grew (fun b => b = C) w w' ∧ w'.heap.size = w.heap.size := by
  go_enter Tryz.func193, Tryz.ntmps193
  go_wp2_with fail
  go_loopg [3, 5] 8 (fun g n i wr => ∃ j : Nat, j ≤ 8 ∧ g = 8 - j ∧ i = .int .i64 j ∧ n = .int .u64 (valB (l.take j)) ∧ ReadAt wr N C (l.drop j) ∧ Grew (fun b => b = C) w wr ∧ wr.heap.size = w.heap.size)
  case atStart => exact ⟨0, by omega, by omega, rfl, rfl, h, Grew.refl _ _, rfl⟩
  case round =>
    obtain ⟨j, hj, hg, rfl, rfl, hR, hG, hS⟩ := hrel
    by_cases hlt : j < 8
    · rw [List.drop_eq_getElem_cons (by omega : j < l.length)] at hR
      go_wp2_with fail
      refine (next_some hR).mono ?_
      rintro e w1 ⟨rfl, hR1, hG1, hS1⟩
      have hV := or_byte h.all hlt (by omega)
      clear hR
      go_wp2_with fail
      go_roundg (8 - (j + 1))
      case measure => omega
      case rel => exact ⟨j + 1, by omega, rfl, by go_num, rfl, hR1, hG.trans hG1, by omega⟩
    · obtain rfl : j = 8 := by omega
      have hV : Hid (wrap64 (valB (l.take 8)) = sgnF (valB (l.take 8))) := wrap_sgn (h.all.take 8) (by simp; omega)
      go_wp2_with fail
      go_ret
      exact ⟨ret_int hV.out, hR, hG, hS⟩

set_option maxHeartbeats 400000 in
theorem number_none {N C : Nat} {l : List Int} {w : World} (h : ReadAt w N C l) (h8 : l.length < 8) :
    Calls Tryz.prog 193 #[.pointer (some ⟨C, 0, none⟩)] w fun e w' => e = .panicked gave ∧ Grew (fun b => b = C) w w' := by
  go_enter Tryz.func193, Tryz.ntmps193
  go_wp2_with fail
  go_loopg [3, 5] 8 (fun g n i wr => ∃ j : Nat, j ≤ l.length ∧ g = 8 - j ∧ i = .int .i64 j ∧ n = .int .u64 (valB (l.take j)) ∧ ReadAt wr N C (l.drop j) ∧ Grew (fun b => b = C) w wr)
  case atStart => exact ⟨0, by omega, by omega, rfl, rfl, h, Grew.refl _ _⟩
  case round =>
    obtain ⟨j, hj, hg, rfl, rfl, hR, hG⟩ := hrel
    have hlt : j < 8 := by omega
    by_cases hlt' : j < l.length
    · rw [List.drop_eq_getElem_cons hlt'] at hR
      go_wp2_with fail
      refine (next_some hR).mono ?_
      rintro e w1 ⟨rfl, hR1, hG1, hS1⟩
      have hV := or_byte h.all hlt hlt'
      clear hR
      go_wp2_with fail
      go_roundg (8 - (j + 1))
      case measure => omega
      case rel => exact ⟨j + 1, by omega, rfl, by go_num, rfl, hR1, hG.trans hG1⟩
    · rw [List.drop_eq_nil_of_le (by omega)] at hR
      go_wp2_with fail
      refine (next_none hR).mono ?_
      rintro e w1 ⟨rfl, rfl⟩
      go_wp2_with fail
      exact ⟨rfl, rfl, hG⟩
end Go.Proofs.YtehkjbpgibdgpadGreatDoor
namespace Go.Proofs.YtehkjbpgibdgpadGreatDoor
open Go.RowKit

/-- An operation as a value. -/
def opV (o : Op5) : Value := .agg #[.int .i64 o.k, .int .i64 o.a, .int .i64 o.b, .int .i64 o.c, .int .i64 o.n]

/-- Five cells of a block that is no reader's. -/
structure Five (w : World) (B : Nat) (k a b c n : Int) : Prop where
  c0 : w.cell? ⟨B, 0, none⟩ = some (.int .i64 k)
  c1 : w.cell? ⟨B, 1, none⟩ = some (.int .i64 a)
  c2 : w.cell? ⟨B, 2, none⟩ = some (.int .i64 b)
  c3 : w.cell? ⟨B, 3, none⟩ = some (.int .i64 c)
  c4 : w.cell? ⟨B, 4, none⟩ = some (.int .i64 n)
  fr : ∀ o, w.frozen? ⟨B, o, none⟩ = false
theorem Five.lt {w : World} {B : Nat} {k a b c n : Int} (h : Five w B k a b c n) : B < w.heap.size := World.block_lt_of_cell? w _ h.c0
theorem Five.grew {S : Nat → Prop} {w w' : World} {B : Nat} {k a b c n : Int} (h : Five w B k a b c n) (hg : Grew S w w') (hn : ¬ S B) : Five w' B k a b c n :=
  ⟨hg.cell h.c0 hn, hg.cell h.c1 hn, hg.cell h.c2 hn, hg.cell h.c3 hn, hg.cell h.c4 hn, fun o => by rw [hg.frozen (p := ⟨B, o, none⟩) h.lt hn]; exact h.fr o⟩
theorem five_new (w : World) (k a b c n : Int) (t : TypeId) : Five (w.alloc (.cells #[.int .i64 k, .int .i64 a, .int .i64 b, .int .i64 c, .int .i64 n] t)) w.heap.size k a b c n :=
  ⟨by go_simp, by go_simp, by go_simp, by go_simp, by go_simp, fun o => by go_simp⟩
theorem grew_new (S : Nat → Prop) (w : World) (o : Obj) : Grew S w (w.alloc o) := Grew.of_below ((Below.refl _ _).alloc (Nat.le_refl _) _)
theorem int_byte {x : Int} (h : IsB x) : wrap64 x = x := by unfold IsB at h; unfold wrap64; omega
theorem rem_byte {x : Int} (h : IsB x) : x.tmod 16 = x % 16 := Int.tmod_eq_emod_of_nonneg h.1
theorem quo_byte {x : Int} (h : IsB x) : x.tdiv 16 = x / 16 := Int.tdiv_eq_ediv_of_nonneg h.1

theorem int_quo {x : Int} (h : IsB x) : wrap64 (x / 16) = x / 16 := by unfold IsB at h; unfold wrap64; omega
theorem cell_apart' {w : World} {C o m : Nat} (u : Value) (h : o ≠ m) : (w.setCell ⟨C, m, none⟩ u).cell? ⟨C, o, none⟩ = w.cell? ⟨C, o, none⟩ :=
  World.cell?_setCell_other _ _ _ _ (fun h => by simp only [Addr.mk.injEq] at h; omega)

set_option maxRecDepth 100000 in
set_option maxHeartbeats 400000 in
theorem op_nil {N C : Nat} {w : World} (h : ReadAt w N C []) :
    Calls Tryz.prog 188 #[.pointer (some ⟨C, 0, none⟩)] w fun e w' => e = .panicked gave ∧ Grew (fun b => b = C) w w' := by
  go_enter Tryz.func188, Tryz.ntmps188
  go_wp2_with fail
  refine (next_none (h.alloc _)).mono ?_
  rintro e w1 ⟨rfl, rfl⟩
  exact ⟨rfl, rfl, grew_new _ _ _⟩

set_option maxRecDepth 100000 in
set_option maxHeartbeats 400000 in
theorem op_one {N C : Nat} {x : Int} {w : World} (h : ReadAt w N C [x]) :
    Calls Tryz.prog 188 #[.pointer (some ⟨C, 0, none⟩)] w fun e w' => e = .panicked gave ∧ Grew (fun b => b = C) w w' := by
  have hx := int_byte h.all.head
  go_enter Tryz.func188, Tryz.ntmps188
  go_wp2_with fail
  refine (next_some (h.alloc _)).mono ?_
  rintro e w1 ⟨rfl, hR1, hG1, hS1⟩
  have hG := (grew_new (fun b => b = C) w _).trans hG1
  by_cases h1 : x = 1
  · subst h1
    go_wp2_with fail
    refine (next_none (hR1.alloc _)).mono ?_
    rintro e w2 ⟨rfl, rfl⟩
    exact ⟨rfl, rfl, hG.trans (grew_new _ _ _)⟩
  · have t1 : (x == 1) = false := by simp [h1]
    go_wp2_with fail
    refine (next_none (hR1.alloc _)).mono ?_
    rintro e w2 ⟨rfl, rfl⟩
    exact ⟨rfl, rfl, hG.trans (grew_new _ _ _)⟩

theorem Five.set0 {w : World} {B : Nat} {k a b c n : Int} (h : Five w B k a b c n) (x : Int) : Five (w.setCell ⟨B, 0, none⟩ (.int .i64 x)) B x a b c n :=
  ⟨World.cell?_setCell_same _ _ _ h.c0, by rw [cell_apart' _ (by omega)]; exact h.c1, by rw [cell_apart' _ (by omega)]; exact h.c2, by rw [cell_apart' _ (by omega)]; exact h.c3, by rw [cell_apart' _ (by omega)]; exact h.c4, fun o => by rw [World.frozen?_setCell]; exact h.fr o⟩
theorem Five.set1 {w : World} {B : Nat} {k a b c n : Int} (h : Five w B k a b c n) (x : Int) : Five (w.setCell ⟨B, 1, none⟩ (.int .i64 x)) B k x b c n :=
  ⟨by rw [cell_apart' _ (by omega)]; exact h.c0, World.cell?_setCell_same _ _ _ h.c1, by rw [cell_apart' _ (by omega)]; exact h.c2, by rw [cell_apart' _ (by omega)]; exact h.c3, by rw [cell_apart' _ (by omega)]; exact h.c4, fun o => by rw [World.frozen?_setCell]; exact h.fr o⟩
theorem Five.set2 {w : World} {B : Nat} {k a b c n : Int} (h : Five w B k a b c n) (x : Int) : Five (w.setCell ⟨B, 2, none⟩ (.int .i64 x)) B k a x c n :=
  ⟨by rw [cell_apart' _ (by omega)]; exact h.c0, by rw [cell_apart' _ (by omega)]; exact h.c1, World.cell?_setCell_same _ _ _ h.c2, by rw [cell_apart' _ (by omega)]; exact h.c3, by rw [cell_apart' _ (by omega)]; exact h.c4, fun o => by rw [World.frozen?_setCell]; exact h.fr o⟩
theorem Five.set3 {w : World} {B : Nat} {k a b c n : Int} (h : Five w B k a b c n) (x : Int) : Five (w.setCell ⟨B, 3, none⟩ (.int .i64 x)) B k a b x n :=
  ⟨by rw [cell_apart' _ (by omega)]; exact h.c0, by rw [cell_apart' _ (by omega)]; exact h.c1, by rw [cell_apart' _ (by omega)]; exact h.c2, World.cell?_setCell_same _ _ _ h.c3, by rw [cell_apart' _ (by omega)]; exact h.c4, fun o => by rw [World.frozen?_setCell]; exact h.fr o⟩
theorem Five.set4 {w : World} {B : Nat} {k a b c n : Int} (h : Five w B k a b c n) (x : Int) : Five (w.setCell ⟨B, 4, none⟩ (.int .i64 x)) B k a b c x :=
  ⟨by rw [cell_apart' _ (by omega)]; exact h.c0, by rw [cell_apart' _ (by omega)]; exact h.c1, by rw [cell_apart' _ (by omega)]; exact h.c2, by rw [cell_apart' _ (by omega)]; exact h.c3, World.cell?_setCell_same _ _ _ h.c4, fun o => by rw [World.frozen?_setCell]; exact h.fr o⟩
theorem Five.put {w : World} {B : Nat} {k a b c n : Int} (h : Five w B k a b c n) (k' a' b' c' n' : Int) : Five (((((w.setCell ⟨B, 0, none⟩ (.int .i64 k')).setCell ⟨B, 1, none⟩ (.int .i64 a')).setCell ⟨B, 2, none⟩ (.int .i64 b')).setCell ⟨B, 3, none⟩ (.int .i64 c')).setCell ⟨B, 4, none⟩ (.int .i64 n')) B k' a' b' c' n' := ((((h.set0 k').set1 a').set2 b').set3 c').set4 n'
/-- What a function answers whose result lies in five cells. -/
theorem op_results {w : World} {B : Nat} {o : Op5} (h : Five w B o.k o.a o.b o.c o.n) {ts : Array Value} (ht : ts[2]? = some (.pointer (some ⟨B, 0, none⟩))) : (results Tryz.f188 ts).run Tryz.prog w = .ok (opV o) w := by
  obtain ⟨c0, c1, c2, c3, c4, -⟩ := h
  simp [results, Tryz.results188, go_sem, opV, ht, c0, c1, c2, c3, c4]
theorem Five.other {w : World} {B g : Nat} {k a b c n : Int} (h : Five w B k a b c n) (hne : g ≠ B) (o : Nat) (u : Value) : Five (w.setCell ⟨g, o, none⟩ u) B k a b c n := h.grew (grew_cellC w g o u) (fun e => hne e.symm)

/-- The result is laid into its five cells. -/
theorem grew_five {C : Nat} {w W : World} (h : Grew (fun b => b = C) w W) {b : Nat} (hb : w.heap.size ≤ b) (x0 x1 x2 x3 x4 : Value) : Grew (fun b => b = C) w (((((W.setCell ⟨b, 0, none⟩ x0).setCell ⟨b, 1, none⟩ x1).setCell ⟨b, 2, none⟩ x2).setCell ⟨b, 3, none⟩ x3).setCell ⟨b, 4, none⟩ x4) := by
  have k : Grew (fun c => c = b) W (((((W.setCell ⟨b, 0, none⟩ x0).setCell ⟨b, 1, none⟩ x1).setCell ⟨b, 2, none⟩ x2).setCell ⟨b, 3, none⟩ x3).setCell ⟨b, 4, none⟩ x4) := ((((grew_cellC _ _ _ _).trans (grew_cellC _ _ _ _)).trans (grew_cellC _ _ _ _)).trans (grew_cellC _ _ _ _)).trans (grew_cellC _ _ _ _)
  exact ⟨k.os.trans h.os, k.tape.trans h.tape, k.output.trans h.output, Nat.le_trans h.size k.size, fun i hi hn => (k.block i (Nat.lt_of_lt_of_le hi h.size) (fun e => by omega)).trans (h.block i hi hn)⟩
theorem grew_one {C : Nat} {w W : World} (h : Grew (fun b => b = C) w W) {b : Nat} (hb : w.heap.size ≤ b) (o : Nat) (x : Value) : Grew (fun b => b = C) w (W.setCell ⟨b, o, none⟩ x) := by
  have k := grew_cellC W b o x
  exact ⟨k.os.trans h.os, k.tape.trans h.tape, k.output.trans h.output, Nat.le_trans h.size k.size, fun i hi hn => (k.block i (Nat.lt_of_lt_of_le hi h.size) (fun e => by omega)).trans (h.block i hi hn)⟩
theorem read_five {w : World} {N C g : Nat} {l : List Int} (h : ReadAt w N C l) (hg : C < g) (x0 x1 x2 x3 x4 : Value) : ReadAt (((((w.setCell ⟨g, 0, none⟩ x0).setCell ⟨g, 1, none⟩ x1).setCell ⟨g, 2, none⟩ x2).setCell ⟨g, 3, none⟩ x3).setCell ⟨g, 4, none⟩ x4) N C l := ((((h.apart hg 0 x0).apart hg 1 x1).apart hg 2 x2).apart hg 3 x3).apart hg 4 x4

set_option maxRecDepth 100000 in
set_option maxHeartbeats 1000000 in
theorem op_num {N C : Nat} {a : Int} {l : List Int} {w : World} (h : ReadAt w N C (1 :: a :: l)) (h8 : 8 ≤ l.length) :
    Calls Tryz.prog 188 #[.pointer (some ⟨C, 0, none⟩)] w fun e w' => e = .returned (opV ⟨1, a, 0, 0, sgnF (valB (l.take 8))⟩) ∧ ReadAt w' N C (l.drop 8) ∧ Grew (fun b => b = C) w w' := by
  have hx := int_byte h.all.tail.head
  have hlt := h.lt
  go_enter Tryz.func188, Tryz.ntmps188
  go_wp2_with fail
  refine (next_some (h.alloc _)).mono ?_
  rintro e w1 ⟨rfl, hR1, hG1, hS1⟩
  have hF1 : Five w1 w.heap.size 0 0 0 0 0 := (five_new w 0 0 0 0 0 _).grew hG1 (by omega)
  have hG := (grew_new (fun b => b = C) w _).trans hG1
  simp only [World.size_alloc] at hS1
  clear hG1
  go_wp2_with fail
  refine (next_some (hR1.alloc _)).mono ?_
  rintro e w2 ⟨rfl, hR2, hG2, hS2⟩
  have hF2 : Five w2 w.heap.size 0 0 0 0 0 := (hF1.grew (grew_new (fun _ => False) _ _) (fun h => h)).grew hG2 (by omega)
  have hE2 : Five w2 (w.heap.size + 1) 1 0 0 0 0 := by
    have := (five_new w1 1 0 0 0 0 121).grew hG2 (by omega)
    rw [hS1] at this; exact this
  have hG' := hG.trans ((grew_new (fun b => b = C) w1 _).trans hG2)
  simp only [World.size_alloc] at hS2
  clear hG hG2 hF1
  have e0 := hE2.c1
  have e1 := hE2.fr
  go_wp2_with fail
  refine (number_some (hR2.apart (show C < w.heap.size + 1 by omega) 1 (.int .i64 a)) h8).mono ?_
  rintro e w3 ⟨rfl, hR3, hG3, hS3⟩
  have hF3 : Five w3 w.heap.size 0 0 0 0 0 := (hF2.other (g := w.heap.size + 1) (by omega) 1 (.int .i64 a)).grew hG3 (by omega)
  have hE3 : Five w3 (w.heap.size + 1) 1 a 0 0 0 := (hE2.set1 a).grew hG3 (by omega)
  have hGG := (grew_one hG' (show w.heap.size ≤ w.heap.size + 1 by omega) 1 (.int .i64 a)).trans hG3
  clear hG' hG3 hF2 hE2 e0 e1
  obtain ⟨p0, p1, p2, p3, p4, p5⟩ := hF3
  obtain ⟨q0, q1, q2, q3, q4, q5⟩ := hE3
  have hFF := ((Five.mk p0 p1 p2 p3 p4 p5).other (g := w.heap.size + 1) (by omega) 4 (.int .i64 (sgnF (valB (l.take 8))))).put 1 a 0 0 (sgnF (valB (l.take 8)))
  go_wp2_with fail
  exact bodyPost_ret (op_results (o := ⟨1, a, 0, 0, sgnF (valB (l.take 8))⟩) hFF rfl) rfl ⟨rfl, read_five (hR3.apart (by omega) 4 _) (by omega) _ _ _ _ _, grew_five (grew_one hGG (by omega) 4 _) (Nat.le_refl _) _ _ _ _ _⟩

set_option maxRecDepth 100000 in
set_option maxHeartbeats 1000000 in
theorem op_num_none {N C : Nat} {a : Int} {l : List Int} {w : World} (h : ReadAt w N C (1 :: a :: l)) (h8 : l.length < 8) :
    Calls Tryz.prog 188 #[.pointer (some ⟨C, 0, none⟩)] w fun e w' => e = .panicked gave ∧ Grew (fun b => b = C) w w' := by
  have hx := int_byte h.all.tail.head
  have hlt := h.lt
  go_enter Tryz.func188, Tryz.ntmps188
  go_wp2_with fail
  refine (next_some (h.alloc _)).mono ?_
  rintro e w1 ⟨rfl, hR1, hG1, hS1⟩
  have hG := (grew_new (fun b => b = C) w _).trans hG1
  simp only [World.size_alloc] at hS1
  clear hG1
  go_wp2_with fail
  refine (next_some (hR1.alloc _)).mono ?_
  rintro e w2 ⟨rfl, hR2, hG2, hS2⟩
  have hE2 : Five w2 (w.heap.size + 1) 1 0 0 0 0 := by
    have := (five_new w1 1 0 0 0 0 121).grew hG2 (by omega)
    rw [hS1] at this; exact this
  have hG' := hG.trans ((grew_new (fun b => b = C) w1 _).trans hG2)
  simp only [World.size_alloc] at hS2
  clear hG hG2
  have e0 := hE2.c1
  have e1 := hE2.fr
  go_wp2_with fail
  refine (number_none (hR2.apart (show C < w.heap.size + 1 by omega) 1 (.int .i64 a)) h8).mono ?_
  rintro e w3 ⟨rfl, hG3⟩
  exact ⟨rfl, rfl, (grew_one hG' (show w.heap.size ≤ w.heap.size + 1 by omega) 1 (.int .i64 a)).trans hG3⟩

set_option maxRecDepth 100000 in
set_option maxHeartbeats 1000000 in
theorem op_two {N C : Nat} {k a : Int} {w : World} (h : ReadAt w N C [k, a]) (hk : k ≠ 1) :
    Calls Tryz.prog 188 #[.pointer (some ⟨C, 0, none⟩)] w fun e w' => e = .panicked gave ∧ Grew (fun b => b = C) w w' := by
  have hx := int_byte h.all.head
  have hy := int_byte h.all.tail.head
  have hr := rem_byte h.all.tail.head
  have hq := quo_byte h.all.tail.head
  have hq' := int_quo h.all.tail.head
  have t1 : (k == 1) = false := by simp [hk]
  have hlt := h.lt
  go_enter Tryz.func188, Tryz.ntmps188
  go_wp2_with fail
  refine (next_some (h.alloc _)).mono ?_
  rintro e w1 ⟨rfl, hR1, hG1, hS1⟩
  have hG := (grew_new (fun b => b = C) w _).trans hG1
  simp only [World.size_alloc] at hS1
  clear hG1
  go_wp2_with fail
  refine (next_some (hR1.alloc _)).mono ?_
  rintro e w2 ⟨rfl, hR2, hG2, hS2⟩
  have hE2 : Five w2 (w.heap.size + 1) k 0 0 0 0 := by
    have := (five_new w1 k 0 0 0 0 121).grew hG2 (by omega)
    rw [hS1] at this; exact this
  have hG' := hG.trans ((grew_new (fun b => b = C) w1 _).trans hG2)
  simp only [World.size_alloc] at hS2
  clear hG hG2
  obtain ⟨q0, q1, q2, q3, q4, q5⟩ := hE2
  go_wp2_with fail
  refine (next_none ((hR2.apart (show C < w.heap.size + 1 by omega) 1 (.int .i64 (a % 16))).apart (show C < w.heap.size + 1 by omega) 2 (.int .i64 (a / 16)))).mono ?_
  rintro e w3 ⟨rfl, rfl⟩
  exact ⟨rfl, rfl, grew_one (grew_one hG' (show w.heap.size ≤ w.heap.size + 1 by omega) 1 _) (show w.heap.size ≤ w.heap.size + 1 by omega) 2 _⟩

set_option maxRecDepth 100000 in
set_option maxHeartbeats 1000000 in
theorem op_three {N C : Nat} {k a c : Int} {l : List Int} {w : World} (h : ReadAt w N C (k :: a :: c :: l)) (hk : k ≠ 1) :
    Calls Tryz.prog 188 #[.pointer (some ⟨C, 0, none⟩)] w fun e w' => e = .returned (opV ⟨k, a % 16, a / 16, c, 0⟩) ∧ ReadAt w' N C l ∧ Grew (fun b => b = C) w w' := by
  have hx := int_byte h.all.head
  have hy := int_byte h.all.tail.head
  have hz := int_byte h.all.tail.tail.head
  have hr := rem_byte h.all.tail.head
  have hq := quo_byte h.all.tail.head
  have hq' := int_quo h.all.tail.head
  have t1 : (k == 1) = false := by simp [hk]
  have hlt := h.lt
  go_enter Tryz.func188, Tryz.ntmps188
  go_wp2_with fail
  refine (next_some (h.alloc _)).mono ?_
  rintro e w1 ⟨rfl, hR1, hG1, hS1⟩
  have hF1 : Five w1 w.heap.size 0 0 0 0 0 := (five_new w 0 0 0 0 0 _).grew hG1 (by omega)
  have hG := (grew_new (fun b => b = C) w _).trans hG1
  simp only [World.size_alloc] at hS1
  clear hG1
  go_wp2_with fail
  refine (next_some (hR1.alloc _)).mono ?_
  rintro e w2 ⟨rfl, hR2, hG2, hS2⟩
  have hF2 : Five w2 w.heap.size 0 0 0 0 0 := (hF1.grew (grew_new (fun _ => False) _ _) (fun h => h)).grew hG2 (by omega)
  have hE2 : Five w2 (w.heap.size + 1) k 0 0 0 0 := by
    have := (five_new w1 k 0 0 0 0 121).grew hG2 (by omega)
    rw [hS1] at this; exact this
  have hG' := hG.trans ((grew_new (fun b => b = C) w1 _).trans hG2)
  simp only [World.size_alloc] at hS2
  clear hG hG2 hF1
  have HE2 := hE2
  obtain ⟨q0, q1, q2, q3, q4, q5⟩ := hE2
  go_wp2_with fail
  refine (next_some ((hR2.apart (show C < w.heap.size + 1 by omega) 1 (.int .i64 (a % 16))).apart (show C < w.heap.size + 1 by omega) 2 (.int .i64 (a / 16)))).mono ?_
  rintro e w3 ⟨rfl, hR3, hG3, hS3⟩
  have hF3 : Five w3 w.heap.size 0 0 0 0 0 := ((hF2.other (g := w.heap.size + 1) (by omega) 1 (.int .i64 (a % 16))).other (g := w.heap.size + 1) (by omega) 2 (.int .i64 (a / 16))).grew hG3 (by omega)
  have hE3 : Five w3 (w.heap.size + 1) k (a % 16) (a / 16) 0 0 := ((HE2.set1 (a % 16)).set2 (a / 16)).grew hG3 (by omega)
  have hGG := (grew_one (grew_one hG' (show w.heap.size ≤ w.heap.size + 1 by omega) 1 (.int .i64 (a % 16))) (show w.heap.size ≤ w.heap.size + 1 by omega) 2 (.int .i64 (a / 16))).trans hG3
  clear hG' hG3 hF2 HE2 q0 q1 q2 q3 q4 q5
  have hFF := (hF3.other (g := w.heap.size + 1) (by omega) 3 (.int .i64 c)).put k (a % 16) (a / 16) c 0
  obtain ⟨p0, p1, p2, p3, p4, p5⟩ := hF3
  obtain ⟨q0, q1, q2, q3, q4, q5⟩ := hE3
  go_wp2_with fail
  exact bodyPost_ret (op_results (o := ⟨k, a % 16, a / 16, c, 0⟩) hFF rfl) rfl ⟨rfl, read_five (hR3.apart (by omega) 3 _) (by omega) _ _ _ _ _, grew_five (grew_one hGG (by omega) 3 _) (Nat.le_refl _) _ _ _ _ _⟩

theorem op_some {N C : Nat} {l l' : List Int} {o : Op5} {w : World} (h : ReadAt w N C l) (e : readOp l = some (o, l')) :
    Calls Tryz.prog 188 #[.pointer (some ⟨C, 0, none⟩)] w fun e w' => e = .returned (opV o) ∧ ReadAt w' N C l' ∧ Grew (fun b => b = C) w w' := by
  match l, h, e with
  | [], _, e => simp [readOp] at e
  | [_], _, e => simp [readOp] at e
  | k :: a :: l2, h, e =>
    simp only [readOp] at e
    by_cases hk : k = 1
    · subst hk
      rw [if_pos rfl] at e
      by_cases h8 : l2.length < 8
      · rw [if_pos h8] at e; simp at e
      · rw [if_neg h8] at e
        simp only [Option.some.injEq, Prod.mk.injEq] at e
        obtain ⟨rfl, rfl⟩ := e
        exact op_num h (by omega)
    · rw [if_neg hk] at e
      cases l2 with
      | nil => simp at e
      | cons c l3 =>
        simp only [Option.some.injEq, Prod.mk.injEq] at e
        obtain ⟨rfl, rfl⟩ := e
        exact op_three h hk
theorem op_none {N C : Nat} {l : List Int} {w : World} (h : ReadAt w N C l) (e : readOp l = none) :
    Calls Tryz.prog 188 #[.pointer (some ⟨C, 0, none⟩)] w fun e w' => e = .panicked gave ∧ Grew (fun b => b = C) w w' := by
  match l, h, e with
  | [], h, _ => exact op_nil h
  | [_], h, _ => exact op_one h
  | k :: a :: l2, h, e =>
    simp only [readOp] at e
    by_cases hk : k = 1
    · subst hk
      rw [if_pos rfl] at e
      by_cases h8 : l2.length < 8
      · exact op_num_none h h8
      · rw [if_neg h8] at e; simp at e
    · rw [if_neg hk] at e
      cases l2 with
      | nil => exact op_two h hk
      | cons c l3 => simp at e
end Go.Proofs.YtehkjbpgibdgpadGreatDoor
namespace Go.Proofs.YtehkjbpgibdgpadGreatDoor
open Go.RowKit

theorem infoDeed : (Tryz.prog.info? 85).map (fun i => (i.zero, i.size, i.bytes)) = some (some (.slice none 0 0), 1, 24) := by kernel_rfl
theorem infoOp : (Tryz.prog.info? 121).map (fun i => (i.zero, i.size, i.bytes)) = some (some (.agg #[.int .i64 0, .int .i64 0, .int .i64 0, .int .i64 0, .int .i64 0]), 5, 40) := by kernel_rfl

theorem makeDeed (n : Nat) (hn : n < 256) : ∃ cs : Array Value, cs.size = n * 5 ∧ ∀ w, (Instr.makeSlice 85 (.int .u8 (n : Int)) (.int .u8 (n : Int))).run Tryz.prog w = .ok (.slice (some ⟨w.heap.size, 0, none⟩) n n) (w.alloc (.cells cs 121)) := by
  obtain ⟨i, hi, hz, hs, hb⟩ := info_parts infoOp
  refine ⟨madeCells (Value.agg #[.int .i64 0, .int .i64 0, .int .i64 0, .int .i64 0, .int .i64 0]).cells (n * i.size), ?_, fun w => ?_⟩
  · rw [size_madeCells, hs]
  · have := run_make (P := Tryz.prog) w 85 121 i _ Tryz.underlying85 hi hz .u8 .u8 n n (by omega) (Int.le_refl _) (by rw [hb]; omega) (by omega)
    simp only [Int.toNat_natCast] at this
    exact this
theorem makeRound (n : Nat) (hn : n < 256) : ∃ cs : Array Value, cs.size = n ∧ ∀ w, (Instr.makeSlice 37 (.int .u8 (n : Int)) (.int .u8 (n : Int))).run Tryz.prog w = .ok (.slice (some ⟨w.heap.size, 0, none⟩) n n) (w.alloc (.cells cs 85)) := by
  obtain ⟨i, hi, hz, hs, hb⟩ := info_parts infoDeed
  refine ⟨madeCells (Value.slice none 0 0).cells (n * i.size), ?_, fun w => ?_⟩
  · rw [size_madeCells, hs, Nat.mul_one]
  · have := run_make (P := Tryz.prog) w 37 85 i _ Tryz.underlying37 hi hz .u8 .u8 n n (by omega) (Int.le_refl _) (by rw [hb]; omega) (by omega)
    simp only [Int.toNat_natCast] at this
    exact this

/-- A row of n operations whose first ones are laid. -/
structure PartAt (w : World) (g n : Nat) (os : List Op5) : Prop where
  have_ : ∀ i, i < n * 5 → ∃ u, w.cell? ⟨g, i, none⟩ = some u
  fr : ∀ o, w.frozen? ⟨g, o, none⟩ = false
  lt : g < w.heap.size
  cell : ∀ i (h : i < os.length), w.cell? ⟨g, i * 5, none⟩ = some (.int .i64 os[i].k) ∧ w.cell? ⟨g, i * 5 + 1, none⟩ = some (.int .i64 os[i].a) ∧ w.cell? ⟨g, i * 5 + 2, none⟩ = some (.int .i64 os[i].b) ∧ w.cell? ⟨g, i * 5 + 3, none⟩ = some (.int .i64 os[i].c) ∧ w.cell? ⟨g, i * 5 + 4, none⟩ = some (.int .i64 os[i].n)
theorem PartAt.grew {S : Nat → Prop} {w w' : World} {g n : Nat} {os : List Op5} (h : PartAt w g n os) (hg : Grew S w w') (hn : ¬ S g) : PartAt w' g n os :=
  ⟨fun i hi => by obtain ⟨u, hu⟩ := h.have_ i hi; exact ⟨u, hg.cell hu hn⟩, fun o => by rw [hg.frozen (p := ⟨g, o, none⟩) h.lt hn]; exact h.fr o, Nat.lt_of_lt_of_le h.lt hg.size, fun i hi => by
    obtain ⟨c0, c1, c2, c3, c4⟩ := h.cell i hi
    exact ⟨hg.cell c0 hn, hg.cell c1 hn, hg.cell c2 hn, hg.cell c3 hn, hg.cell c4 hn⟩⟩
theorem set_have {w : World} {g i m : Nat} {u : Value} (x : Value) (h : w.cell? ⟨g, i, none⟩ = some u) : ∃ u, (w.setCell ⟨g, m, none⟩ x).cell? ⟨g, i, none⟩ = some u := by
  by_cases e : i = m
  · subst e; exact ⟨x, World.cell?_setCell_same _ _ _ h⟩
  · exact ⟨u, by rw [cell_apart' _ e]; exact h⟩
theorem PartAt.put {w : World} {g n : Nat} {os : List Op5} (h : PartAt w g n os) (hlt : os.length < n) (o : Op5) : PartAt (((((w.setCell ⟨g, os.length * 5, none⟩ (.int .i64 o.k)).setCell ⟨g, os.length * 5 + 1, none⟩ (.int .i64 o.a)).setCell ⟨g, os.length * 5 + 2, none⟩ (.int .i64 o.b)).setCell ⟨g, os.length * 5 + 3, none⟩ (.int .i64 o.c)).setCell ⟨g, os.length * 5 + 4, none⟩ (.int .i64 o.n)) g n (os ++ [o]) := by
  obtain ⟨u0, h0⟩ := h.have_ (os.length * 5) (by omega)
  obtain ⟨u1, h1⟩ := h.have_ (os.length * 5 + 1) (by omega)
  obtain ⟨u2, h2⟩ := h.have_ (os.length * 5 + 2) (by omega)
  obtain ⟨u3, h3⟩ := h.have_ (os.length * 5 + 3) (by omega)
  obtain ⟨u4, h4⟩ := h.have_ (os.length * 5 + 4) (by omega)
  refine ⟨fun i hi => ?_, fun o => by simp only [World.frozen?_setCell]; exact h.fr o, ?_, fun i hi => ?_⟩
  · obtain ⟨u, hu⟩ := h.have_ i hi
    obtain ⟨u, hu⟩ := set_have (m := os.length * 5) (.int .i64 o.k) hu
    obtain ⟨u, hu⟩ := set_have (m := os.length * 5 + 1) (.int .i64 o.a) hu
    obtain ⟨u, hu⟩ := set_have (m := os.length * 5 + 2) (.int .i64 o.b) hu
    obtain ⟨u, hu⟩ := set_have (m := os.length * 5 + 3) (.int .i64 o.c) hu
    exact set_have (m := os.length * 5 + 4) (.int .i64 o.n) hu
  · simp only [World.setCell, Array.size_modify]; exact h.lt
  · by_cases hi' : i < os.length
    · rw [List.getElem_append_left hi']
      obtain ⟨c0, c1, c2, c3, c4⟩ := h.cell i hi'
      refine ⟨?_, ?_, ?_, ?_, ?_⟩
      all_goals rw [cell_apart' _ (by omega), cell_apart' _ (by omega), cell_apart' _ (by omega), cell_apart' _ (by omega), cell_apart' _ (by omega)]
      all_goals assumption
    · obtain rfl : i = os.length := by simp at hi; omega
      rw [List.getElem_append_right (Nat.le_refl _)]
      simp only [Nat.sub_self, List.getElem_cons_zero]
      refine ⟨?_, ?_, ?_, ?_, ?_⟩
      · rw [cell_apart' _ (by omega), cell_apart' _ (by omega), cell_apart' _ (by omega), cell_apart' _ (by omega)]
        exact World.cell?_setCell_same _ _ _ h0
      · rw [cell_apart' _ (by omega), cell_apart' _ (by omega), cell_apart' _ (by omega)]
        exact World.cell?_setCell_same _ _ _ (by rw [cell_apart' _ (by omega)]; exact h1)
      · rw [cell_apart' _ (by omega), cell_apart' _ (by omega)]
        exact World.cell?_setCell_same _ _ _ (by rw [cell_apart' _ (by omega), cell_apart' _ (by omega)]; exact h2)
      · rw [cell_apart' _ (by omega)]
        exact World.cell?_setCell_same _ _ _ (by rw [cell_apart' _ (by omega), cell_apart' _ (by omega), cell_apart' _ (by omega)]; exact h3)
      · exact World.cell?_setCell_same _ _ _ (by rw [cell_apart' _ (by omega), cell_apart' _ (by omega), cell_apart' _ (by omega), cell_apart' _ (by omega)]; exact h4)
theorem part_new (w : World) (cs : Array Value) (n : Nat) (t : TypeId) (hcs : cs.size = n * 5) : PartAt (w.alloc (.cells cs t)) w.heap.size n [] := by
  have hg := heap_alloc_new w (.cells cs t)
  refine ⟨fun i hi => ⟨cs[i]'(by omega), ?_⟩, fun o => by go_simp, by simp, fun i hi => by simp at hi⟩
  rw [cell_of_row _ _ i cs t (0, 0) hg]
  simp [show i < cs.size by omega]
theorem PartAt.deed {w : World} {g : Nat} {os : List Op5} (P : Nat → Prop) (hP : P g) (h : PartAt w g os.length os) : DeedIn P w (.slice (some ⟨g, 0, none⟩) os.length os.length) os :=
  ⟨_, _, rfl, fun i hi => ⟨g, 0, hP, rfl, by simpa using h.cell i hi⟩⟩

theorem grew_at5 {C : Nat} {w W : World} (h : Grew (fun b => b = C) w W) {b : Nat} (hb : w.heap.size ≤ b) (o0 o1 o2 o3 o4 : Nat) (x0 x1 x2 x3 x4 : Value) : Grew (fun b => b = C) w (((((W.setCell ⟨b, o0, none⟩ x0).setCell ⟨b, o1, none⟩ x1).setCell ⟨b, o2, none⟩ x2).setCell ⟨b, o3, none⟩ x3).setCell ⟨b, o4, none⟩ x4) := grew_one (grew_one (grew_one (grew_one (grew_one h hb o0 x0) hb o1 x1) hb o2 x2) hb o3 x3) hb o4 x4
theorem read_at5 {w : World} {N C g : Nat} {l : List Int} (h : ReadAt w N C l) (hg : C < g) (o0 o1 o2 o3 o4 : Nat) (x0 x1 x2 x3 x4 : Value) : ReadAt (((((w.setCell ⟨g, o0, none⟩ x0).setCell ⟨g, o1, none⟩ x1).setCell ⟨g, o2, none⟩ x2).setCell ⟨g, o3, none⟩ x3).setCell ⟨g, o4, none⟩ x4) N C l := ((((h.apart hg o0 x0).apart hg o1 x1).apart hg o2 x2).apart hg o3 x3).apart hg o4 x4

set_option maxRecDepth 100000 in
set_option maxHeartbeats 1000000 in
theorem deed_some {N C : Nat} {l l' : List Int} {d : List Op5} {w : World} (h : ReadAt w N C l) (e : readDeed l = some (d, l')) :
    Calls Tryz.prog 179 #[.pointer (some ⟨C, 0, none⟩)] w fun e w' => (∃ dv, e = .returned dv ∧ DeedIn (fun b => w.heap.size ≤ b) w' dv d) ∧ ReadAt w' N C l' ∧ Grew (fun b => b = C) w w' := by
  cases l with
  | nil => simp [readDeed] at e
  | cons x l =>
    have hx := h.all.head
    unfold IsB at hx
    obtain ⟨n, rfl⟩ := Int.eq_ofNat_of_zero_le hx.1
    simp only [readDeed, Int.toNat_natCast] at e
    obtain ⟨cs, hcs, hm⟩ := makeDeed n (by omega)
    have hlt := h.lt
    have hd : d.length = n := (opsB_readOps h.all.tail e).1
    go_enter Tryz.func179, Tryz.ntmps179
    go_wp2_with fail
    refine (next_some h).mono ?_
    rintro e w1 ⟨rfl, hR1, hG1, hS1⟩
    go_wp2_with fail
    have hP0 := part_new w1 cs n 121 hcs
    have hG0 : Grew (fun b => b = C) w (w1.alloc (.cells cs 121)) := hG1.trans (grew_new _ _ _)
    have hR0 := hR1.alloc (.cells cs 121)
    rw [hS1] at hP0
    generalize w1.alloc (.cells cs 121) = W0 at *
    clear hR1 hG1 hS1 w1 hm hcs h
    go_loopg [10] n (fun g i wr => ∃ os d' rest, d = os ++ d' ∧ g = n - os.length ∧ i = .int .i64 (os.length : Int) ∧ Hid (readOps d'.length rest = some (d', l')) ∧ ReadAt wr N C rest ∧ Grew (fun b => b = C) w wr ∧ PartAt wr w.heap.size n os)
    case atStart => exact ⟨[], d, l, rfl, by simp, rfl, by rw [hd]; exact e, hR0, hG0, hP0⟩
    case round =>
      obtain ⟨os, d', rest, hdd, hg, rfl, hr, hR, hG, hP⟩ := hrel
      clear hR0 hG0 hP0 e
      have hlen : os.length + d'.length = n := by rw [← hd, hdd, List.length_append]
      cases d' with
      | nil =>
        have hr' := hr.out
        simp only [List.length_nil, readOps, Option.some.injEq, Prod.mk.injEq, true_and] at hr'
        subst hr'
        simp only [List.append_nil] at hdd
        simp only [List.length_nil, Nat.add_zero] at hlen
        subst hdd
        have hlt' : ¬ ((d.length : Int) < (n : Int)) := by omega
        clear hr
        go_wp2_with fail
        go_ret
        refine ⟨⟨_, rfl, ?_⟩, hR, hG⟩
        rw [← hlen] at hP ⊢
        exact hP.deed _ (Nat.le_refl _)
      | cons o d' =>
        have hr' := hr.out
        simp only [List.length_cons, readOps] at hr' hlen
        clear hr
        cases h1 : readOp rest with
        | none => rw [h1] at hr'; simp at hr'
        | some y =>
          obtain ⟨o1, rest1⟩ := y
          rw [h1] at hr'
          simp only at hr'
          cases h2 : readOps d'.length rest1 with
          | none => rw [h2] at hr'; simp at hr'
          | some z =>
            obtain ⟨d2, l2⟩ := z
            rw [h2] at hr'
            simp only [Option.some.injEq, Prod.mk.injEq, List.cons.injEq] at hr'
            obtain ⟨⟨rfl, rfl⟩, rfl⟩ := hr'
            have hlt' : ((os.length : Int) < (n : Int)) := by omega
            have H2 : Hid (readOps d2.length rest1 = some (d2, l2)) := h2
            clear h2
            go_wp2_with fail
            refine (op_some hR h1).mono ?_
            rintro e w2 ⟨rfl, hR2, hG2⟩
            have hP2 := hP.grew hG2 (by omega)
            have hG' := hG.trans hG2
            clear hR hG hP hG2 h1
            have hPP := hP2.put (by omega) o1
            obtain ⟨u0, q0⟩ := hP2.have_ (os.length * 5) (by omega)
            obtain ⟨u1, q1⟩ := hP2.have_ (os.length * 5 + 1) (by omega)
            obtain ⟨u2, q2⟩ := hP2.have_ (os.length * 5 + 2) (by omega)
            obtain ⟨u3, q3⟩ := hP2.have_ (os.length * 5 + 3) (by omega)
            obtain ⟨u4, q4⟩ := hP2.have_ (os.length * 5 + 4) (by omega)
            have q5 := hP2.fr
            clear hP2
            unfold opV
            go_wp2_with fail
            go_roundg (n - (os.length + 1))
            case measure => omega
            case rel => exact ⟨os ++ [o1], d2, rest1, by rw [hdd, List.append_assoc]; rfl, by simp, by simp, H2, read_at5 hR2 (by omega) _ _ _ _ _ _ _ _ _ _, grew_at5 hG' (Nat.le_refl _) _ _ _ _ _ _ _ _ _ _, hPP⟩

set_option maxRecDepth 100000 in
set_option maxHeartbeats 1000000 in
theorem deed_none {N C : Nat} {l : List Int} {w : World} (h : ReadAt w N C l) (e : readDeed l = none) :
    Calls Tryz.prog 179 #[.pointer (some ⟨C, 0, none⟩)] w fun e w' => e = .panicked gave ∧ Grew (fun b => b = C) w w' := by
  cases l with
  | nil =>
    go_enter Tryz.func179, Tryz.ntmps179
    go_wp2_with fail
    refine (next_none h).mono ?_
    rintro e w1 ⟨rfl, rfl⟩
    exact ⟨rfl, rfl, Grew.refl _ _⟩
  | cons x l =>
    have hx := h.all.head
    unfold IsB at hx
    obtain ⟨n, rfl⟩ := Int.eq_ofNat_of_zero_le hx.1
    simp only [readDeed, Int.toNat_natCast] at e
    obtain ⟨cs, hcs, hm⟩ := makeDeed n (by omega)
    have hlt := h.lt
    go_enter Tryz.func179, Tryz.ntmps179
    go_wp2_with fail
    refine (next_some h).mono ?_
    rintro e w1 ⟨rfl, hR1, hG1, hS1⟩
    go_wp2_with fail
    have hP0 := part_new w1 cs n 121 hcs
    have hG0 : Grew (fun b => b = C) w (w1.alloc (.cells cs 121)) := hG1.trans (grew_new _ _ _)
    have hR0 := hR1.alloc (.cells cs 121)
    rw [hS1] at hP0
    generalize w1.alloc (.cells cs 121) = W0 at *
    clear hR1 hG1 hS1 w1 hm hcs h
    go_loopg [10] n (fun g i wr => ∃ os rest, os.length ≤ n ∧ g = n - os.length ∧ i = .int .i64 (os.length : Int) ∧ Hid (readOps (n - os.length) rest = none) ∧ ReadAt wr N C rest ∧ Grew (fun b => b = C) w wr ∧ PartAt wr w.heap.size n os)
    case atStart => exact ⟨[], l, by simp, by simp, rfl, e, hR0, hG0, hP0⟩
    case round =>
      obtain ⟨os, rest, hlen, hg, rfl, hr, hR, hG, hP⟩ := hrel
      clear hR0 hG0 hP0 e
      have hr' := hr.out
      clear hr
      obtain ⟨m, hm⟩ : ∃ m, n - os.length = m := ⟨_, rfl⟩
      rw [hm] at hr'
      cases m with
      | zero => simp [readOps] at hr'
      | succ m =>
        simp only [readOps] at hr'
        have hlt' : ((os.length : Int) < (n : Int)) := by omega
        cases h1 : readOp rest with
        | none =>
          go_wp2_with fail
          refine (op_none hR h1).mono ?_
          rintro e w2 ⟨rfl, hG2⟩
          exact ⟨rfl, rfl, hG.trans hG2⟩
        | some y =>
          obtain ⟨o1, rest1⟩ := y
          rw [h1] at hr'
          simp only at hr'
          cases h2 : readOps m rest1 with
          | some z => rw [h2] at hr'; simp at hr'
          | none =>
            have H2 : Hid (readOps m rest1 = none) := h2
            clear h2 hr'
            go_wp2_with fail
            refine (op_some hR h1).mono ?_
            rintro e w2 ⟨rfl, hR2, hG2⟩
            have hP2 := hP.grew hG2 (by omega)
            have hG' := hG.trans hG2
            clear hR hG hP hG2 h1
            have hPP := hP2.put (by omega) o1
            obtain ⟨u0, q0⟩ := hP2.have_ (os.length * 5) (by omega)
            obtain ⟨u1, q1⟩ := hP2.have_ (os.length * 5 + 1) (by omega)
            obtain ⟨u2, q2⟩ := hP2.have_ (os.length * 5 + 2) (by omega)
            obtain ⟨u3, q3⟩ := hP2.have_ (os.length * 5 + 3) (by omega)
            obtain ⟨u4, q4⟩ := hP2.have_ (os.length * 5 + 4) (by omega)
            have q5 := hP2.fr
            clear hP2
            unfold opV
            go_wp2_with fail
            go_roundg (n - (os.length + 1))
            case measure => omega
            case rel => exact ⟨os ++ [o1], rest1, by simp; omega, by simp, by simp, by rw [List.length_append, show n - (os.length + [o1].length) = m by simp; omega]; exact H2, read_at5 hR2 (by omega) _ _ _ _ _ _ _ _ _ _, grew_at5 hG' (Nat.le_refl _) _ _ _ _ _ _ _ _ _ _, hPP⟩
end Go.Proofs.YtehkjbpgibdgpadGreatDoor
namespace Go.Proofs.YtehkjbpgibdgpadGreatDoor
open Go.RowKit

/-- A row of n deeds whose first ones are laid. -/
structure RPart (w : World) (g n : Nat) (ds : List (List Op5)) : Prop where
  have_ : ∀ i, i < n → ∃ u, w.cell? ⟨g, i, none⟩ = some u
  fr : ∀ o, w.frozen? ⟨g, o, none⟩ = false
  lt : g < w.heap.size
  cell : ∀ i (h : i < ds.length), ∃ dv, w.cell? ⟨g, i, none⟩ = some dv ∧ DeedIn (fun b => g < b) w dv ds[i]
theorem RPart.grew {C : Nat} {w w' : World} {g n : Nat} {ds : List (List Op5)} (h : RPart w g n ds) (hg : Grew (fun b => b = C) w w') (hn : C < g) : RPart w' g n ds :=
  ⟨fun i hi => by obtain ⟨u, hu⟩ := h.have_ i hi; exact ⟨u, hg.cell hu (fun e => by have e' : g = C := e; omega)⟩, fun o => by rw [hg.frozen (p := ⟨g, o, none⟩) h.lt (fun e => by have e' : g = C := e; omega)]; exact h.fr o, Nat.lt_of_lt_of_le h.lt hg.size, fun i hi => by
    obtain ⟨dv, h0, h1⟩ := h.cell i hi
    exact ⟨dv, hg.cell h0 (fun e => by have e' : g = C := e; omega), h1.grew hg (fun b hb e => by omega)⟩⟩
theorem RPart.put {w : World} {g n : Nat} {ds : List (List Op5)} (h : RPart w g n ds) (hlt : ds.length < n) {dv : Value} {d : List Op5} (hd : DeedIn (fun b => g < b) w dv d) : RPart (w.setCell ⟨g, ds.length, none⟩ dv) g n (ds ++ [d]) := by
  obtain ⟨u0, h0⟩ := h.have_ ds.length hlt
  refine ⟨fun i hi => ?_, fun o => by simp only [World.frozen?_setCell]; exact h.fr o, ?_, fun i hi => ?_⟩
  · obtain ⟨u, hu⟩ := h.have_ i hi
    exact set_have _ hu
  · simp only [World.setCell, Array.size_modify]; exact h.lt
  · by_cases hi' : i < ds.length
    · rw [List.getElem_append_left hi']
      obtain ⟨dv', h1, h2⟩ := h.cell i hi'
      exact ⟨dv', by rw [cell_apart' _ (by omega)]; exact h1, h2.grew (grew_cellC _ _ _ _) (fun b hb e => by omega)⟩
    · obtain rfl : i = ds.length := by simp at hi; omega
      rw [List.getElem_append_right (Nat.le_refl _)]
      simp only [Nat.sub_self, List.getElem_cons_zero]
      exact ⟨dv, World.cell?_setCell_same _ _ _ h0, hd.grew (grew_cellC _ _ _ _) (fun b hb e => by omega)⟩
theorem rpart_new (w : World) (cs : Array Value) (n : Nat) (t : TypeId) (hcs : cs.size = n) : RPart (w.alloc (.cells cs t)) w.heap.size n [] := by
  have hg := heap_alloc_new w (.cells cs t)
  refine ⟨fun i hi => ⟨cs[i]'(by omega), ?_⟩, fun o => by go_simp, by simp, fun i hi => by simp at hi⟩
  rw [cell_of_row _ _ i cs t (0, 0) hg]
  simp [show i < cs.size by omega]
/-- A round in blocks of which something is known. -/
def RoundIn (P : Nat → Prop) (w : World) (v : Value) (r : List (List Op5)) : Prop :=
  ∃ a cap, v = .slice a r.length cap ∧ ∀ i (h : i < r.length), ∃ b off, P b ∧ a = some ⟨b, off, none⟩ ∧ ∃ dv, w.cell? ⟨b, off + i, none⟩ = some dv ∧ DeedIn P w dv r[i]
theorem RoundIn.at {P : Nat → Prop} {w : World} {v : Value} {r : List (List Op5)} (h : RoundIn P w v r) : RoundAt w v r := by
  obtain ⟨a, cap, rfl, h⟩ := h
  refine ⟨a, cap, rfl, fun i hi => ?_⟩
  obtain ⟨b, off, -, e, dv, h0, h1⟩ := h i hi
  exact ⟨b, off, e, dv, h0, h1.at⟩
theorem RoundIn.grew {P S : Nat → Prop} {w w' : World} {v : Value} {r : List (List Op5)} (h : RoundIn P w v r) (hg : Grew S w w') (hPS : ∀ b, P b → ¬ S b) : RoundIn P w' v r := by
  obtain ⟨a, cap, rfl, h⟩ := h
  refine ⟨a, cap, rfl, fun i hi => ?_⟩
  obtain ⟨b, off, hp, e, dv, h0, h1⟩ := h i hi
  exact ⟨b, off, hp, e, dv, hg.cell h0 (hPS b hp), h1.grew hg hPS⟩
theorem RPart.round {w : World} {g : Nat} {ds : List (List Op5)} (h : RPart w g ds.length ds) : RoundIn (fun b => g ≤ b) w (.slice (some ⟨g, 0, none⟩) ds.length ds.length) ds :=
  ⟨_, _, rfl, fun i hi => ⟨g, 0, Nat.le_refl _, rfl, by obtain ⟨dv, h0, h1⟩ := h.cell i hi; exact ⟨dv, by simpa using h0, h1.mono fun b _ hb => Nat.le_of_lt hb⟩⟩⟩

set_option maxRecDepth 100000 in
set_option maxHeartbeats 1000000 in
theorem round_some {N C : Nat} {l l' : List Int} {d : List (List Op5)} {w : World} (h : ReadAt w N C l) (e : readRound l = some (d, l')) :
    Calls Tryz.prog 165 #[.pointer (some ⟨C, 0, none⟩)] w fun e w' => (∃ dv, e = .returned dv ∧ RoundIn (fun b => w.heap.size ≤ b) w' dv d) ∧ ReadAt w' N C l' ∧ Grew (fun b => b = C) w w' := by
  cases l with
  | nil => simp [readRound] at e
  | cons x l =>
    have hx := h.all.head
    unfold IsB at hx
    obtain ⟨n, rfl⟩ := Int.eq_ofNat_of_zero_le hx.1
    simp only [readRound, Int.toNat_natCast] at e
    obtain ⟨cs, hcs, hm⟩ := makeRound n (by omega)
    have hlt := h.lt
    have hd : d.length = n := (deedsB_readDeeds h.all.tail e).1
    go_enter Tryz.func165, Tryz.ntmps165
    go_wp2_with fail
    refine (next_some h).mono ?_
    rintro e w1 ⟨rfl, hR1, hG1, hS1⟩
    go_wp2_with fail
    have hP0 := rpart_new w1 cs n 85 hcs
    have hG0 : Grew (fun b => b = C) w (w1.alloc (.cells cs 85)) := hG1.trans (grew_new _ _ _)
    have hR0 := hR1.alloc (.cells cs 85)
    rw [hS1] at hP0
    generalize w1.alloc (.cells cs 85) = W0 at *
    clear hR1 hG1 hS1 w1 hm hcs h
    go_loopg [10] n (fun g i wr => ∃ os d' rest, d = os ++ d' ∧ g = n - os.length ∧ i = .int .i64 (os.length : Int) ∧ Hid (readDeeds d'.length rest = some (d', l')) ∧ ReadAt wr N C rest ∧ Grew (fun b => b = C) w wr ∧ RPart wr w.heap.size n os)
    case atStart => exact ⟨[], d, l, rfl, by simp, rfl, by rw [hd]; exact e, hR0, hG0, hP0⟩
    case round =>
      obtain ⟨os, d', rest, hdd, hg, rfl, hr, hR, hG, hP⟩ := hrel
      clear hR0 hG0 hP0 e
      have hlen : os.length + d'.length = n := by rw [← hd, hdd, List.length_append]
      cases d' with
      | nil =>
        have hr' := hr.out
        simp only [List.length_nil, readDeeds, Option.some.injEq, Prod.mk.injEq, true_and] at hr'
        subst hr'
        simp only [List.append_nil] at hdd
        simp only [List.length_nil, Nat.add_zero] at hlen
        subst hdd
        have hlt' : ¬ ((d.length : Int) < (n : Int)) := by omega
        clear hr
        go_wp2_with fail
        go_ret
        refine ⟨⟨_, rfl, ?_⟩, hR, hG⟩
        rw [← hlen] at hP ⊢
        exact hP.round
      | cons o d' =>
        have hr' := hr.out
        simp only [List.length_cons, readDeeds] at hr' hlen
        clear hr
        cases h1 : readDeed rest with
        | none => rw [h1] at hr'; simp at hr'
        | some y =>
          obtain ⟨o1, rest1⟩ := y
          rw [h1] at hr'
          simp only at hr'
          cases h2 : readDeeds d'.length rest1 with
          | none => rw [h2] at hr'; simp at hr'
          | some z =>
            obtain ⟨d2, l2⟩ := z
            rw [h2] at hr'
            simp only [Option.some.injEq, Prod.mk.injEq, List.cons.injEq] at hr'
            obtain ⟨⟨rfl, rfl⟩, rfl⟩ := hr'
            have hlt' : ((os.length : Int) < (n : Int)) := by omega
            have H2 : Hid (readDeeds d2.length rest1 = some (d2, l2)) := h2
            clear h2
            go_wp2_with fail
            refine (deed_some hR h1).mono ?_
            rintro e w2 ⟨⟨dv, rfl, hD2⟩, hR2, hG2⟩
            have hP2 := hP.grew hG2 (by omega)
            have hG0' := hP.lt
            have hG' := hG.trans hG2
            clear hR hG hP hG2 h1
            have hPP := hP2.put (by omega) (hD2.mono fun b _ hb => by have := hG0'; omega)
            obtain ⟨u0, q0⟩ := hP2.have_ os.length (by omega)
            have q5 := hP2.fr
            clear hP2
            obtain ⟨da, dcap, rfl, -⟩ := hD2
            go_wp2_with fail
            go_roundg (n - (os.length + 1))
            case measure => omega
            case rel => exact ⟨os ++ [o1], d2, rest1, by rw [hdd, List.append_assoc]; rfl, by simp, by simp, H2, hR2.apart (by omega) _ _, grew_one hG' (Nat.le_refl _) _ _, hPP⟩

set_option maxRecDepth 100000 in
set_option maxHeartbeats 1000000 in
theorem round_none {N C : Nat} {l : List Int} {w : World} (h : ReadAt w N C l) (e : readRound l = none) :
    Calls Tryz.prog 165 #[.pointer (some ⟨C, 0, none⟩)] w fun e w' => e = .panicked gave ∧ Grew (fun b => b = C) w w' := by
  cases l with
  | nil =>
    go_enter Tryz.func165, Tryz.ntmps165
    go_wp2_with fail
    refine (next_none h).mono ?_
    rintro e w1 ⟨rfl, rfl⟩
    exact ⟨rfl, rfl, Grew.refl _ _⟩
  | cons x l =>
    have hx := h.all.head
    unfold IsB at hx
    obtain ⟨n, rfl⟩ := Int.eq_ofNat_of_zero_le hx.1
    simp only [readRound, Int.toNat_natCast] at e
    obtain ⟨cs, hcs, hm⟩ := makeRound n (by omega)
    have hlt := h.lt
    go_enter Tryz.func165, Tryz.ntmps165
    go_wp2_with fail
    refine (next_some h).mono ?_
    rintro e w1 ⟨rfl, hR1, hG1, hS1⟩
    go_wp2_with fail
    have hP0 := rpart_new w1 cs n 85 hcs
    have hG0 : Grew (fun b => b = C) w (w1.alloc (.cells cs 85)) := hG1.trans (grew_new _ _ _)
    have hR0 := hR1.alloc (.cells cs 85)
    rw [hS1] at hP0
    generalize w1.alloc (.cells cs 85) = W0 at *
    clear hR1 hG1 hS1 w1 hm hcs h
    go_loopg [10] n (fun g i wr => ∃ os rest, os.length ≤ n ∧ g = n - os.length ∧ i = .int .i64 (os.length : Int) ∧ Hid (readDeeds (n - os.length) rest = none) ∧ ReadAt wr N C rest ∧ Grew (fun b => b = C) w wr ∧ RPart wr w.heap.size n os)
    case atStart => exact ⟨[], l, by simp, by simp, rfl, e, hR0, hG0, hP0⟩
    case round =>
      obtain ⟨os, rest, hlen, hg, rfl, hr, hR, hG, hP⟩ := hrel
      clear hR0 hG0 hP0 e
      have hr' := hr.out
      clear hr
      obtain ⟨m, hm⟩ : ∃ m, n - os.length = m := ⟨_, rfl⟩
      rw [hm] at hr'
      cases m with
      | zero => simp [readDeeds] at hr'
      | succ m =>
        simp only [readDeeds] at hr'
        have hlt' : ((os.length : Int) < (n : Int)) := by omega
        cases h1 : readDeed rest with
        | none =>
          go_wp2_with fail
          refine (deed_none hR h1).mono ?_
          rintro e w2 ⟨rfl, hG2⟩
          exact ⟨rfl, rfl, hG.trans hG2⟩
        | some y =>
          obtain ⟨o1, rest1⟩ := y
          rw [h1] at hr'
          simp only at hr'
          cases h2 : readDeeds m rest1 with
          | some z => rw [h2] at hr'; simp at hr'
          | none =>
            have H2 : Hid (readDeeds m rest1 = none) := h2
            clear h2 hr'
            go_wp2_with fail
            refine (deed_some hR h1).mono ?_
            rintro e w2 ⟨⟨dv, rfl, hD2⟩, hR2, hG2⟩
            have hP2 := hP.grew hG2 (by omega)
            have hG0' := hP.lt
            have hG' := hG.trans hG2
            clear hR hG hP hG2 h1
            have hPP := hP2.put (by omega) (hD2.mono fun b _ hb => by have := hG0'; omega)
            obtain ⟨u0, q0⟩ := hP2.have_ os.length (by omega)
            have q5 := hP2.fr
            clear hP2
            obtain ⟨da, dcap, rfl, -⟩ := hD2
            go_wp2_with fail
            go_roundg (n - (os.length + 1))
            case measure => omega
            case rel => exact ⟨os ++ [o1], rest1, by simp; omega, by simp, by simp, by rw [List.length_append, show n - (os.length + [o1].length) = m by simp; omega]; exact H2, hR2.apart (by omega) _ _, grew_one hG' (Nat.le_refl _) _ _, hPP⟩
end Go.Proofs.YtehkjbpgibdgpadGreatDoor
