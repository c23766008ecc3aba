/-
  What '==' says of two states that are the same, and of two results that are. Rows of results as they lie in memory; the walk of the reference's SameResults. A row of results, and a store, as they lie in memory.
-/
import Derived.Test.YtehkjbpgibdgpadGreatDoorJqWa
import Derived.ChangeKeysEq
import Derived.Test.YtehkjbpgibdgpadGreatDoorJqRn
import Derived.Deep.RegionHeld3
import Derived.Test.YtehkjbpgibdgpadGreatDoorMatQJ
namespace Go.Proofs.YtehkjbpgibdgpadGreatDoor
open Go.RowKit

theorem info2 : (Tryz.prog.info? 2).map (fun i => (i.zero, i.size, i.bytes)) = some (some (.int .i64 0), 1, 8) := by kernel_rfl
theorem cells2 : Tryz.prog.cellsOf 2 = 1 := by kernel_rfl

theorem part2 (xs : Array Value) (j : Nat) (v : Int) (w : World) (h : xs[j]? = some (.int .i64 v)) : (part 2 xs (j * 1)).run Tryz.prog w = .ok (.int .i64 v) w := by
  simp [part, go_sem, h]

theorem eqItems_same (d : Nat) (xs : Array Value) (w : World) : ∀ is : List Nat, (∀ j ∈ is, ∃ v, xs[j]? = some (.int .i64 v)) → (Op.eqItems (d + 1) 2 1 xs xs is).run Tryz.prog w = .ok true w
  | [], _ => by simp [Op.eqItems]
  | j :: is, h => by
    obtain ⟨v, hv⟩ := h j (by simp)
    have hi := run_equalIn_int (P := Tryz.prog) w d 2 .i64 .i64 v v Tryz.underlying2
    simp only [Op.eqItems, Sem.run_bind, part2 xs j v _ hv, Result.andThen_ok, hi, beq_self_eq_true, Bool.not_true, Bool.false_eq_true, if_false]
    exact eqItems_same d xs w is (fun k hk => h k (by simp [hk]))

set_option maxHeartbeats 400000 in
theorem eq38 (x : Nat → Int) (w : World) : (Op.equalIn 10000 32 (.agg #[.int .i64 (x 0), .int .i64 (x 1), .int .i64 (x 2), .int .i64 (x 3), .int .i64 (x 4), .int .i64 (x 5), .int .i64 (x 6), .int .i64 (x 7), .int .i64 (x 8), .int .i64 (x 9)]) (.agg #[.int .i64 (x 0), .int .i64 (x 1), .int .i64 (x 2), .int .i64 (x 3), .int .i64 (x 4), .int .i64 (x 5), .int .i64 (x 6), .int .i64 (x 7), .int .i64 (x 8), .int .i64 (x 9)])).run Tryz.prog w = .ok true w := by
  obtain ⟨i, hi, -⟩ := info_parts info2
  rw [run_equalIn_array w 9999 _ _ Tryz.underlying32 hi, cells2]
  refine eqItems_same 9998 _ w _ (fun j hj => ?_)
  have hj' : j < 10 := by simpa using hj
  exact lt10 (P := fun j => ∃ v, (#[Value.int .i64 (x 0), .int .i64 (x 1), .int .i64 (x 2), .int .i64 (x 3), .int .i64 (x 4), .int .i64 (x 5), .int .i64 (x 6), .int .i64 (x 7), .int .i64 (x 8), .int .i64 (x 9)])[j]? = some (.int .i64 v)) ⟨_, rfl⟩ ⟨_, rfl⟩ ⟨_, rfl⟩ ⟨_, rfl⟩ ⟨_, rfl⟩ ⟨_, rfl⟩ ⟨_, rfl⟩ ⟨_, rfl⟩ ⟨_, rfl⟩ ⟨_, rfl⟩ j hj'

theorem eq41 (d : Nat) (x0 x1 x2 x3 : Int) (w : World) : (Op.equalIn (d + 2) 100 (.agg #[.int .i64 x0, .int .i64 x1, .int .i64 x2, .int .i64 x3]) (.agg #[.int .i64 x0, .int .i64 x1, .int .i64 x2, .int .i64 x3])).run Tryz.prog w = .ok true w := by
  obtain ⟨i, hi, -⟩ := info_parts info2
  rw [run_equalIn_array w (d + 1) _ _ Tryz.underlying100 hi, cells2]
  refine eqItems_same d _ w _ (fun j hj => ?_)
  have hj' : j < 4 := by simpa using hj
  exact lt4 (P := fun j => ∃ v, (#[Value.int .i64 x0, .int .i64 x1, .int .i64 x2, .int .i64 x3])[j]? = some (.int .i64 v)) ⟨_, rfl⟩ ⟨_, rfl⟩ ⟨_, rfl⟩ ⟨_, rfl⟩ j hj'

set_option maxHeartbeats 400000 in
theorem eq43 (c x0 x1 x2 x3 : Int) (w : World) : (Op.equalIn 10000 102 (.agg #[.int .i64 c, .int .i64 x0, .int .i64 x1, .int .i64 x2, .int .i64 x3]) (.agg #[.int .i64 c, .int .i64 x0, .int .i64 x1, .int .i64 x2, .int .i64 x3])).run Tryz.prog w = .ok true w := by
  have hS : Tryz.prog.underlying 102 = some (.struct (Tryz.prog.fieldsOf 102)) := by kernel_rfl
  have h41 := eq41 9997 x0 x1 x2 x3
  rw [show (10000 : Nat) = 9999 + 1 from rfl, run_equalIn_agg w 9999 102 _ _ hS (by kernel_rfl)]
  simp only [Program.fieldsOf, Tryz.underlying102]
  go_simp
end Go.Proofs.YtehkjbpgibdgpadGreatDoor
namespace Go.Proofs.YtehkjbpgibdgpadGreatDoor
open Go.RowKit Go.Shelf

/-- Codes and registers, cell by cell. -/
def rowC (co : Nat → Int) (re : Nat → Nat → Int) : Nat → List Value
  | 0 => []
  | n + 1 => rowC co re n ++ [.int .i64 (co n), .int .i64 (re n 0), .int .i64 (re n 1), .int .i64 (re n 2), .int .i64 (re n 3)]
theorem rowC_res (X : Nat → Wk) : ∀ n, resW X n = rowC (fun i => resC (X i)) (fun i => resG (X i)) n
  | 0 => rfl
  | n + 1 => by simp only [resW, rowC, rowC_res X n]
theorem rowC_out (s : Nat → Int) (r : List (List Op5)) : ∀ n, outCells s r n = rowC (fun i => (outAt s r i).code) (fun i => (outAt s r i).regs) n
  | 0 => rfl
  | n + 1 => by simp only [outCells, rowC, rowC_out s r n]
theorem rowC_length (co : Nat → Int) (re : Nat → Nat → Int) (n : Nat) : (rowC co re n).length = n * 5 := by
  induction n with
  | zero => rfl
  | succ n ih => simp only [rowC, List.length_append, ih, List.length_cons, List.length_nil]; omega
theorem rowC_at (co : Nat → Int) (re : Nat → Nat → Int) : ∀ n i, i < n → (rowC co re n)[i * 5]? = some (.int .i64 (co i)) ∧ (rowC co re n)[i * 5 + 1]? = some (.int .i64 (re i 0)) ∧ (rowC co re n)[i * 5 + 2]? = some (.int .i64 (re i 1)) ∧ (rowC co re n)[i * 5 + 3]? = some (.int .i64 (re i 2)) ∧ (rowC co re n)[i * 5 + 4]? = some (.int .i64 (re i 3))
  | 0, i, h => absurd h (by omega)
  | n + 1, i, h => by
    have hl := rowC_length co re n
    simp only [rowC]
    by_cases e : i = n
    · subst e
      refine ⟨?_, ?_, ?_, ?_, ?_⟩
      · rw [List.getElem?_append_right (by omega), hl, show i * 5 - i * 5 = 0 by omega]; rfl
      · rw [List.getElem?_append_right (by omega), hl, show i * 5 + 1 - i * 5 = 1 by omega]; rfl
      · rw [List.getElem?_append_right (by omega), hl, show i * 5 + 2 - i * 5 = 2 by omega]; rfl
      · rw [List.getElem?_append_right (by omega), hl, show i * 5 + 3 - i * 5 = 3 by omega]; rfl
      · rw [List.getElem?_append_right (by omega), hl, show i * 5 + 4 - i * 5 = 4 by omega]; rfl
    · obtain ⟨h0, h1, h2, h3, h4⟩ := rowC_at co re n i (by omega)
      rw [List.getElem?_append_left (by omega), List.getElem?_append_left (by omega), List.getElem?_append_left (by omega), List.getElem?_append_left (by omega), List.getElem?_append_left (by omega)]
      exact ⟨h0, h1, h2, h3, h4⟩

/-- A row of results in a block. -/
structure ResRow (w : World) (g n : Nat) (co : Nat → Int) (re : Nat → Nat → Int) : Prop where
  at' : ∀ i, i < n → w.cell? ⟨g, i * 5, none⟩ = some (.int .i64 (co i)) ∧ w.cell? ⟨g, i * 5 + 1, none⟩ = some (.int .i64 (re i 0)) ∧ w.cell? ⟨g, i * 5 + 2, none⟩ = some (.int .i64 (re i 1)) ∧ w.cell? ⟨g, i * 5 + 3, none⟩ = some (.int .i64 (re i 2)) ∧ w.cell? ⟨g, i * 5 + 4, none⟩ = some (.int .i64 (re i 3))
theorem ResRow.later {w w' : World} {g n : Nat} {co : Nat → Int} {re : Nat → Nat → Int} (h : ResRow w g n co re) (hb : Below w.heap.size w w') : ResRow w' g n co re := ⟨fun i hi => by
  obtain ⟨h0, h1, h2, h3, h4⟩ := h.at' i hi
  exact ⟨cell_later hb h0, cell_later hb h1, cell_later hb h2, cell_later hb h3, cell_later hb h4⟩⟩
theorem ResRow.grew {S : Nat → Prop} {w w' : World} {g n : Nat} {co : Nat → Int} {re : Nat → Nat → Int} (h : ResRow w g n co re) (hg : Grew S w w') (hn : ¬ S g) : ResRow w' g n co re := ⟨fun i hi => by
  obtain ⟨h0, h1, h2, h3, h4⟩ := h.at' i hi
  exact ⟨hg.cell h0 hn, hg.cell h1 hn, hg.cell h2 hn, hg.cell h3 hn, hg.cell h4 hn⟩⟩
theorem ResRow.congr {w : World} {g n : Nat} {co co' : Nat → Int} {re re' : Nat → Nat → Int} (h : ResRow w g n co re) (hc : ∀ i, i < n → co i = co' i) (hr : ∀ i, i < n → ∀ j, re i j = re' i j) : ResRow w g n co' re' := ⟨fun i hi => by
  rw [← hc i hi, ← hr i hi, ← hr i hi, ← hr i hi, ← hr i hi]; exact h.at' i hi⟩
theorem resRow_of_owns {w : World} {base g n : Nat} {e : TypeId} {co : Nat → Int} {re : Nat → Nat → Int} (h : w.ownsRow base e 5 (.slice (some ⟨g, 0, none⟩) n n) n (rowC co re n)) : ResRow w g n co re := ⟨fun i hi => by
  obtain ⟨h0, h1, h2, h3, h4⟩ := rowC_at co re n i hi
  rw [h.cellAt _ (by omega), h.cellAt _ (by omega), h.cellAt _ (by omega), h.cellAt _ (by omega), h.cellAt _ (by omega)]
  exact ⟨h0, h1, h2, h3, h4⟩⟩

theorem Box.range {w : World} {A : Nat} {s : Nat → Int} (h : Box w A s) : w.rangeAt A 0 [.int .i64 (s 0), .int .i64 (s 1), .int .i64 (s 2), .int .i64 (s 3), .int .i64 (s 4), .int .i64 (s 5), .int .i64 (s 6), .int .i64 (s 7), .int .i64 (s 8), .int .i64 (s 9)] := fun j v hv => by
  have hj : j < 10 := by have := (List.getElem?_eq_some_iff.1 hv).1; simpa using this
  rw [Nat.zero_add, h j hj]
  exact (lt10 (P := fun j => [Value.int .i64 (s 0), .int .i64 (s 1), .int .i64 (s 2), .int .i64 (s 3), .int .i64 (s 4), .int .i64 (s 5), .int .i64 (s 6), .int .i64 (s 7), .int .i64 (s 8), .int .i64 (s 9)][j]? = some (.int .i64 (s j))) rfl rfl rfl rfl rfl rfl rfl rfl rfl rfl j hj).symm.trans hv


end Go.Proofs.YtehkjbpgibdgpadGreatDoor
namespace Go.Proofs.YtehkjbpgibdgpadGreatDoor
open Go.RowKit Go.Shelf

/-- A row of results, in a block of which something is known. -/
def ResIn (P : Nat → Prop) (w : World) (v : Value) (n : Nat) (co : Nat → Int) (re : Nat → Nat → Int) : Prop :=
  ∃ a c, v = .slice a n c ∧ n ≤ c ∧ (0 < n → ∃ g, a = some ⟨g, 0, none⟩ ∧ P g ∧ ResRow w g n co re)
theorem resRow_lt {w : World} {g n : Nat} {co : Nat → Int} {re : Nat → Nat → Int} (h : ResRow w g n co re) (hn : 0 < n) : g < w.heap.size := World.block_lt_of_cell? w _ (h.at' 0 hn).1
theorem ResIn.mono {P Q : Nat → Prop} {w : World} {v : Value} {n : Nat} {co : Nat → Int} {re : Nat → Nat → Int} (h : ResIn P w v n co re) (hPQ : ∀ b, b < w.heap.size → v.ownBlock = some b → P b → Q b) : ResIn Q w v n co re := by
  obtain ⟨a, c, rfl, hc, h⟩ := h
  refine ⟨a, c, rfl, hc, fun hn => ?_⟩
  obtain ⟨g, rfl, hp, hr⟩ := h hn
  exact ⟨g, rfl, hPQ g (resRow_lt hr hn) rfl hp, hr⟩
theorem ResIn.grew {P S : Nat → Prop} {w w' : World} {v : Value} {n : Nat} {co : Nat → Int} {re : Nat → Nat → Int} (h : ResIn P w v n co re) (hg : Grew S w w') (hS : ∀ b, v.ownBlock = some b → P b → ¬ S b) : ResIn P w' v n co re := by
  obtain ⟨a, c, rfl, hc, h⟩ := h
  refine ⟨a, c, rfl, hc, fun hn => ?_⟩
  obtain ⟨g, rfl, hp, hr⟩ := h hn
  exact ⟨g, rfl, hp, hr.grew hg (hS g rfl hp)⟩
theorem ResIn.later {P : Nat → Prop} {w w' : World} {v : Value} {n : Nat} {co : Nat → Int} {re : Nat → Nat → Int} (h : ResIn P w v n co re) (hb : Below w.heap.size w w') : ResIn P w' v n co re := h.grew (S := fun _ => False) (Grew.of_below hb) (fun _ _ _ h => h)


/-- What lies in a store's block: its log, how many rounds were done, the state, what the last one came to; in blocks of which something is known. -/
structure StRaw (P : Nat → Prop) (w : World) (S C : Nat) (l : List (List (List Op5))) (k m : Nat) (vl : Value) : Prop where
  log : LogAt (fun b => P b ∧ b ≠ S ∧ vl.ownBlock ≠ some b) w C l k
  c0 : w.cell? ⟨S, 0, none⟩ = some (.pointer (some ⟨C, 0, none⟩))
  c1 : w.cell? ⟨S, 1, none⟩ = some (.int .i64 (m : Int))
  st : ∀ i, i < 10 → w.cell? ⟨S, 2 + i, none⟩ = some (.int .i64 (stN l m i))
  c12 : w.cell? ⟨S, 12, none⟩ = some vl
  fr : ∀ o, w.frozen? ⟨S, o, none⟩ = false
  pS : P S
  la : ResIn (fun b => P b ∧ b ≠ S) w vl (lastR l m).length (lastC l m) (lastG l m)
  le : m ≤ k
  lv : ∀ b, vl.ownBlock = some b → b < w.heap.size
theorem StRaw.lt {P : Nat → Prop} {w : World} {S C : Nat} {l : List (List (List Op5))} {k m : Nat} {vl : Value} (h : StRaw P w S C l k m vl) : S < w.heap.size := World.block_lt_of_cell? w _ h.c0
theorem StRaw.grew {P T : Nat → Prop} {w w' : World} {S C : Nat} {l : List (List (List Op5))} {k m : Nat} {vl : Value} (h : StRaw P w S C l k m vl) (hg : Grew T w w') (hT : ∀ b, P b → ¬ T b) : StRaw P w' S C l k m vl :=
  ⟨h.log.grew hg fun b hb => hT b hb.1, hg.cell h.c0 (hT S h.pS), hg.cell h.c1 (hT S h.pS), fun i hi => hg.cell (h.st i hi) (hT S h.pS), hg.cell h.c12 (hT S h.pS),
    fun o => by rw [hg.frozen (p := ⟨S, o, none⟩) h.lt (hT S h.pS)]; exact h.fr o, h.pS, h.la.grew hg fun b _ hb => hT b hb.1, h.le, fun b e => Nat.lt_of_lt_of_le (h.lv b e) hg.size⟩
theorem StRaw.later {P : Nat → Prop} {w w' : World} {S C : Nat} {l : List (List (List Op5))} {k m : Nat} {vl : Value} (h : StRaw P w S C l k m vl) (hb : Below w.heap.size w w') : StRaw P w' S C l k m vl := h.grew (T := fun _ => False) (Grew.of_below hb) (fun _ _ h => h)
theorem StRaw.mono {P Q : Nat → Prop} {w : World} {S C : Nat} {l : List (List (List Op5))} {k m : Nat} {vl : Value} (h : StRaw P w S C l k m vl) (hPQ : ∀ b, b < w.heap.size → P b → Q b) : StRaw Q w S C l k m vl :=
  ⟨h.log.mono fun b hb hp => ⟨hPQ b hb hp.1, hp.2⟩, h.c0, h.c1, h.st, h.c12, h.fr, hPQ S h.lt h.pS, h.la.mono fun b hb _ hp => ⟨hPQ b hb hp.1, hp.2⟩, h.le, h.lv⟩
/-- The log has changed; what was done is in it still. -/
theorem StRaw.logged {P : Nat → Prop} {w w' : World} {S C : Nat} {l l' : List (List (List Op5))} {k k' m : Nat} {vl : Value} (h : StRaw P w S C l k m vl) (hg : Grew (fun b => P b ∧ b ≠ S ∧ vl.ownBlock ≠ some b) w w')
    (hl : LogAt (fun b => (P b ∧ b ≠ S ∧ vl.ownBlock ≠ some b) ∨ w.heap.size ≤ b) w' C l' k') (ha : Alike l' l m) (hk : m ≤ k') : StRaw (fun b => P b ∨ w.heap.size ≤ b) w' S C l' k' m vl := by
  have hlt := h.lt
  have hS : ¬ (P S ∧ S ≠ S ∧ vl.ownBlock ≠ some S) := fun e => e.2.1 rfl
  refine ⟨hl.mono fun b _ hb => ?_, hg.cell h.c0 hS, hg.cell h.c1 hS, fun i hi => by rw [ha.st]; exact hg.cell (h.st i hi) hS, hg.cell h.c12 hS, fun o => by rw [hg.frozen (p := ⟨S, o, none⟩) hlt hS]; exact h.fr o, .inl h.pS, ?_, hk, fun b e => Nat.lt_of_lt_of_le (h.lv b e) hg.size⟩
  · rcases hb with hb | hb
    · exact ⟨.inl hb.1, hb.2⟩
    · refine ⟨.inr hb, by omega, fun e => ?_⟩
      have := h.lv b e
      omega
  · rw [ha.lastR, ha.lastC, ha.lastG]
    exact (h.la.grew hg fun b e hb hT => hT.2.2 e).mono fun b _ _ hb => ⟨.inl hb.1, hb.2⟩
/-- A round more is done: the number, the state and what it came to are laid, the last in new memory. -/
theorem StRaw.done {P : Nat → Prop} {w w' : World} {S C : Nat} {l l' : List (List (List Op5))} {k k' m m' : Nat} {vl vn : Value} (h : StRaw P w S C l k m vl) (hb : Below w.heap.size w w') (hl : LogAt (fun b => P b ∧ b ≠ S ∧ vl.ownBlock ≠ some b) w C l' k')
    (hn : ResIn (fun b => w.heap.size ≤ b) w' vn (lastR l' m').length (lastC l' m') (lastG l' m')) (hv : ∀ b, vn.ownBlock = some b → w.heap.size ≤ b ∧ b < w'.heap.size) (hm : m' ≤ k') :
    StRaw (fun b => P b ∨ w.heap.size ≤ b) ((((((((((((w'.setCell ⟨S, 1, none⟩ (.int .i64 (m' : Int))).setCell ⟨S, 2, none⟩ (.int .i64 (stN l' m' 0))).setCell ⟨S, 3, none⟩ (.int .i64 (stN l' m' 1))).setCell ⟨S, 4, none⟩ (.int .i64 (stN l' m' 2))).setCell ⟨S, 5, none⟩ (.int .i64 (stN l' m' 3))).setCell ⟨S, 6, none⟩ (.int .i64 (stN l' m' 4))).setCell ⟨S, 7, none⟩ (.int .i64 (stN l' m' 5))).setCell ⟨S, 8, none⟩ (.int .i64 (stN l' m' 6))).setCell ⟨S, 9, none⟩ (.int .i64 (stN l' m' 7))).setCell ⟨S, 10, none⟩ (.int .i64 (stN l' m' 8))).setCell ⟨S, 11, none⟩ (.int .i64 (stN l' m' 9))).setCell ⟨S, 12, none⟩ vn) S C l' k' m' vn := by
  have hlt := h.lt
  obtain ⟨W, eW⟩ : ∃ W, W = (((((((((((w'.setCell ⟨S, 1, none⟩ (.int .i64 (m' : Int))).setCell ⟨S, 2, none⟩ (.int .i64 (stN l' m' 0))).setCell ⟨S, 3, none⟩ (.int .i64 (stN l' m' 1))).setCell ⟨S, 4, none⟩ (.int .i64 (stN l' m' 2))).setCell ⟨S, 5, none⟩ (.int .i64 (stN l' m' 3))).setCell ⟨S, 6, none⟩ (.int .i64 (stN l' m' 4))).setCell ⟨S, 7, none⟩ (.int .i64 (stN l' m' 5))).setCell ⟨S, 8, none⟩ (.int .i64 (stN l' m' 6))).setCell ⟨S, 9, none⟩ (.int .i64 (stN l' m' 7))).setCell ⟨S, 10, none⟩ (.int .i64 (stN l' m' 8))).setCell ⟨S, 11, none⟩ (.int .i64 (stN l' m' 9))).setCell ⟨S, 12, none⟩ vn := ⟨_, rfl⟩
  have hG : Grew (fun b => b = S) w' W := by
    rw [eW]
    exact ((((((((((((grew_cellC w' S 1 _).trans (grew_cellC _ S 2 _)).trans (grew_cellC _ S 3 _)).trans (grew_cellC _ S 4 _)).trans (grew_cellC _ S 5 _)).trans (grew_cellC _ S 6 _)).trans (grew_cellC _ S 7 _)).trans (grew_cellC _ S 8 _)).trans (grew_cellC _ S 9 _)).trans (grew_cellC _ S 10 _)).trans (grew_cellC _ S 11 _)).trans (grew_cellC _ S 12 _))
  have c0 := cell_later hb h.c0
  have c1 := cell_later hb h.c1
  have c12 := cell_later hb h.c12
  have hs := fun i hi => cell_later hb (h.st i hi)
  have fr : ∀ o, w'.frozen? ⟨S, o, none⟩ = false := fun o => by rw [hb.frozen (p := ⟨S, o, none⟩) hlt]; exact h.fr o
  have ten : ∀ i, i < 10 → W.cell? ⟨S, 2 + i, none⟩ = some (.int .i64 (stN l' m' i)) := by
    obtain ⟨z0, z1, z2, z3, z4, z5, z6, z7, z8, z9⟩ : w'.cell? ⟨S, 2, none⟩ = some (.int .i64 (stN l m 0)) ∧ w'.cell? ⟨S, 3, none⟩ = some (.int .i64 (stN l m 1)) ∧ w'.cell? ⟨S, 4, none⟩ = some (.int .i64 (stN l m 2)) ∧ w'.cell? ⟨S, 5, none⟩ = some (.int .i64 (stN l m 3)) ∧ w'.cell? ⟨S, 6, none⟩ = some (.int .i64 (stN l m 4)) ∧ w'.cell? ⟨S, 7, none⟩ = some (.int .i64 (stN l m 5)) ∧ w'.cell? ⟨S, 8, none⟩ = some (.int .i64 (stN l m 6)) ∧ w'.cell? ⟨S, 9, none⟩ = some (.int .i64 (stN l m 7)) ∧ w'.cell? ⟨S, 10, none⟩ = some (.int .i64 (stN l m 8)) ∧ w'.cell? ⟨S, 11, none⟩ = some (.int .i64 (stN l m 9)) :=
      ⟨hs 0 (by omega), hs 1 (by omega), hs 2 (by omega), hs 3 (by omega), hs 4 (by omega), hs 5 (by omega), hs 6 (by omega), hs 7 (by omega), hs 8 (by omega), hs 9 (by omega)⟩
    clear hs
    rw [eW]
    exact lt10 (by go_simp) (by go_simp) (by go_simp) (by go_simp) (by go_simp) (by go_simp) (by go_simp) (by go_simp) (by go_simp) (by go_simp)
  have d0 : W.cell? ⟨S, 0, none⟩ = some (.pointer (some ⟨C, 0, none⟩)) := by rw [eW]; go_simp
  have d1 : W.cell? ⟨S, 1, none⟩ = some (.int .i64 (m' : Int)) := by rw [eW]; go_simp
  have d12 : W.cell? ⟨S, 12, none⟩ = some vn := by rw [eW]; exact cell_set (x := vl) _ (by go_simp)
  have hfr : ∀ o, W.frozen? ⟨S, o, none⟩ = false := fun o => by rw [eW]; simp only [World.frozen?_setCell]; exact fr o
  rw [← eW]
  clear eW
  refine ⟨?_, d0, d1, ten, d12, hfr, .inl h.pS, ?_, hm, fun b e => Nat.lt_of_lt_of_le (hv b e).2 hG.size⟩
  · have h1 : LogAt (fun b => (P b ∧ b ≠ S) ∧ b < w.heap.size) w C l' k' := hl.mono fun b hb hp => ⟨⟨hp.1, hp.2.1⟩, hb⟩
    refine ((h1.later hb).grew hG fun b hb e => hb.1.2 e).mono fun b _ hb => ⟨.inl hb.1.1, hb.1.2, fun e => ?_⟩
    have := (hv b e).1
    omega
  · exact (hn.grew hG fun b _ hb e => by omega).mono fun b _ _ hb => ⟨.inr hb, by omega⟩

/-- A store of rounds, of which the first k are made sure of, the first m done. -/
def StAt (P : Nat → Prop) (w : World) (S : Nat) (l : List (List (List Op5))) (k m : Nat) : Prop := ∃ C vl, StRaw P w S C l k m vl
section
variable {P Q T : Nat → Prop} {w w' : World} {S : Nat} {l : List (List (List Op5))} {k m : Nat}
theorem StAt.grew (h : StAt P w S l k m) (hg : Grew T w w') (hT : ∀ b, P b → ¬ T b) : StAt P w' S l k m := by
  obtain ⟨C, vl, h⟩ := h
  exact ⟨C, vl, h.grew hg hT⟩
theorem StAt.later (h : StAt P w S l k m) (hb : Below w.heap.size w w') : StAt P w' S l k m := h.grew (T := fun _ => False) (Grew.of_below hb) (fun _ _ h => h)
theorem StAt.mono (h : StAt P w S l k m) (hPQ : ∀ b, b < w.heap.size → P b → Q b) : StAt Q w S l k m := by
  obtain ⟨C, vl, h⟩ := h
  exact ⟨C, vl, h.mono hPQ⟩
theorem StAt.ok (h : StAt P w S l k m) : LogOk l k := by
  obtain ⟨C, vl, h⟩ := h
  exact h.log.ok
theorem StAt.le (h : StAt P w S l k m) : m ≤ k := by
  obtain ⟨C, vl, h⟩ := h
  exact h.le
end
end Go.Proofs.YtehkjbpgibdgpadGreatDoor
