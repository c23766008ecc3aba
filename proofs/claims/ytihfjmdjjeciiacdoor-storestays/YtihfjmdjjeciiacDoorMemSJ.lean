/-
  A log of the reference (rounds, of which so many are made sure of), as it lies in memory.
-/
import Derived.Test.YtihfjmdjjeciiacDoorOwnLJ
import Derived.ArgAppend
namespace Go.Proofs.YtihfjmdjjeciiacDoor
open Go.RowKit

theorem RoundIn.mono {P Q : Nat → Prop} {w : World} {v : Value} {r : List (List Op5)} (h : RoundIn P w v r) (hPQ : ∀ b, b < w.heap.size → P b → Q b) : RoundIn Q w v r := by
  obtain ⟨a, cap, rfl, h⟩ := h
  refine ⟨a, cap, rfl, fun i hi => ?_⟩
  obtain ⟨b, off, hp, e, dv, h0, h1⟩ := h i hi
  exact ⟨b, off, hPQ b (World.block_lt_of_cell? w _ h0) hp, e, dv, h0, h1.mono hPQ⟩
theorem RoundIn.later {P : Nat → Prop} {w w' : World} {v : Value} {r : List (List Op5)} (h : RoundIn P w v r) (hb : Below w.heap.size w w') : RoundIn P w' v r := h.grew (S := fun _ => False) (Grew.of_below hb) (fun _ _ h => h)

theorem infoRoundL : (Tryd.prog.info? 23).map (fun i => (i.zero, i.size, i.bytes)) = some (some (.slice none 0 0), 1, 24) := by kernel_rfl

/-- A row of values that may be read, and onto which one more may be appended: of the call's own, or full. -/
def RowL (w : World) (v : Value) (xs : List Value) : Prop :=
  w.ownsRow 0 23 1 v xs.length xs ∨ ∃ g, v = .slice (some ⟨g, 0, none⟩) xs.length xs.length ∧ g < w.heap.size ∧ ∀ j u, xs[j]? = some u → w.cell? ⟨g, j, none⟩ = some u
theorem RowL.slice {w : World} {v : Value} {xs : List Value} (h : RowL w v xs) : ∃ a cap, v = .slice a xs.length cap ∧ xs.length ≤ cap := by
  rcases h with h | ⟨g, rfl, -⟩
  · exact owns_slice h
  · exact ⟨_, _, rfl, Nat.le_refl _⟩
theorem RowL.lt {w : World} {v : Value} {xs : List Value} (h : RowL w v xs) {g : Nat} (hg : v.ownBlock = some g) : g < w.heap.size := by
  rcases h with h | ⟨g', rfl, hlt, -⟩
  · exact (owns_lt h hg).2
  · cases hg; exact hlt
theorem RowL.cells {w : World} {v : Value} {xs : List Value} (h : RowL w v xs) (h0 : 0 < xs.length) : ∃ g cap, v = .slice (some ⟨g, 0, none⟩) xs.length cap ∧ ∀ j u, xs[j]? = some u → w.cell? ⟨g, j, none⟩ = some u := by
  rcases h with h | ⟨g', rfl, -, hc⟩
  · exact owns_cells h h0
  · exact ⟨g', _, rfl, hc⟩
theorem RowL.kept {w w' : World} {v : Value} {xs : List Value} (h : RowL w v xs) (hs : w.heap.size ≤ w'.heap.size) (hb : ∀ g, v.ownBlock = some g → w'.heap[g]? = w.heap[g]?) : RowL w' v xs := by
  rcases h with h | ⟨g', rfl, hlt, hc⟩
  · exact .inl (owns_kept h hb)
  · exact .inr ⟨g', rfl, by omega, fun j u hj => by rw [World.cell?_of_block (w := w) (hb g' rfl)]; exact hc j u hj⟩
theorem RowL.cut {w : World} {a : Option Addr} {n cap : Nat} {xs : List Value} (hn : xs.length = n) (h : RowL w (.slice a n cap) xs) {m : Nat} (hm : m ≤ n) : RowL w (.slice a m m) (xs.take m) := by
  have e : (xs.take m).length = m := by simp; omega
  rcases h with h | ⟨g', e', hlt, hc⟩
  · rw [hn] at h
    rcases h.2 with ⟨e1, rfl⟩ | ⟨g, cap', cur, e1, hb, hg, -⟩
    · cases e1
      obtain rfl : m = 0 := by omega
      exact .inl ⟨by simp, .inl ⟨rfl, by simp⟩⟩
    · cases e1
      refine .inr ⟨g, by rw [e], (owns_lt h rfl).2, fun j u hj => ?_⟩
      have hj' : xs[j]? = some u := by
        rw [List.getElem?_take] at hj
        split at hj
        · exact hj
        · cases hj
      have := World.ownsRow.cells h (g := g) rfl j u hj'
      rw [addr_add, Nat.zero_add] at this
      exact this
  · cases e'
    refine .inr ⟨g', by rw [e], hlt, fun j u hj => ?_⟩
    have hj' : xs[j]? = some u := by
      rw [List.getElem?_take] at hj
      split at hj
      · exact hj
      · cases hj
    exact hc j u hj'

/-- append of one value onto such a row. -/
theorem run_append_rowL (w : World) (ty : TypeId) {v x : Value} {xs : List Value} (h : RowL w v xs) (hx : x.oneCell' = true) (b c : Nat) (hb : w.cell? ⟨b, 0, none⟩ = some x) (hlen : xs.length ≤ 1000) :
    ∃ v' w', (Builtin.append_ #[37, 37] ty #[v, .slice (some ⟨b, 0, none⟩) 1 c]).run Tryd.prog w = .ok v' w' ∧ w'.ownsRow 0 23 1 v' (xs.length + 1) (xs ++ [x]) ∧ w.grownBy w' v.ownBlock ∧ (v'.ownBlock = v.ownBlock ∨ v'.ownBlock = some w.heap.size) := by
  obtain ⟨i1, hi1, hz0, hz1, hz2⟩ := info_parts infoRoundL
  have hnews : ∀ j u, ([x] : List Value)[j]? = some u → w.cell? ((⟨b, 0, none⟩ : Addr).add j) = some u := fun j u hj => by
    cases j with
    | zero => simp only [List.getElem?_cons_zero, Option.some.injEq] at hj; subst hj; rw [addr_add]; exact hb
    | succ j => simp at hj
  have h1 : ∀ u ∈ [x], u.oneCell' = true := fun u hu => by simp at hu; subst hu; exact hx
  rcases h with h | ⟨g, rfl, hlt, hc⟩
  · obtain ⟨v', w', hr, h2, h3, -, h5⟩ := run_append_own_at (P := Tryd.prog) w 0 37 ty 23 i1 _ 1 24 Tryd.underlying37 hi1 hz0 hz1 hz2 rfl (by decide) v _ _ h ⟨b, 0, none⟩ 1 c [x] rfl hnews h1 (by unfold maxLen; omega) (by omega) (Nat.zero_le _)
    exact ⟨v', w', hr, h2, h3, h5⟩
  · obtain ⟨v', w', hr, h2, h3⟩ := run_append_arg_grows (P := Tryd.prog) w 37 ty 23 i1 _ 1 24 Tryd.underlying37 hi1 hz0 hz1 hz2 rfl (by decide) ⟨g, 0, none⟩ xs.length xs.length xs (by omega) (fun j u hj => by rw [addr_add, Nat.zero_add]; exact hc j u hj) ⟨b, 0, none⟩ 1 c [x] rfl hnews (by omega) (by unfold maxLen; omega) (by omega)
    have ho : v'.ownBlock = some w.heap.size := by
      rcases h2.2 with ⟨-, e0⟩ | ⟨g', cap', cur, rfl, hb', hg', -⟩
      · omega
      · have hr' := run_append_grow (P := Tryd.prog) w 37 ty 23 i1 _ Tryd.underlying37 hi1 hz0 ⟨g, 0, none⟩ xs.length xs.length xs (by rw [hz1]; omega) (fun j u hj => by rw [addr_add, Nat.zero_add]; exact hc j u hj) ⟨b, 0, none⟩ 1 c [x] (by rw [hz1]; rfl) hnews (by omega) (by omega) (growslice_fits (by omega) (by rw [hz2]; omega))
        rw [hr'] at hr
        simp only [Result.ok.injEq, Value.slice.injEq, Option.some.injEq, Addr.mk.injEq] at hr
        show some g' = _
        rw [← hr.1.1.1]
    refine ⟨v', w', hr, ?_, ⟨h3.os, h3.tape, h3.output, h3.size, fun k hk _ => h3.block k hk (by simp)⟩, .inr ho⟩
    refine ⟨h2.1, ?_⟩
    rcases h2.2 with h | ⟨g', cap', cur, e1, -, e2⟩
    · exact .inl h
    · exact .inr ⟨g', cap', cur, e1, Nat.zero_le _, e2⟩
theorem wpList_append_rowL {w : World} {ops : Array Oper} {rest : List Oper} {o : Oper} {a : Act} {Q : Exit → Act → World → Prop} (hgd : o.guard = none) (s y : Operand)
    (hop : o.op = .call { callee := .builtin .append, args := #[s, y], argTypes := #[37, 37] }) {v x : Value} {xs : List Value} (hs : a.eval s = v) (h : RowL w v xs) (hx : x.oneCell' = true) (b c : Nat) (hy : a.eval y = .slice (some ⟨b, 0, none⟩) 1 c) (hb : w.cell? ⟨b, 0, none⟩ = some x) (hlen : xs.length ≤ 1000)
    (hk : ∀ v' w', w'.ownsRow 0 23 1 v' (xs.length + 1) (xs ++ [x]) → w.grownBy w' v.ownBlock → (v'.ownBlock = v.ownBlock ∨ v'.ownBlock = some w.heap.size) → wpList Tryd.prog ops Q rest (a.put o.dst v') w') : wpList Tryd.prog ops Q (o :: rest) a w := by
  refine wpList_plain hgd fun K hK => ?_
  obtain ⟨v', w', hrun, r1, r2, r3⟩ := run_append_rowL w o.type h hx b c hb hlen
  unfold Oper.wp
  simp [execOp, hop, resolve, invoke, builtin, hs, hy, hrun, Result.andThen]
  exact hK _ _ (hk v' w' r1 r2 r3)

/-- What lies in its block. -/
structure ScRaw (Q : Nat → Prop) (w : World) (D : Nat) (l : List (List (List Op5))) (s : Int) (vl : Value) (xs : List Value) : Prop where
  c0 : w.cell? ⟨D, 0, none⟩ = some vl
  c1 : w.cell? ⟨D, 1, none⟩ = some (.int .i64 s)
  fr : ∀ o, w.frozen? ⟨D, o, none⟩ = false
  len : xs.length = l.length
  row : RowL w vl xs
  qD : Q D
  ql : ∀ g, vl.ownBlock = some g → Q g ∧ g ≠ D
  rd : ∀ i (h : i < l.length), ∃ rv, xs[i]? = some rv ∧ RoundIn (fun b => Q b ∧ b ≠ D ∧ vl.ownBlock ≠ some b) w rv l[i]
theorem ScRaw.lt {Q : Nat → Prop} {w : World} {D : Nat} {l : List (List (List Op5))} {s : Int} {vl : Value} {xs : List Value} (h : ScRaw Q w D l s vl xs) : D < w.heap.size := World.block_lt_of_cell? w _ h.c0
theorem ScRaw.grew {Q S : Nat → Prop} {w w' : World} {D : Nat} {l : List (List (List Op5))} {s : Int} {vl : Value} {xs : List Value} (h : ScRaw Q w D l s vl xs) (hg : Grew S w w') (hS : ∀ b, Q b → ¬ S b) : ScRaw Q w' D l s vl xs :=
  ⟨hg.cell h.c0 (hS D h.qD), hg.cell h.c1 (hS D h.qD), fun o => by rw [hg.frozen (p := ⟨D, o, none⟩) h.lt (hS D h.qD)]; exact h.fr o, h.len,
    h.row.kept hg.size fun g hb => hg.block g (h.row.lt hb) (hS g (h.ql g hb).1), h.qD, h.ql, fun i hi => by
      obtain ⟨rv, h1, h2⟩ := h.rd i hi
      exact ⟨rv, h1, h2.grew hg fun b hb => hS b hb.1⟩⟩
theorem ScRaw.later {Q : Nat → Prop} {w w' : World} {D : Nat} {l : List (List (List Op5))} {s : Int} {vl : Value} {xs : List Value} (h : ScRaw Q w D l s vl xs) (hb : Below w.heap.size w w') : ScRaw Q w' D l s vl xs := h.grew (S := fun _ => False) (Grew.of_below hb) (fun _ _ h => h)
theorem ScRaw.mono {P Q : Nat → Prop} {w : World} {D : Nat} {l : List (List (List Op5))} {s : Int} {vl : Value} {xs : List Value} (h : ScRaw P w D l s vl xs) (hPQ : ∀ b, b < w.heap.size → P b → Q b) : ScRaw Q w D l s vl xs :=
  ⟨h.c0, h.c1, h.fr, h.len, h.row, hPQ D h.lt h.qD, fun g hg => ⟨hPQ g (h.row.lt hg) (h.ql g hg).1, (h.ql g hg).2⟩, fun i hi => by
      obtain ⟨rv, h1, h2⟩ := h.rd i hi
      exact ⟨rv, h1, h2.mono fun b hb hp => ⟨hPQ b hb hp.1, hp.2⟩⟩⟩
theorem ScRaw.sure {Q : Nat → Prop} {w : World} {D : Nat} {l : List (List (List Op5))} {s : Int} {vl : Value} {xs : List Value} (h : ScRaw Q w D l s vl xs) (s' : Int) : ScRaw Q (w.setCell ⟨D, 1, none⟩ (.int .i64 s')) D l s' vl xs :=
  ⟨by rw [cell_apart' _ (by omega)]; exact h.c0, cell_set _ h.c1, fun o => by rw [World.frozen?_setCell]; exact h.fr o, h.len,
    h.row.kept (by simp [World.setCell]) fun g hg => Below.heap_setCell _ _ _ _ (h.ql g hg).2, h.qD, h.ql, fun i hi => by
      obtain ⟨rv, h1, h2⟩ := h.rd i hi
      exact ⟨rv, h1, h2.grew (grew_cellC w D 1 _) fun b hb e => hb.2.1 e⟩⟩
theorem ScRaw.cut {Q : Nat → Prop} {w : World} {D : Nat} {l : List (List (List Op5))} {s : Int} {a : Option Addr} {cap : Nat} {xs : List Value} (h : ScRaw Q w D l s (.slice a l.length cap) xs) {n : Nat} (hn : n ≤ l.length) : ScRaw Q (w.setCell ⟨D, 0, none⟩ (.slice a n n)) D (l.take n) s (.slice a n n) (xs.take n) := by
  have hb : (Value.slice a n n).ownBlock = (Value.slice a l.length cap).ownBlock := by cases a <;> rfl
  refine ⟨cell_set _ h.c0, by rw [cell_apart' _ (by omega)]; exact h.c1, fun o => by rw [World.frozen?_setCell]; exact h.fr o, by have := h.len; simp; omega,
    (h.row.cut h.len hn).kept (by simp [World.setCell]) fun g hg => Below.heap_setCell _ _ _ _ (h.ql g (by rw [← hb]; exact hg)).2, h.qD, fun g hg => h.ql g (by rw [← hb]; exact hg), fun i hi => ?_⟩
  have hi' : i < n := by simp at hi; omega
  obtain ⟨rv, h1, h2⟩ := h.rd i (by omega)
  refine ⟨rv, by rw [List.getElem?_take, if_pos hi']; exact h1, ?_⟩
  rw [List.getElem_take, hb]
  exact h2.grew (grew_cellC w D 0 _) fun b hb e => hb.2.1 e
/-- One round more, in memory beside. -/
theorem ScRaw.put {Q : Nat → Prop} {w w' : World} {D : Nat} {l : List (List (List Op5))} {s : Int} {vl v x : Value} {xs : List Value} {r : List (List Op5)} (h : ScRaw Q w D l s vl xs) (hg : w.grownBy w' vl.ownBlock) (ho : w'.ownsRow 0 23 1 v (xs.length + 1) (xs ++ [x])) (hat : v.ownBlock = vl.ownBlock ∨ v.ownBlock = some w.heap.size) {M : Nat} (hx : RoundIn (fun b => M ≤ b ∧ b < w.heap.size ∧ b ≠ D ∧ vl.ownBlock ≠ some b) w x r) :
    ScRaw (fun b => Q b ∨ M ≤ b ∨ w.heap.size ≤ b) (w'.setCell ⟨D, 0, none⟩ v) D (l ++ [r]) s v (xs ++ [x]) := by
  have hlt := h.lt
  have hG : Grew (fun b => vl.ownBlock = some b) w w' := ⟨hg.os, hg.tape, hg.output, hg.size, fun k hk hn => hg.block k hk (fun e => hn e.symm)⟩
  have hD : ¬ vl.ownBlock = some D := fun e => (h.ql D e).2 rfl
  have hvD : ∀ g, v.ownBlock = some g → (Q g ∨ M ≤ g ∨ w.heap.size ≤ g) ∧ g ≠ D := fun g hg => by
    rcases hat with e | e
    · rw [e] at hg; exact ⟨.inl (h.ql g hg).1, (h.ql g hg).2⟩
    · rw [e] at hg; cases hg; exact ⟨.inr (.inr (Nat.le_refl _)), by omega⟩
  have hne : ∀ b, b < w.heap.size → vl.ownBlock ≠ some b → v.ownBlock ≠ some b := fun b hb hn => by
    rcases hat with e | e
    · rw [e]; exact hn
    · rw [e]; intro e'; have := Option.some.inj e'; omega
  refine ⟨cell_set v (hG.cell h.c0 hD), by rw [cell_apart' _ (by omega)]; exact hG.cell h.c1 hD, fun o => by rw [World.frozen?_setCell, hG.frozen (p := ⟨D, o, none⟩) hlt hD]; exact h.fr o, by simp [h.len],
    .inl (by rw [List.length_append]; exact owns_set ho (fun g hg => (hvD g hg).2) _ _), .inl h.qD, hvD, fun i hi => ?_⟩
  by_cases hi' : i < l.length
  · obtain ⟨rv, h1, h2⟩ := h.rd i hi'
    refine ⟨rv, by rw [List.getElem?_append_left (by rw [h.len]; exact hi')]; exact h1, ?_⟩
    rw [List.getElem_append_left hi']
    have h3 := h2.mono (Q := fun b => (Q b ∧ b ≠ D ∧ vl.ownBlock ≠ some b) ∧ b < w.heap.size) fun b hb hp => ⟨hp, hb⟩
    refine ((h3.grew hG fun b hb e => hb.1.2.2 e).grew (grew_cellC w' D 0 _) fun b hb e => hb.1.2.1 e).mono fun b _ hb => ⟨.inl hb.1.1, hb.1.2.1, hne b hb.2 hb.1.2.2⟩
  · obtain rfl : i = l.length := by simp at hi; omega
    refine ⟨x, by rw [← h.len]; simp, ?_⟩
    rw [List.getElem_append_right (Nat.le_refl _)]
    simp only [Nat.sub_self, List.getElem_cons_zero]
    refine ((hx.grew hG fun b hb e => hb.2.2.2 e).grew (grew_cellC w' D 0 _) fun b hb e => hb.2.2.1 e).mono fun b _ hb => ⟨.inr (.inl hb.1), hb.2.2.1, hne b hb.2.1 hb.2.2.2⟩
theorem ScRaw.get {Q : Nat → Prop} {w : World} {D : Nat} {l : List (List (List Op5))} {s : Int} {vl : Value} {xs : List Value} (h : ScRaw Q w D l s vl xs) {i : Nat} (hi : i < l.length) : ∃ g cap rv, vl = .slice (some ⟨g, 0, none⟩) l.length cap ∧ w.cell? ⟨g, i, none⟩ = some rv ∧ RoundAt w rv l[i] := by
  obtain ⟨g, cap, rfl, hc⟩ := h.row.cells (by have := h.len; omega)
  obtain ⟨rv, h1, h2⟩ := h.rd i hi
  exact ⟨g, cap, rv, by rw [h.len], hc i rv h1, h2.at⟩

/-- A log of the reference. -/
def ScAt (Q : Nat → Prop) (w : World) (D : Nat) (l : List (List (List Op5))) (k : Nat) : Prop := LogOk l k ∧ ∃ vl xs, ScRaw Q w D l k vl xs
theorem ScAt.grew {Q S : Nat → Prop} {w w' : World} {D : Nat} {l : List (List (List Op5))} {k : Nat} (h : ScAt Q w D l k) (hg : Grew S w w') (hS : ∀ b, Q b → ¬ S b) : ScAt Q w' D l k := by
  obtain ⟨ho, vl, xs, h⟩ := h
  exact ⟨ho, vl, xs, h.grew hg hS⟩
theorem ScAt.later {Q : Nat → Prop} {w w' : World} {D : Nat} {l : List (List (List Op5))} {k : Nat} (h : ScAt Q w D l k) (hb : Below w.heap.size w w') : ScAt Q w' D l k := h.grew (S := fun _ => False) (Grew.of_below hb) (fun _ _ h => h)
theorem ScAt.mono {P Q : Nat → Prop} {w : World} {D : Nat} {l : List (List (List Op5))} {k : Nat} (h : ScAt P w D l k) (hPQ : ∀ b, b < w.heap.size → P b → Q b) : ScAt Q w D l k := by
  obtain ⟨ho, vl, xs, h⟩ := h
  exact ⟨ho, vl, xs, h.mono hPQ⟩
end Go.Proofs.YtihfjmdjjeciiacDoor
