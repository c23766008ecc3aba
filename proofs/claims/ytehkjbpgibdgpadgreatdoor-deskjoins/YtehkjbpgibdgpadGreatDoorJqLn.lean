/-
  The walk of the reference's Own: a round in memory of its own, and where each deed of it lies. A log of the reference (rounds, of which so many are made sure of), as it lies in memory. The walks of codec.read, Decode and of a log's Round once more, at a round that is there: it lies in new memory.
-/
import Derived.Test.YtehkjbpgibdgpadGreatDoorJqLo
import Derived.Laws.OwnMore
import Derived.Maps.AppendAt
import Derived.ArgAppend
namespace Go.Proofs.YtehkjbpgibdgpadGreatDoor
open Go.RowKit

theorem infoDeedL : (Tryz.prog.info? 85).map (fun i => (i.zero, i.size, i.bytes)) = some (some (.slice none 0 0), 1, 24) := by kernel_rfl
theorem infoOpL : (Tryz.prog.info? 121).map (fun i => (i.zero, i.size, i.bytes)) = some (some (.agg #[.int .i64 0, .int .i64 0, .int .i64 0, .int .i64 0, .int .i64 0]), 5, 40) := by kernel_rfl
def putOL (D : Nat → Value) (n : Nat) (v : Value) (i : Nat) : Value := if i = n then v else D i

/-- A deed of the call's own, beside the row u, that may be written. -/
def DOwn (N : Nat) (u : Value) (w : World) (v : Value) (d : List Op5) : Prop :=
  DeedIn (fun g => N ≤ g ∧ u.ownBlock ≠ some g) w v d ∧ ∀ b off n c, v = .slice (some ⟨b, off, none⟩) n c → (N ≤ b ∧ u.ownBlock ≠ some b) ∧ b < w.heap.size ∧ ∀ o, w.frozen? ⟨b, o, none⟩ = false
theorem DOwn.grew {N : Nat} {u : Value} {w w' : World} {v : Value} {d : List Op5} (h : DOwn N u w v d) {S : Nat → Prop} (hg : Grew S w w') (hS : ∀ b, N ≤ b → u.ownBlock ≠ some b → ¬ S b) : DOwn N u w' v d :=
  ⟨h.1.grew hg fun b hb => hS b hb.1 hb.2, fun b off n c e => by
    obtain ⟨h1, h2, h3⟩ := h.2 b off n c e
    exact ⟨h1, Nat.lt_of_lt_of_le h2 hg.size, fun o => by rw [hg.frozen (p := ⟨b, o, none⟩) h2 (hS b h1.1 h1.2)]; exact h3 o⟩⟩
theorem DOwn.later {N : Nat} {u : Value} {w w' : World} {v : Value} {d : List Op5} (h : DOwn N u w v d) (hb : Below w.heap.size w w') : DOwn N u w' v d := h.grew (S := fun _ => False) (Grew.of_below hb) (fun _ _ _ h => h)

/-- Deeds in memory of their own, and the row of them. -/
structure OwnLAt (w : World) (N : Nat) (u : Value) (n : Nat) (D : Nat → Value) (r : List (List Op5)) : Prop where
  row : w.ownsRow N 85 1 u n ((List.range n).map D)
  dd : ∀ i (_ : i < n) (h : i < r.length), DOwn N u w (D i) r[i]
theorem OwnLAt.later {w w' : World} {N : Nat} {u : Value} {n : Nat} {D : Nat → Value} {r : List (List Op5)} (h : OwnLAt w N u n D r) (hb : Below w.heap.size w w') : OwnLAt w' N u n D r :=
  ⟨owns_below h.row hb, fun i hi hr => (h.dd i hi hr).later hb⟩
theorem OwnLAt.push {w w' : World} {N : Nat} {u v1 : Value} {n : Nat} {D : Nat → Value} {r : List (List Op5)} (h : OwnLAt w N u n D r) {dv : Value} (hd : ∀ hr : n < r.length, DOwn N u w dv r[n])
    (ho : w'.ownsRow N 85 1 v1 (n + 1) ((List.range n).map D ++ [dv])) (hg : w.grownBy w' u.ownBlock) (hat : v1.ownBlock = u.ownBlock ∨ v1.ownBlock = some w.heap.size) : OwnLAt w' N v1 (n + 1) (putOL D n dv) r := by
  have hgs : Grew (fun b => u.ownBlock = some b) w w' := ⟨hg.os, hg.tape, hg.output, hg.size, fun k hk hn => hg.block k hk (fun e => hn e.symm)⟩
  refine ⟨?_, fun i hi hr => ?_⟩
  · have : (List.range (n + 1)).map (putOL D n dv) = (List.range n).map D ++ [dv] := by
      rw [List.range_succ, List.map_append]
      congr 1
      · apply List.map_congr_left
        intro i hi
        have : i < n := by simpa using hi
        unfold putOL; rw [if_neg (by omega)]
      · simp [putOL]
    rw [this]; exact ho
  · have key : ∀ v, DOwn N u w v r[i] → DOwn N v1 w' v r[i] := fun v h1 => by
      have hne : ∀ b, b < w.heap.size → u.ownBlock ≠ some b → v1.ownBlock ≠ some b := fun b hb hn => by
        rcases hat with e | e
        · rw [e]; exact hn
        · rw [e]; intro e'; have := Option.some.inj e'; omega
      have h2 : DeedIn (fun g => (N ≤ g ∧ u.ownBlock ≠ some g) ∧ g < w.heap.size) w v r[i] := h1.1.mono fun b hb hp => ⟨hp, hb⟩
      refine ⟨(h2.grew hgs (fun b hb e => hb.1.2 e)).mono fun b _ hb => ⟨hb.1.1, hne b hb.2 hb.1.2⟩, fun b off n c e => ?_⟩
      obtain ⟨k1, k2, k3⟩ := (h1.grew hgs (fun b _ hb e => hb e)).2 b off n c e
      exact ⟨⟨k1.1, hne b (h1.2 b off n c e).2.1 k1.2⟩, k2, k3⟩
    unfold putOL
    by_cases e : i = n
    · subst e; rw [if_pos rfl]; exact key _ (hd hr)
    · rw [if_neg e]; exact key _ (h.dd i (by omega) hr)
/-- A round in memory of the call's own. -/
theorem OwnLAt.round {w : World} {N : Nat} {u : Value} {D : Nat → Value} {r : List (List Op5)} (h : OwnLAt w N u r.length D r) : RoundIn (fun b => N ≤ b) w u r := by
  obtain ⟨a, cap, rfl, -⟩ := owns_slice h.row
  refine ⟨a, cap, rfl, fun i hi => ?_⟩
  have hlt := fun g hg => (owns_lt (g := g) h.row hg).1
  obtain ⟨g, cap', e, hc⟩ := owns_cells h.row (by omega)
  cases e
  exact ⟨g, 0, hlt g rfl, rfl, D i, by rw [Nat.zero_add]; exact hc i _ (by simp [hi]), (h.dd i hi hi).1.mono fun b _ hb => hb.1⟩

theorem dOwn_new {w : World} {N M : Nat} {u v : Value} {d : List Op5} {t : TypeId} (h0 : 0 < d.length) (h : w.ownsRow M t 5 v d.length (deedCells d)) (hN : N ≤ M) (hu : ∀ g, M ≤ g → u.ownBlock ≠ some g) : DOwn N u w v d := by
  have hlt := fun g hg => owns_lt (g := g) h hg
  rcases h.2 with ⟨-, e0⟩ | ⟨g, cap, cur, rfl, hb, hg, -⟩
  · omega
  · have hc := fun j x (hj : (deedCells d)[j]? = some x) => World.ownsRow.cells h (g := g) rfl j x hj
    refine ⟨⟨_, cap, rfl, fun i hi => ⟨g, 0, ⟨by omega, hu g hb⟩, rfl, ?_⟩⟩, fun b off n c e => ?_⟩
    · obtain ⟨p0, p1, p2, p3, p4⟩ := deedCells_at d i hi
      simp only [addr_add] at hc
      simp only [Nat.zero_add] at hc ⊢
      exact ⟨hc _ _ p0, hc _ _ p1, hc _ _ p2, hc _ _ p3, hc _ _ p4⟩
    · simp only [Value.slice.injEq, Option.some.injEq, Addr.mk.injEq] at e
      obtain ⟨⟨rfl, -⟩, -⟩ := e
      exact ⟨⟨by omega, hu _ hb⟩, (hlt _ rfl).2, fun o => by simp [World.frozen?, hg]⟩

theorem run_append_emptyL (w : World) (ty : TypeId) (da : Option Addr) (cap : Nat) : (Builtin.append_ #[85, 85] ty #[.slice none 0 0, .slice da 0 cap]).run Tryz.prog w = .ok (.slice none 0 0) w := by
  obtain ⟨i, hi, -, hs, -⟩ := info_parts infoOpL
  have hl : ∀ (x : Addr), (loadCells x 0).run Tryz.prog w = .ok #[] w := fun x => by simpa using run_loadCells_list (P := Tryz.prog) w x [] (by simp)
  cases da <;> simp [Builtin.append_, run_underlying Tryz.underlying85, Builtin.lenOf, Builtin.firstCells, sizeOf, typeInfo, hi, hl]
theorem wpList_append_emptyL {w : World} {ops : Array Oper} {rest : List Oper} {o : Oper} {a : Act} {Q : Exit → Act → World → Prop} (hgd : o.guard = none) (x y : Operand)
    (ho : o.op = .call { callee := .builtin .append, args := #[x, y], argTypes := #[85, 85] }) (da : Option Addr) (cap : Nat) (hx : a.eval x = .slice none 0 0) (hy : a.eval y = .slice da 0 cap)
    (h : wpList Tryz.prog ops Q rest (a.put o.dst (.slice none 0 0)) w) : wpList Tryz.prog ops Q (o :: rest) a w := by
  refine wpList_plain hgd fun K hK => ?_
  have hrun := run_append_emptyL w o.type da cap
  unfold Oper.wp
  simp [execOp, ho, resolve, invoke, builtin, hx, hy, hrun, Result.andThen]
  exact hK _ _ h
theorem cell_one_newL (w : World) (v : Value) (t : TypeId) : ∀ j u, ([v] : List Value)[j]? = some u → (w.alloc (.cells #[v] t)).cell? ((⟨w.heap.size, 0, none⟩ : Addr).add j) = some u := fun j u hu => by
  rw [addr_add, Nat.zero_add, cell_of_row _ _ j _ t (0, 0) (heap_alloc_new w _)]
  simpa using hu

set_option maxRecDepth 100000 in
set_option maxHeartbeats 2000000 in
theorem ownL_any (v : Value) (r : List (List Op5)) (w : World) (hr : RoundAt w v r) (h8 : r.length ≤ 1000) (h14 : ∀ i (h : i < r.length), r[i].length ≤ 100000) :
    Calls Tryz.prog 99 #[v] w fun e w' => ∃ u D, e = .returned u ∧ OwnLAt w' w.heap.size u r.length D r ∧ Below w.heap.size w w' := by
  obtain ⟨i1, hi1, hz0, hz1, hz2⟩ := info_parts infoDeedL
  obtain ⟨i2, hi2, hy0, hy1, hy2⟩ := info_parts infoOpL
  obtain ⟨a, cap, rfl, hr0⟩ := hr
  go_enter Tryz.func99, Tryz.ntmps99
  go_wp2_with fail
  go_loopg [3, 4] r.length (fun g v i wq => ∃ (m : Nat) (u : Value) (D : Nat → Value), m ≤ r.length ∧ g = r.length - m ∧ i = .int .i64 m ∧ u = v ∧ OwnLAt wq w.heap.size u m D r ∧ Below w.heap.size w wq)
  case atStart => exact ⟨0, _, fun _ => .slice none 0 0, by omega, by omega, rfl, rfl, ⟨by simpa using World.ownsRow_nil _ _ _ _, fun i hi => by omega⟩, Below.refl _ _⟩
  case round =>
    obtain ⟨m, u, D, hm, hg, rfl, hu, hO, hB⟩ := hrel
    subst hu
    by_cases hlt : m < r.length
    · obtain ⟨b, off, rfl, dv, c0, hD⟩ := hr0 m hlt
      replace c0 := cell_later hB c0
      replace hD := hD.later hB
      have hmi : (m : Int) < (r.length : Int) := by omega
      have hl14 := h14 m hlt
      have HD := hD
      obtain ⟨da, dcap, rfl, -⟩ := hD
      by_cases hd0 : 0 < r[m].length
      · obtain ⟨db, doff, rfl, hdc⟩ := HD.cells hd0
        have hm' := hO.row
        have hz := hB.size
        have hlt' : ∀ g, u.ownBlock = some g → w.heap.size ≤ g ∧ g < wr.heap.size := fun g hg => owns_lt hm' hg
        have HL : Hid ((deedCells r[m]).length = r[m].length * 5) := deedCells_length _
        have H1 : Hid (∀ u ∈ deedCells r[m], u.oneCell' = true) := deedCells_one _
        have HN : Hid (∀ j u, (deedCells r[m])[j]? = some u → wr.cell? ((⟨db, doff, none⟩ : Addr).add j) = some u) := hdc
        have HD' : Hid (∀ w1 v', World.ownsRow w1 wr.heap.size 121 5 v' r[m].length (deedCells r[m]) → DOwn w.heap.size u w1 v' r[m]) := fun w1 v' ho => dOwn_new hd0 ho hz (fun g hg e => by have := (hlt' g e).2; omega)
        obtain ⟨rows, erows⟩ : ∃ rows, rows = (List.range m).map D := ⟨_, rfl⟩
        rw [← erows] at hm'
        have HO : Hid (OwnLAt wr w.heap.size u m D r) := hO
        clear hdc HD hO hr0
        generalize deedCells r[m] = LC at *
        generalize r[m].length = dl at *
        go_wp2_with (first | (at_builtin; refine wpList_append_own _ rfl _ _ 85 rfl wr.heap.size 121 i2 (.agg #[.int .i64 0, .int .i64 0, .int .i64 0, .int .i64 0, .int .i64 0]) 5 40 Tryz.underlying85 hi2 hy0 hy1 hy2 rfl (by decide) (.slice none 0 0) 0 [] rfl (World.ownsRow_nil _ _ _ _) ⟨db, doff, none⟩ dl dcap LC rfl HL.out HN.out H1.out (by unfold maxLen; omega) (by omega) (Nat.le_refl _) ?_; intro v' w1 hown' hgrow hnil; rw [Nat.zero_add, List.nil_append] at hown'; have hb1 : Below wr.heap.size wr w1 := ⟨hgrow.os, hgrow.tape, hgrow.output, hgrow.size, fun k hk => hgrow.block k hk (by simp [Value.ownBlock])⟩; have hm1 := owns_below hm' hb1; have hs1 := hb1.size; have HDN := HD'.out _ _ hown'; obtain ⟨g1, cap1, rfl, -⟩ := owns_cells hown' (by omega)) | (at_builtin; refine wpList_append_own_at _ rfl _ _ 37 rfl w.heap.size 85 i1 (.slice none 0 0) 1 24 Tryz.underlying37 hi1 hz0 hz1 hz2 rfl (by decide) u m rows rfl (owns_below hm1 ((Below.refl _ _).alloc (Nat.le_refl _) _)) ⟨w1.heap.size, 0, none⟩ 1 1 [.slice (some ⟨g1, 0, none⟩) dl cap1] rfl rfl (cell_one_newL _ _ _) (by simp [Value.oneCell']) (by unfold maxLen; omega) (by omega) (by simp; omega) ?_; intro v2 w2 ho2 hg2 _ hat2))
        have hbA : Below w1.heap.size w1 (w1.alloc (.cells #[.slice (some ⟨g1, 0, none⟩) dl cap1] 85)) := (Below.refl _ _).alloc (Nat.le_refl _) _
        have hdn := HDN.later hbA
        rw [erows] at ho2
        have hO2 := ((HO.out.later hb1).later hbA).push (fun _ => hdn) ho2 hg2 hat2
        have hB2 : Below w.heap.size w w2 := ((hB.trans (hb1.mono hB.size)).alloc (by omega) _).grown hg2 (by simp; omega) (fun k hk => (hlt' k hk).1)
        clear hdn HDN hown' hgrow hm1 hm' HO
        go_wp2_with fail
        go_roundg (r.length - (m + 1))
        case measure => omega
        case rel => exact ⟨m + 1, _, _, by omega, rfl, by go_num, rfl, hO2, hB2⟩
      · have e0 : r[m].length = 0 := by omega
        have hm' := hO.row
        have hz := hB.size
        obtain ⟨rows, erows⟩ : ∃ rows, rows = (List.range m).map D := ⟨_, rfl⟩
        rw [← erows] at hm'
        have hlt' : ∀ g, u.ownBlock = some g → w.heap.size ≤ g ∧ g < wr.heap.size := fun g hg => owns_lt hm' hg
        have HO : Hid (OwnLAt wr w.heap.size u m D r) := hO
        have hdn : Hid (∀ w' : World, DOwn w.heap.size u w' (.slice none 0 0) r[m]) := fun w' => ⟨⟨none, 0, by rw [e0], fun i hi => by omega⟩, fun b off n c e => by cases e⟩
        rw [e0] at c0
        clear hO hr0 HD hd0
        go_wp2_with (first | (refine wpList_append_emptyL rfl (.tmp 13) (.tmp 17) rfl da dcap rfl rfl ?_) | (at_builtin; refine wpList_append_own_at _ rfl _ _ 37 rfl w.heap.size 85 i1 (.slice none 0 0) 1 24 Tryz.underlying37 hi1 hz0 hz1 hz2 rfl (by decide) u m rows rfl (owns_below hm' ((Below.refl _ _).alloc (Nat.le_refl _) _)) ⟨wr.heap.size, 0, none⟩ 1 1 [.slice none 0 0] rfl rfl (cell_one_newL _ _ _) (by simp [Value.oneCell']) (by unfold maxLen; omega) (by omega) (by simp; omega) ?_; intro v2 w2 ho2 hg2 _ hat2))
        have hbA : Below wr.heap.size wr (wr.alloc (.cells #[.slice none 0 0] 85)) := (Below.refl _ _).alloc (Nat.le_refl _) _
        rw [erows] at ho2
        have hO2 := (HO.out.later hbA).push (fun _ => hdn.out _) ho2 hg2 hat2
        have hB2 : Below w.heap.size w w2 := (hB.alloc (by omega) _).grown hg2 (by simp; omega) (fun k hk => (hlt' k hk).1)
        clear hm' HO
        go_wp2_with fail
        go_roundg (r.length - (m + 1))
        case measure => omega
        case rel => exact ⟨m + 1, _, _, by omega, rfl, by go_num, rfl, hO2, hB2⟩
    · obtain rfl : m = r.length := by omega
      clear hr0
      go_wp2_with fail
      go_ret
      exact ⟨u, D, rfl, hO, hB⟩
end Go.Proofs.YtehkjbpgibdgpadGreatDoor
namespace Go.Proofs.YtehkjbpgibdgpadGreatDoor
open Go.RowKit

theorem RoundIn.mono {P Q : Nat → Prop} {w : World} {v : Value} {r : List (List Op5)} (h : RoundIn P w v r) (hPQ : ∀ b, b < w.heap.size → P b → Q b) : RoundIn Q w v r := by
  obtain ⟨a, cap, rfl, h⟩ := h
  refine ⟨a, cap, rfl, fun i hi => ?_⟩
  obtain ⟨b, off, hp, e, dv, h0, h1⟩ := h i hi
  exact ⟨b, off, hPQ b (World.block_lt_of_cell? w _ h0) hp, e, dv, h0, h1.mono hPQ⟩
theorem RoundIn.later {P : Nat → Prop} {w w' : World} {v : Value} {r : List (List Op5)} (h : RoundIn P w v r) (hb : Below w.heap.size w w') : RoundIn P w' v r := h.grew (S := fun _ => False) (Grew.of_below hb) (fun _ _ h => h)

theorem infoRoundL : (Tryz.prog.info? 37).map (fun i => (i.zero, i.size, i.bytes)) = some (some (.slice none 0 0), 1, 24) := by kernel_rfl

/-- A row of values that may be read, and onto which one more may be appended: of the call's own, or full. -/
def RowL (w : World) (v : Value) (xs : List Value) : Prop :=
  w.ownsRow 0 37 1 v xs.length xs ∨ ∃ g, v = .slice (some ⟨g, 0, none⟩) xs.length xs.length ∧ g < w.heap.size ∧ ∀ j u, xs[j]? = some u → w.cell? ⟨g, j, none⟩ = some u
theorem RowL.slice {w : World} {v : Value} {xs : List Value} (h : RowL w v xs) : ∃ a cap, v = .slice a xs.length cap ∧ xs.length ≤ cap := by
  rcases h with h | ⟨g, rfl, -⟩
  · exact owns_slice h
  · exact ⟨_, _, rfl, Nat.le_refl _⟩
theorem RowL.lt {w : World} {v : Value} {xs : List Value} (h : RowL w v xs) {g : Nat} (hg : v.ownBlock = some g) : g < w.heap.size := by
  rcases h with h | ⟨g', rfl, hlt, -⟩
  · exact (owns_lt h hg).2
  · cases hg; exact hlt
theorem RowL.cells {w : World} {v : Value} {xs : List Value} (h : RowL w v xs) (h0 : 0 < xs.length) : ∃ g cap, v = .slice (some ⟨g, 0, none⟩) xs.length cap ∧ ∀ j u, xs[j]? = some u → w.cell? ⟨g, j, none⟩ = some u := by
  rcases h with h | ⟨g', rfl, -, hc⟩
  · exact owns_cells h h0
  · exact ⟨g', _, rfl, hc⟩
theorem RowL.kept {w w' : World} {v : Value} {xs : List Value} (h : RowL w v xs) (hs : w.heap.size ≤ w'.heap.size) (hb : ∀ g, v.ownBlock = some g → w'.heap[g]? = w.heap[g]?) : RowL w' v xs := by
  rcases h with h | ⟨g', rfl, hlt, hc⟩
  · exact .inl (owns_kept h hb)
  · exact .inr ⟨g', rfl, by omega, fun j u hj => by rw [World.cell?_of_block (w := w) (hb g' rfl)]; exact hc j u hj⟩
theorem RowL.cut {w : World} {a : Option Addr} {n cap : Nat} {xs : List Value} (hn : xs.length = n) (h : RowL w (.slice a n cap) xs) {m : Nat} (hm : m ≤ n) : RowL w (.slice a m m) (xs.take m) := by
  have e : (xs.take m).length = m := by simp; omega
  rcases h with h | ⟨g', e', hlt, hc⟩
  · rw [hn] at h
    rcases h.2 with ⟨e1, rfl⟩ | ⟨g, cap', cur, e1, hb, hg, -⟩
    · cases e1
      obtain rfl : m = 0 := by omega
      exact .inl ⟨by simp, .inl ⟨rfl, by simp⟩⟩
    · cases e1
      refine .inr ⟨g, by rw [e], (owns_lt h rfl).2, fun j u hj => ?_⟩
      have hj' : xs[j]? = some u := by
        rw [List.getElem?_take] at hj
        split at hj
        · exact hj
        · cases hj
      have := World.ownsRow.cells h (g := g) rfl j u hj'
      rw [addr_add, Nat.zero_add] at this
      exact this
  · cases e'
    refine .inr ⟨g', by rw [e], hlt, fun j u hj => ?_⟩
    have hj' : xs[j]? = some u := by
      rw [List.getElem?_take] at hj
      split at hj
      · exact hj
      · cases hj
    exact hc j u hj'

/-- append of one value onto such a row. -/
theorem run_append_rowL (w : World) (ty : TypeId) {v x : Value} {xs : List Value} (h : RowL w v xs) (hx : x.oneCell' = true) (b c : Nat) (hb : w.cell? ⟨b, 0, none⟩ = some x) (hlen : xs.length ≤ 1000) :
    ∃ v' w', (Builtin.append_ #[28, 28] ty #[v, .slice (some ⟨b, 0, none⟩) 1 c]).run Tryz.prog w = .ok v' w' ∧ w'.ownsRow 0 37 1 v' (xs.length + 1) (xs ++ [x]) ∧ w.grownBy w' v.ownBlock ∧ (v'.ownBlock = v.ownBlock ∨ v'.ownBlock = some w.heap.size) := by
  obtain ⟨i1, hi1, hz0, hz1, hz2⟩ := info_parts infoRoundL
  have hnews : ∀ j u, ([x] : List Value)[j]? = some u → w.cell? ((⟨b, 0, none⟩ : Addr).add j) = some u := fun j u hj => by
    cases j with
    | zero => simp only [List.getElem?_cons_zero, Option.some.injEq] at hj; subst hj; rw [addr_add]; exact hb
    | succ j => simp at hj
  have h1 : ∀ u ∈ [x], u.oneCell' = true := fun u hu => by simp at hu; subst hu; exact hx
  rcases h with h | ⟨g, rfl, hlt, hc⟩
  · obtain ⟨v', w', hr, h2, h3, -, h5⟩ := run_append_own_at (P := Tryz.prog) w 0 28 ty 37 i1 _ 1 24 Tryz.underlying28 hi1 hz0 hz1 hz2 rfl (by decide) v _ _ h ⟨b, 0, none⟩ 1 c [x] rfl hnews h1 (by unfold maxLen; omega) (by omega) (Nat.zero_le _)
    exact ⟨v', w', hr, h2, h3, h5⟩
  · obtain ⟨v', w', hr, h2, h3⟩ := run_append_arg_grows (P := Tryz.prog) w 28 ty 37 i1 _ 1 24 Tryz.underlying28 hi1 hz0 hz1 hz2 rfl (by decide) ⟨g, 0, none⟩ xs.length xs.length xs (by omega) (fun j u hj => by rw [addr_add, Nat.zero_add]; exact hc j u hj) ⟨b, 0, none⟩ 1 c [x] rfl hnews (by omega) (by unfold maxLen; omega) (by omega)
    have ho : v'.ownBlock = some w.heap.size := by
      rcases h2.2 with ⟨-, e0⟩ | ⟨g', cap', cur, rfl, hb', hg', -⟩
      · omega
      · have hr' := run_append_grow (P := Tryz.prog) w 28 ty 37 i1 _ Tryz.underlying28 hi1 hz0 ⟨g, 0, none⟩ xs.length xs.length xs (by rw [hz1]; omega) (fun j u hj => by rw [addr_add, Nat.zero_add]; exact hc j u hj) ⟨b, 0, none⟩ 1 c [x] (by rw [hz1]; rfl) hnews (by omega) (by omega) (growslice_fits (by omega) (by rw [hz2]; omega))
        rw [hr'] at hr
        simp only [Result.ok.injEq, Value.slice.injEq, Option.some.injEq, Addr.mk.injEq] at hr
        show some g' = _
        rw [← hr.1.1.1]
    refine ⟨v', w', hr, ?_, ⟨h3.os, h3.tape, h3.output, h3.size, fun k hk _ => h3.block k hk (by simp)⟩, .inr ho⟩
    refine ⟨h2.1, ?_⟩
    rcases h2.2 with h | ⟨g', cap', cur, e1, -, e2⟩
    · exact .inl h
    · exact .inr ⟨g', cap', cur, e1, Nat.zero_le _, e2⟩
theorem wpList_append_rowL {w : World} {ops : Array Oper} {rest : List Oper} {o : Oper} {a : Act} {Q : Exit → Act → World → Prop} (hgd : o.guard = none) (s y : Operand)
    (hop : o.op = .call { callee := .builtin .append, args := #[s, y], argTypes := #[28, 28] }) {v x : Value} {xs : List Value} (hs : a.eval s = v) (h : RowL w v xs) (hx : x.oneCell' = true) (b c : Nat) (hy : a.eval y = .slice (some ⟨b, 0, none⟩) 1 c) (hb : w.cell? ⟨b, 0, none⟩ = some x) (hlen : xs.length ≤ 1000)
    (hk : ∀ v' w', w'.ownsRow 0 37 1 v' (xs.length + 1) (xs ++ [x]) → w.grownBy w' v.ownBlock → (v'.ownBlock = v.ownBlock ∨ v'.ownBlock = some w.heap.size) → wpList Tryz.prog ops Q rest (a.put o.dst v') w') : wpList Tryz.prog ops Q (o :: rest) a w := by
  refine wpList_plain hgd fun K hK => ?_
  obtain ⟨v', w', hrun, r1, r2, r3⟩ := run_append_rowL w o.type h hx b c hb hlen
  unfold Oper.wp
  simp [execOp, hop, resolve, invoke, builtin, hs, hy, hrun, Result.andThen]
  exact hK _ _ (hk v' w' r1 r2 r3)

/-- What lies in its block. -/
structure ScRaw (Q : Nat → Prop) (w : World) (D : Nat) (l : List (List (List Op5))) (s : Int) (vl : Value) (xs : List Value) : Prop where
  c0 : w.cell? ⟨D, 0, none⟩ = some vl
  c1 : w.cell? ⟨D, 1, none⟩ = some (.int .i64 s)
  fr : ∀ o, w.frozen? ⟨D, o, none⟩ = false
  len : xs.length = l.length
  row : RowL w vl xs
  qD : Q D
  ql : ∀ g, vl.ownBlock = some g → Q g ∧ g ≠ D
  rd : ∀ i (h : i < l.length), ∃ rv, xs[i]? = some rv ∧ RoundIn (fun b => Q b ∧ b ≠ D ∧ vl.ownBlock ≠ some b) w rv l[i]
theorem ScRaw.lt {Q : Nat → Prop} {w : World} {D : Nat} {l : List (List (List Op5))} {s : Int} {vl : Value} {xs : List Value} (h : ScRaw Q w D l s vl xs) : D < w.heap.size := World.block_lt_of_cell? w _ h.c0
theorem ScRaw.grew {Q S : Nat → Prop} {w w' : World} {D : Nat} {l : List (List (List Op5))} {s : Int} {vl : Value} {xs : List Value} (h : ScRaw Q w D l s vl xs) (hg : Grew S w w') (hS : ∀ b, Q b → ¬ S b) : ScRaw Q w' D l s vl xs :=
  ⟨hg.cell h.c0 (hS D h.qD), hg.cell h.c1 (hS D h.qD), fun o => by rw [hg.frozen (p := ⟨D, o, none⟩) h.lt (hS D h.qD)]; exact h.fr o, h.len,
    h.row.kept hg.size fun g hb => hg.block g (h.row.lt hb) (hS g (h.ql g hb).1), h.qD, h.ql, fun i hi => by
      obtain ⟨rv, h1, h2⟩ := h.rd i hi
      exact ⟨rv, h1, h2.grew hg fun b hb => hS b hb.1⟩⟩
theorem ScRaw.later {Q : Nat → Prop} {w w' : World} {D : Nat} {l : List (List (List Op5))} {s : Int} {vl : Value} {xs : List Value} (h : ScRaw Q w D l s vl xs) (hb : Below w.heap.size w w') : ScRaw Q w' D l s vl xs := h.grew (S := fun _ => False) (Grew.of_below hb) (fun _ _ h => h)
theorem ScRaw.mono {P Q : Nat → Prop} {w : World} {D : Nat} {l : List (List (List Op5))} {s : Int} {vl : Value} {xs : List Value} (h : ScRaw P w D l s vl xs) (hPQ : ∀ b, b < w.heap.size → P b → Q b) : ScRaw Q w D l s vl xs :=
  ⟨h.c0, h.c1, h.fr, h.len, h.row, hPQ D h.lt h.qD, fun g hg => ⟨hPQ g (h.row.lt hg) (h.ql g hg).1, (h.ql g hg).2⟩, fun i hi => by
      obtain ⟨rv, h1, h2⟩ := h.rd i hi
      exact ⟨rv, h1, h2.mono fun b hb hp => ⟨hPQ b hb hp.1, hp.2⟩⟩⟩
theorem ScRaw.sure {Q : Nat → Prop} {w : World} {D : Nat} {l : List (List (List Op5))} {s : Int} {vl : Value} {xs : List Value} (h : ScRaw Q w D l s vl xs) (s' : Int) : ScRaw Q (w.setCell ⟨D, 1, none⟩ (.int .i64 s')) D l s' vl xs :=
  ⟨by rw [cell_apart' _ (by omega)]; exact h.c0, cell_set _ h.c1, fun o => by rw [World.frozen?_setCell]; exact h.fr o, h.len,
    h.row.kept (by simp [World.setCell]) fun g hg => Below.heap_setCell _ _ _ _ (h.ql g hg).2, h.qD, h.ql, fun i hi => by
      obtain ⟨rv, h1, h2⟩ := h.rd i hi
      exact ⟨rv, h1, h2.grew (grew_cellC w D 1 _) fun b hb e => hb.2.1 e⟩⟩
theorem ScRaw.cut {Q : Nat → Prop} {w : World} {D : Nat} {l : List (List (List Op5))} {s : Int} {a : Option Addr} {cap : Nat} {xs : List Value} (h : ScRaw Q w D l s (.slice a l.length cap) xs) {n : Nat} (hn : n ≤ l.length) : ScRaw Q (w.setCell ⟨D, 0, none⟩ (.slice a n n)) D (l.take n) s (.slice a n n) (xs.take n) := by
  have hb : (Value.slice a n n).ownBlock = (Value.slice a l.length cap).ownBlock := by cases a <;> rfl
  refine ⟨cell_set _ h.c0, by rw [cell_apart' _ (by omega)]; exact h.c1, fun o => by rw [World.frozen?_setCell]; exact h.fr o, by have := h.len; simp; omega,
    (h.row.cut h.len hn).kept (by simp [World.setCell]) fun g hg => Below.heap_setCell _ _ _ _ (h.ql g (by rw [← hb]; exact hg)).2, h.qD, fun g hg => h.ql g (by rw [← hb]; exact hg), fun i hi => ?_⟩
  have hi' : i < n := by simp at hi; omega
  obtain ⟨rv, h1, h2⟩ := h.rd i (by omega)
  refine ⟨rv, by rw [List.getElem?_take, if_pos hi']; exact h1, ?_⟩
  rw [List.getElem_take, hb]
  exact h2.grew (grew_cellC w D 0 _) fun b hb e => hb.2.1 e
/-- One round more, in memory beside. -/
theorem ScRaw.put {Q : Nat → Prop} {w w' : World} {D : Nat} {l : List (List (List Op5))} {s : Int} {vl v x : Value} {xs : List Value} {r : List (List Op5)} (h : ScRaw Q w D l s vl xs) (hg : w.grownBy w' vl.ownBlock) (ho : w'.ownsRow 0 37 1 v (xs.length + 1) (xs ++ [x])) (hat : v.ownBlock = vl.ownBlock ∨ v.ownBlock = some w.heap.size) {M : Nat} (hx : RoundIn (fun b => M ≤ b ∧ b < w.heap.size ∧ b ≠ D ∧ vl.ownBlock ≠ some b) w x r) :
    ScRaw (fun b => Q b ∨ M ≤ b ∨ w.heap.size ≤ b) (w'.setCell ⟨D, 0, none⟩ v) D (l ++ [r]) s v (xs ++ [x]) := by
  have hlt := h.lt
  have hG : Grew (fun b => vl.ownBlock = some b) w w' := ⟨hg.os, hg.tape, hg.output, hg.size, fun k hk hn => hg.block k hk (fun e => hn e.symm)⟩
  have hD : ¬ vl.ownBlock = some D := fun e => (h.ql D e).2 rfl
  have hvD : ∀ g, v.ownBlock = some g → (Q g ∨ M ≤ g ∨ w.heap.size ≤ g) ∧ g ≠ D := fun g hg => by
    rcases hat with e | e
    · rw [e] at hg; exact ⟨.inl (h.ql g hg).1, (h.ql g hg).2⟩
    · rw [e] at hg; cases hg; exact ⟨.inr (.inr (Nat.le_refl _)), by omega⟩
  have hne : ∀ b, b < w.heap.size → vl.ownBlock ≠ some b → v.ownBlock ≠ some b := fun b hb hn => by
    rcases hat with e | e
    · rw [e]; exact hn
    · rw [e]; intro e'; have := Option.some.inj e'; omega
  refine ⟨cell_set v (hG.cell h.c0 hD), by rw [cell_apart' _ (by omega)]; exact hG.cell h.c1 hD, fun o => by rw [World.frozen?_setCell, hG.frozen (p := ⟨D, o, none⟩) hlt hD]; exact h.fr o, by simp [h.len],
    .inl (by rw [List.length_append]; exact owns_set ho (fun g hg => (hvD g hg).2) _ _), .inl h.qD, hvD, fun i hi => ?_⟩
  by_cases hi' : i < l.length
  · obtain ⟨rv, h1, h2⟩ := h.rd i hi'
    refine ⟨rv, by rw [List.getElem?_append_left (by rw [h.len]; exact hi')]; exact h1, ?_⟩
    rw [List.getElem_append_left hi']
    have h3 := h2.mono (Q := fun b => (Q b ∧ b ≠ D ∧ vl.ownBlock ≠ some b) ∧ b < w.heap.size) fun b hb hp => ⟨hp, hb⟩
    refine ((h3.grew hG fun b hb e => hb.1.2.2 e).grew (grew_cellC w' D 0 _) fun b hb e => hb.1.2.1 e).mono fun b _ hb => ⟨.inl hb.1.1, hb.1.2.1, hne b hb.2 hb.1.2.2⟩
  · obtain rfl : i = l.length := by simp at hi; omega
    refine ⟨x, by rw [← h.len]; simp, ?_⟩
    rw [List.getElem_append_right (Nat.le_refl _)]
    simp only [Nat.sub_self, List.getElem_cons_zero]
    refine ((hx.grew hG fun b hb e => hb.2.2.2 e).grew (grew_cellC w' D 0 _) fun b hb e => hb.2.2.1 e).mono fun b _ hb => ⟨.inr (.inl hb.1), hb.2.2.1, hne b hb.2.1 hb.2.2.2⟩
theorem ScRaw.get {Q : Nat → Prop} {w : World} {D : Nat} {l : List (List (List Op5))} {s : Int} {vl : Value} {xs : List Value} (h : ScRaw Q w D l s vl xs) {i : Nat} (hi : i < l.length) : ∃ g cap rv, vl = .slice (some ⟨g, 0, none⟩) l.length cap ∧ w.cell? ⟨g, i, none⟩ = some rv ∧ RoundAt w rv l[i] := by
  obtain ⟨g, cap, rfl, hc⟩ := h.row.cells (by have := h.len; omega)
  obtain ⟨rv, h1, h2⟩ := h.rd i hi
  exact ⟨g, cap, rv, by rw [h.len], hc i rv h1, h2.at⟩

/-- A log of the reference. -/
def ScAt (Q : Nat → Prop) (w : World) (D : Nat) (l : List (List (List Op5))) (k : Nat) : Prop := LogOk l k ∧ ∃ vl xs, ScRaw Q w D l k vl xs
theorem ScAt.grew {Q S : Nat → Prop} {w w' : World} {D : Nat} {l : List (List (List Op5))} {k : Nat} (h : ScAt Q w D l k) (hg : Grew S w w') (hS : ∀ b, Q b → ¬ S b) : ScAt Q w' D l k := by
  obtain ⟨ho, vl, xs, h⟩ := h
  exact ⟨ho, vl, xs, h.grew hg hS⟩
theorem ScAt.later {Q : Nat → Prop} {w w' : World} {D : Nat} {l : List (List (List Op5))} {k : Nat} (h : ScAt Q w D l k) (hb : Below w.heap.size w w') : ScAt Q w' D l k := h.grew (S := fun _ => False) (Grew.of_below hb) (fun _ _ h => h)
theorem ScAt.mono {P Q : Nat → Prop} {w : World} {D : Nat} {l : List (List (List Op5))} {k : Nat} (h : ScAt P w D l k) (hPQ : ∀ b, b < w.heap.size → P b → Q b) : ScAt Q w D l k := by
  obtain ⟨ho, vl, xs, h⟩ := h
  exact ⟨ho, vl, xs, h.mono hPQ⟩
end Go.Proofs.YtehkjbpgibdgpadGreatDoor
namespace Go.Proofs.YtehkjbpgibdgpadGreatDoor
open Go.RowKit

theorem done_okN {w w1 W : World} {r : List (List Op5)} {ua v0 : Option Addr} {ucap : Nat} {ts : Array Value} (c0 : w1.cell? ⟨w.heap.size, 0, none⟩ = some (.slice v0 0 0)) (c1 : w1.cell? ⟨w.heap.size + 1, 0, none⟩ = some (.bool false)) (hlt : w.heap.size + 1 + 1 < W.heap.size) (hU : RoundIn (fun b => W.heap.size ≤ b) w1 (.slice ua r.length ucap) r) (hB : Below w.heap.size w w1)
    (t0 : ts[2]? = some (.pointer (some ⟨w.heap.size, 0, none⟩))) (t1 : ts[3]? = some (.pointer (some ⟨w.heap.size + 1, 0, none⟩))) :
    Leaves Tryz.prog Tryz.f144 ts (fun e w' => (∃ u, e = .returned (.tuple #[u, .bool true]) ∧ RoundIn (fun b => w.heap.size ≤ b) w' u r) ∧ Below w.heap.size w w') [] (settle .returning) (((w1.setCell ⟨w.heap.size, 0, none⟩ (.slice ua r.length ucap)).setCell ⟨w.heap.size, 0, none⟩ (.slice ua r.length ucap)).setCell ⟨w.heap.size + 1, 0, none⟩ (.bool true)) := by
  have d0 : (w1.setCell ⟨w.heap.size, 0, none⟩ (.slice ua r.length ucap)).cell? ⟨w.heap.size, 0, none⟩ = some (.slice ua r.length ucap) := World.cell?_setCell_same _ _ _ c0
  have d1 : ((w1.setCell ⟨w.heap.size, 0, none⟩ (.slice ua r.length ucap)).setCell ⟨w.heap.size, 0, none⟩ (.slice ua r.length ucap)).cell? ⟨w.heap.size + 1, 0, none⟩ = some (.bool false) := by
    rw [World.cell?_setCell_other _ _ _ _ (fun h => by simp only [Addr.mk.injEq] at h; omega), World.cell?_setCell_other _ _ _ _ (fun h => by simp only [Addr.mk.injEq] at h; omega)]; exact c1
  refine ⟨.tuple #[.slice ua r.length ucap, .bool true], done_results ?_ (World.cell?_setCell_same _ _ _ d1) t0 t1, ⟨_, rfl, ?_⟩, ?_⟩
  · rw [World.cell?_setCell_other _ _ _ _ (fun h => by simp only [Addr.mk.injEq] at h; omega)]; exact World.cell?_setCell_same _ _ _ d0
  · exact (((hU.grew (grew_cellC _ _ _ _) (fun b hb e => by omega)).grew (grew_cellC _ _ _ _) (fun b hb e => by omega)).grew (grew_cellC _ _ _ _) (fun b hb e => by omega)).mono fun b _ hb => by omega
  · exact ((hB.setCell (p := ⟨w.heap.size, 0, none⟩) (Nat.le_refl _) _).setCell (p := ⟨w.heap.size, 0, none⟩) (Nat.le_refl _) _).setCell (p := ⟨w.heap.size + 1, 0, none⟩) (by simp) _

set_option maxRecDepth 100000 in
set_option maxHeartbeats 1000000 in
theorem read_someN {l : List Int} {r : List (List Op5)} {v : Value} {w : World} (h : BytesAt w v l) (hb : AllB l) (e : readAll l = some r) :
    Calls Tryz.prog 144 #[v] w fun e w' => (∃ u, e = .returned (.tuple #[u, .bool true]) ∧ RoundIn (fun b => w.heap.size ≤ b) w' u r) ∧ Below w.heap.size w w' := by
  have hmf : ∀ (fn : Fn) (first cap : Array Value) (w : World), (Instr.makeFunc fn first cap).run Tryz.prog w = .ok (.func fn first cap) w := fun _ _ _ _ => rfl
  have h' := h.inside
  obtain ⟨a, cap, rfl, -⟩ := h
  have hbeg := beg_new hb h'
  go_enter_defers Tryz.func144, Tryz.ntmps144
  go_wp2_with fail
  generalize ((w.alloc (.cells #[.slice none 0 0] 37)).alloc (.cells #[.bool false] 4)).alloc (.cells #[.slice a l.length cap] 218) = W at *
  obtain ⟨hR, ⟨v0, c0⟩, c1, f0, f1, hlt, hB⟩ := hbeg
  refine (round_some hR (readAll_some e)).mono ?_
  rintro e w1 ⟨⟨u, rfl, hU⟩, hR1, hG1⟩
  replace c0 := hG1.cell c0 (show ¬ w.heap.size = w.heap.size + 1 + 1 by omega)
  replace c1 := hG1.cell c1 (show ¬ w.heap.size + 1 = w.heap.size + 1 + 1 by omega)
  replace f0 := (hG1.frozen (p := ⟨w.heap.size, 0, none⟩) (by simp; omega) (show ¬ w.heap.size = w.heap.size + 1 + 1 by omega)).trans f0
  replace f1 := (hG1.frozen (p := ⟨w.heap.size + 1, 0, none⟩) (by simp; omega) (show ¬ w.heap.size + 1 = w.heap.size + 1 + 1 by omega)).trans f1
  have hB1 : Below w.heap.size w w1 := hG1.below hB hB.size (fun k hk => by omega)
  have hlt1 : w.heap.size + 1 + 1 < w1.heap.size := Nat.lt_of_lt_of_le hlt hG1.size
  have hU0 := hU
  obtain ⟨ua, ucap, rfl, -⟩ := hU
  clear hR hG1
  go_wp2_with fail
  refine (end_none (hR1.other (Nat.le_refl _) (by omega) 0 _)).mono ?_
  rintro e w2 ⟨rfl, rfl⟩
  go_wp2_with fail
  refine leaves_cons (f := 164) (args := #[.pointer (some ⟨w.heap.size, 0, none⟩), .pointer (some ⟨w.heap.size + 1, 0, none⟩)]) (by simp) (by simp [go_sem]) ?_
  refine (catch_idle ⟨w.heap.size, 0, none⟩ ⟨w.heap.size + 1, 0, none⟩ _).mono ?_
  rintro e u' w'' ⟨rfl, rfl, rfl⟩
  exact done_okN c0 c1 hlt hU0 hB1 rfl rfl

set_option maxRecDepth 100000 in
set_option maxHeartbeats 1000000 in
theorem dec_goodN {l : List Int} {x y : Int} {v : Value} {w : World} {r : List (List Op5)} {n : Int} (h : BytesAt w v (x :: y :: l)) (hb : AllB (x :: y :: l)) (hm : l.length ≤ 140737488355328) (hL : Lim w) (hdec : decF (x :: y :: l) = (r, n, 0)) :
    Calls Tryz.prog 116 #[v] w fun e w' => (∃ u, e = .returned (.tuple #[u, .int .i64 n, .int .i64 0]) ∧ RoundIn (fun b => w.heap.size ≤ b) w' u r) ∧ Below w.heap.size w w' := by
  have H := h
  obtain ⟨a, cap, rfl, hc, hcell⟩ := h
  obtain ⟨b, off, -, rfl, c0⟩ := hcell 0 (by simp)
  obtain ⟨b', off', -, e, c1⟩ := hcell 1 (by simp)
  cases e
  simp only [List.length_cons, List.getElem_cons_zero, List.getElem_cons_succ, Nat.add_zero] at c0 c1 hc H
  clear hcell
  have hx := int_byte hb.head
  have hy := int_byte hb.tail.head
  have hs := shl_byte hb.tail.head
  have bx := hb.head
  have bY := hb.tail.head
  unfold IsB at bx bY
  have hs : x + 256 * y = x + y * 256 := by omega
  have hd : decF (x :: y :: l) = if (l.length : Int) < x + 256 * y then ([], 0, 6) else match readAll (l.take (x + 256 * y).toNat) with | none => ([], 0, 3) | some r => if roundF r ≠ 0 then ([], 0, roundF r) else (r, 2 + x + 256 * y, 0) := rfl
  rw [hs, show 2 + x + 256 * y = 2 + x + y * 256 by omega] at hd
  rw [hdec] at hd
  have hlt : ¬ (l.length : Int) < x + y * 256 := fun h => by rw [if_pos h] at hd; simp at hd
  rw [if_neg hlt] at hd
  have ht : ¬ ((l.length : Int) + 1 + 1 < 2 + x + y * 256) := by omega
  obtain ⟨sv, hsv, hB⟩ := cut_lh (P := fun _ => True) (W := w) (l := x :: y :: l) H (m := 2) (n := 2 + x + y * 256) (by omega) (by omega) (by simp only [List.length_cons]; omega)
  have hsv' : ∀ w, (Instr.slice 53 (.slice (some ⟨b, off, none⟩) (l.length + 1 + 1) cap) (some (.int .i64 2)) (some (.int .i64 (2 + x + y * 256))) none).run Tryz.prog w = .ok sv w := hsv
  have hE : (((x :: y :: l).take (2 + x + y * 256).toNat).drop (2 : Int).toNat) = l.take (x + y * 256).toNat := by
    rw [show (2 + x + y * 256).toNat = (x + y * 256).toNat + 2 by omega]; rfl
  rw [hE] at hB
  clear hE hsv hs H hlt hdec
  have hAll : AllB (l.take (x + y * 256).toNat) := hb.tail.tail.take _
  generalize l.take (x + y * 256).toNat = m at *
  obtain ⟨hr, hz, hn⟩ : readAll m = some r ∧ roundF r = 0 ∧ n = 2 + x + y * 256 := by
    cases hr : readAll m with
    | none => rw [hr] at hd; simp at hd
    | some r' =>
      rw [hr] at hd
      by_cases hz : roundF r' = 0
      · have hd' : (r, n, (0 : Int)) = (r', 2 + x + y * 256, 0) := hd.trans (if_neg (by simp [hz]))
        simp only [Prod.mk.injEq, and_true] at hd'
        exact ⟨by rw [hd'.1], by rw [hd'.1]; exact hz, hd'.2⟩
      · have hd' : (r, n, (0 : Int)) = ([], 0, roundF r') := hd.trans (if_pos hz)
        simp only [Prod.mk.injEq] at hd'
        exact absurd hd'.2.2.symm hz
  subst hn
  have hread := read_someN (w := w.drew) hB hAll hr
  have hfit := readAll_fits hAll hr
  have hF : Fits r := ⟨by omega, fun i hi => by have := hfit.2 _ (List.getElem_mem hi); omega⟩
  have HZ : Hid (roundF r = 0) := hz
  clear hd hB hr hfit hz
  go_enter Tryz.func116, Tryz.ntmps116
  go_wp2_with fail
  go_region
  go_wp2_with fail
  refine hread.mono ?_
  rintro e w1 ⟨⟨u, rfl, hU⟩, hb1⟩
  have hB1 : Below w.heap.size w w1 := (Below.refl _ _).drew.trans hb1
  have hU1 : RoundIn (fun b => w.heap.size ≤ b) w1 u r := hU
  clear hread hb1 hU
  have hra := round_any u r w1 hU1.at hF (hL.later hB1)
  rw [HZ.out] at hra
  go_wp2_with fail
  refine hra.mono ?_
  rintro e w2 ⟨rfl, hb2⟩
  have hU2 := hU1.later hb2
  have hB2 : Below w.heap.size w w2 := hB1.trans (hb2.mono hB1.size)
  clear hU1 hB1 hb2 hra
  go_wp2_with fail
  refine bodyPost_ret (results_tmp3 rfl _ _ _) rfl ?_
  exact ⟨⟨_, rfl, hU2⟩, hB2⟩

theorem dec_goodA {l : List Int} {v : Value} {w : World} {r : List (List Op5)} {n : Int} (h : BytesAt w v l) (hb : AllB l) (hm : l.length ≤ 140737488355328) (hL : Lim w) (hd : decF l = (r, n, 0)) :
    Calls Tryz.prog 116 #[v] w fun e w' => (∃ u, e = .returned (.tuple #[u, .int .i64 n, .int .i64 0]) ∧ RoundIn (fun b => w.heap.size ≤ b) w' u r) ∧ Below w.heap.size w w' := by
  match l, h, hb, hm, hd with
  | [], _, _, _, hd => simp [decF] at hd
  | [_], _, _, _, hd => simp [decF] at hd
  | x :: y :: l, h, hb, hm, hd => exact dec_goodN h hb (by simp at hm; omega) hL hd

section
variable {P : Nat → Prop} {w : World} {C : Nat} {l : List (List (List Op5))} {k : Nat}
set_option maxRecDepth 100000 in
set_option maxHeartbeats 1000000 in
theorem logRound_in (h : LogAt P w C l k) {m : Nat} (hm : m < l.length) (hL : Lim w) : Calls Tryz.prog 84 #[.pointer (some ⟨C, 0, none⟩), .int .i64 (m : Int)] w fun e w' => (∃ u, e = .returned (.tuple #[u, .bool true]) ∧ RoundIn (fun b => w.heap.size ≤ b) w' u l[m]) ∧ Below w.heap.size w w' := by
  have hlen := logLen_any h
  have ho := h.ok
  have hup := fun (w' : World) (hb : Below w.heap.size w w') => logUpTo_any (h.later hb) (n := m) (by omega)
  obtain ⟨-, va, ve, h⟩ := h
  have hs := ho.short
  have hB := h.bytes
  obtain ⟨aa, acap, rfl, -⟩ := owns_slice h.ra
  have c0 := h.c0
  have he := endB_le (l := l) (i := m) (by omega)
  obtain ⟨sv, hsv, hS⟩ := cut_l (W := w) hB.at (m := (endB l m : Int)) (by omega) (by omega)
  rw [Int.toNat_natCast, allB_drop] at hS
  have hD : Hid (decF (allB (l.drop m)) = (l[m], ((encB l[m]).length : Int), 0)) := by
    show _ = _
    rw [allB_at hm]; exact (ho.good _ (List.getElem_mem hm)).dec _
  have hA : AllB (allB (l.drop m)) := allB_all fun r hr => ho.good r (List.mem_of_mem_drop hr)
  have hdl : (allB (l.drop m)).length ≤ 4000 := by rw [← allB_drop, List.length_drop]; omega
  have HS : Hid (BytesAt w sv (allB (l.drop m))) := hS
  have t1 : ¬ ((m : Int) < 0) := by omega
  have t2 : ¬ ((l.length : Int) ≤ (m : Int)) := by omega
  have c0d : w.drew.cell? ⟨C, 0, none⟩ = some (.slice aa (allB l).length acap) := c0
  have hupd := hup _ (Below.refl _ _).drew
  clear h hB hS hup
  generalize allB (l.drop m) = Z at *
  generalize endB l m = E at *
  generalize (allB l).length = A at *
  go_enter Tryz.func84, Tryz.ntmps84
  go_wp2_with fail
  refine hlen.mono ?_
  rintro e w1 ⟨rfl, rfl⟩
  go_wp2_with fail
  have hdec := dec_goodA (HS.out.later (Below.refl _ _).drew) hA (by omega) (hL.later (Below.refl _ _).drew) hD.out
  clear hlen HS hL hD hA t1 t2 ho
  go_region_with (first | (go_at_call 117; refine hupd.mono ?_; rintro e w2 ⟨rfl, rfl⟩) | (go_at_call 116; refine hdec.mono ?_; rintro e w3 ⟨⟨y, rfl, hY⟩, hb3⟩))
  all_goals go_wp2_with fail
  all_goals refine bodyPost_ret (results_tmp2 rfl _ _ _) rfl ?_
  all_goals exact ⟨⟨_, rfl, hY⟩, (Below.refl _ _).drew.trans hb3⟩
end
end Go.Proofs.YtehkjbpgibdgpadGreatDoor
