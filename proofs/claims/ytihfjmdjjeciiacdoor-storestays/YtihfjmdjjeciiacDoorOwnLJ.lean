/-
  The walk of the reference's Own: a round in memory of its own, and where each deed of it lies.
-/
import Derived.Test.YtihfjmdjjeciiacDoorJqLo
import Derived.Laws.OwnMore
import Derived.Maps.AppendAt
namespace Go.Proofs.YtihfjmdjjeciiacDoor
open Go.RowKit

theorem infoDeedL : (Tryd.prog.info? 61).map (fun i => (i.zero, i.size, i.bytes)) = some (some (.slice none 0 0), 1, 24) := by kernel_rfl
theorem infoOpL : (Tryd.prog.info? 63).map (fun i => (i.zero, i.size, i.bytes)) = some (some (.agg #[.int .i64 0, .int .i64 0, .int .i64 0, .int .i64 0, .int .i64 0]), 5, 40) := by kernel_rfl
def putOL (D : Nat → Value) (n : Nat) (v : Value) (i : Nat) : Value := if i = n then v else D i

/-- A deed of the call's own, beside the row u, that may be written. -/
def DOwn (N : Nat) (u : Value) (w : World) (v : Value) (d : List Op5) : Prop :=
  DeedIn (fun g => N ≤ g ∧ u.ownBlock ≠ some g) w v d ∧ ∀ b off n c, v = .slice (some ⟨b, off, none⟩) n c → (N ≤ b ∧ u.ownBlock ≠ some b) ∧ b < w.heap.size ∧ ∀ o, w.frozen? ⟨b, o, none⟩ = false
theorem DOwn.grew {N : Nat} {u : Value} {w w' : World} {v : Value} {d : List Op5} (h : DOwn N u w v d) {S : Nat → Prop} (hg : Grew S w w') (hS : ∀ b, N ≤ b → u.ownBlock ≠ some b → ¬ S b) : DOwn N u w' v d :=
  ⟨h.1.grew hg fun b hb => hS b hb.1 hb.2, fun b off n c e => by
    obtain ⟨h1, h2, h3⟩ := h.2 b off n c e
    exact ⟨h1, Nat.lt_of_lt_of_le h2 hg.size, fun o => by rw [hg.frozen (p := ⟨b, o, none⟩) h2 (hS b h1.1 h1.2)]; exact h3 o⟩⟩
theorem DOwn.later {N : Nat} {u : Value} {w w' : World} {v : Value} {d : List Op5} (h : DOwn N u w v d) (hb : Below w.heap.size w w') : DOwn N u w' v d := h.grew (S := fun _ => False) (Grew.of_below hb) (fun _ _ _ h => h)

/-- Deeds in memory of their own, and the row of them. -/
structure OwnLAt (w : World) (N : Nat) (u : Value) (n : Nat) (D : Nat → Value) (r : List (List Op5)) : Prop where
  row : w.ownsRow N 61 1 u n ((List.range n).map D)
  dd : ∀ i (_ : i < n) (h : i < r.length), DOwn N u w (D i) r[i]
theorem OwnLAt.later {w w' : World} {N : Nat} {u : Value} {n : Nat} {D : Nat → Value} {r : List (List Op5)} (h : OwnLAt w N u n D r) (hb : Below w.heap.size w w') : OwnLAt w' N u n D r :=
  ⟨owns_below h.row hb, fun i hi hr => (h.dd i hi hr).later hb⟩
theorem OwnLAt.push {w w' : World} {N : Nat} {u v1 : Value} {n : Nat} {D : Nat → Value} {r : List (List Op5)} (h : OwnLAt w N u n D r) {dv : Value} (hd : ∀ hr : n < r.length, DOwn N u w dv r[n])
    (ho : w'.ownsRow N 61 1 v1 (n + 1) ((List.range n).map D ++ [dv])) (hg : w.grownBy w' u.ownBlock) (hat : v1.ownBlock = u.ownBlock ∨ v1.ownBlock = some w.heap.size) : OwnLAt w' N v1 (n + 1) (putOL D n dv) r := by
  have hgs : Grew (fun b => u.ownBlock = some b) w w' := ⟨hg.os, hg.tape, hg.output, hg.size, fun k hk hn => hg.block k hk (fun e => hn e.symm)⟩
  refine ⟨?_, fun i hi hr => ?_⟩
  · have : (List.range (n + 1)).map (putOL D n dv) = (List.range n).map D ++ [dv] := by
      rw [List.range_succ, List.map_append]
      congr 1
      · apply List.map_congr_left
        intro i hi
        have : i < n := by simpa using hi
        unfold putOL; rw [if_neg (by omega)]
      · simp [putOL]
    rw [this]; exact ho
  · have key : ∀ v, DOwn N u w v r[i] → DOwn N v1 w' v r[i] := fun v h1 => by
      have hne : ∀ b, b < w.heap.size → u.ownBlock ≠ some b → v1.ownBlock ≠ some b := fun b hb hn => by
        rcases hat with e | e
        · rw [e]; exact hn
        · rw [e]; intro e'; have := Option.some.inj e'; omega
      have h2 : DeedIn (fun g => (N ≤ g ∧ u.ownBlock ≠ some g) ∧ g < w.heap.size) w v r[i] := h1.1.mono fun b hb hp => ⟨hp, hb⟩
      refine ⟨(h2.grew hgs (fun b hb e => hb.1.2 e)).mono fun b _ hb => ⟨hb.1.1, hne b hb.2 hb.1.2⟩, fun b off n c e => ?_⟩
      obtain ⟨k1, k2, k3⟩ := (h1.grew hgs (fun b _ hb e => hb e)).2 b off n c e
      exact ⟨⟨k1.1, hne b (h1.2 b off n c e).2.1 k1.2⟩, k2, k3⟩
    unfold putOL
    by_cases e : i = n
    · subst e; rw [if_pos rfl]; exact key _ (hd hr)
    · rw [if_neg e]; exact key _ (h.dd i (by omega) hr)
/-- A round in memory of the call's own. -/
theorem OwnLAt.round {w : World} {N : Nat} {u : Value} {D : Nat → Value} {r : List (List Op5)} (h : OwnLAt w N u r.length D r) : RoundIn (fun b => N ≤ b) w u r := by
  obtain ⟨a, cap, rfl, -⟩ := owns_slice h.row
  refine ⟨a, cap, rfl, fun i hi => ?_⟩
  have hlt := fun g hg => (owns_lt (g := g) h.row hg).1
  obtain ⟨g, cap', e, hc⟩ := owns_cells h.row (by omega)
  cases e
  exact ⟨g, 0, hlt g rfl, rfl, D i, by rw [Nat.zero_add]; exact hc i _ (by simp [hi]), (h.dd i hi hi).1.mono fun b _ hb => hb.1⟩

theorem dOwn_new {w : World} {N M : Nat} {u v : Value} {d : List Op5} {t : TypeId} (h0 : 0 < d.length) (h : w.ownsRow M t 5 v d.length (deedCells d)) (hN : N ≤ M) (hu : ∀ g, M ≤ g → u.ownBlock ≠ some g) : DOwn N u w v d := by
  have hlt := fun g hg => owns_lt (g := g) h hg
  rcases h.2 with ⟨-, e0⟩ | ⟨g, cap, cur, rfl, hb, hg, -⟩
  · omega
  · have hc := fun j x (hj : (deedCells d)[j]? = some x) => World.ownsRow.cells h (g := g) rfl j x hj
    refine ⟨⟨_, cap, rfl, fun i hi => ⟨g, 0, ⟨by omega, hu g hb⟩, rfl, ?_⟩⟩, fun b off n c e => ?_⟩
    · obtain ⟨p0, p1, p2, p3, p4⟩ := deedCells_at d i hi
      simp only [addr_add] at hc
      simp only [Nat.zero_add] at hc ⊢
      exact ⟨hc _ _ p0, hc _ _ p1, hc _ _ p2, hc _ _ p3, hc _ _ p4⟩
    · simp only [Value.slice.injEq, Option.some.injEq, Addr.mk.injEq] at e
      obtain ⟨⟨rfl, -⟩, -⟩ := e
      exact ⟨⟨by omega, hu _ hb⟩, (hlt _ rfl).2, fun o => by simp [World.frozen?, hg]⟩

theorem run_append_emptyL (w : World) (ty : TypeId) (da : Option Addr) (cap : Nat) : (Builtin.append_ #[61, 61] ty #[.slice none 0 0, .slice da 0 cap]).run Tryd.prog w = .ok (.slice none 0 0) w := by
  obtain ⟨i, hi, -, hs, -⟩ := info_parts infoOpL
  have hl : ∀ (x : Addr), (loadCells x 0).run Tryd.prog w = .ok #[] w := fun x => by simpa using run_loadCells_list (P := Tryd.prog) w x [] (by simp)
  cases da <;> simp [Builtin.append_, run_underlying Tryd.underlying61, Builtin.lenOf, Builtin.firstCells, sizeOf, typeInfo, hi, hl]
theorem wpList_append_emptyL {w : World} {ops : Array Oper} {rest : List Oper} {o : Oper} {a : Act} {Q : Exit → Act → World → Prop} (hgd : o.guard = none) (x y : Operand)
    (ho : o.op = .call { callee := .builtin .append, args := #[x, y], argTypes := #[61, 61] }) (da : Option Addr) (cap : Nat) (hx : a.eval x = .slice none 0 0) (hy : a.eval y = .slice da 0 cap)
    (h : wpList Tryd.prog ops Q rest (a.put o.dst (.slice none 0 0)) w) : wpList Tryd.prog ops Q (o :: rest) a w := by
  refine wpList_plain hgd fun K hK => ?_
  have hrun := run_append_emptyL w o.type da cap
  unfold Oper.wp
  simp [execOp, ho, resolve, invoke, builtin, hx, hy, hrun, Result.andThen]
  exact hK _ _ h
theorem cell_one_newL (w : World) (v : Value) (t : TypeId) : ∀ j u, ([v] : List Value)[j]? = some u → (w.alloc (.cells #[v] t)).cell? ((⟨w.heap.size, 0, none⟩ : Addr).add j) = some u := fun j u hu => by
  rw [addr_add, Nat.zero_add, cell_of_row _ _ j _ t (0, 0) (heap_alloc_new w _)]
  simpa using hu

set_option maxRecDepth 100000 in
set_option maxHeartbeats 2000000 in
theorem ownL_any (v : Value) (r : List (List Op5)) (w : World) (hr : RoundAt w v r) (h8 : r.length ≤ 1000) (h14 : ∀ i (h : i < r.length), r[i].length ≤ 100000) :
    Calls Tryd.prog 31 #[v] w fun e w' => ∃ u D, e = .returned u ∧ OwnLAt w' w.heap.size u r.length D r ∧ Below w.heap.size w w' := by
  obtain ⟨i1, hi1, hz0, hz1, hz2⟩ := info_parts infoDeedL
  obtain ⟨i2, hi2, hy0, hy1, hy2⟩ := info_parts infoOpL
  obtain ⟨a, cap, rfl, hr0⟩ := hr
  go_enter Tryd.func31, Tryd.ntmps31
  go_wp2_with fail
  go_loopg [3, 4] r.length (fun g v i wq => ∃ (m : Nat) (u : Value) (D : Nat → Value), m ≤ r.length ∧ g = r.length - m ∧ i = .int .i64 m ∧ u = v ∧ OwnLAt wq w.heap.size u m D r ∧ Below w.heap.size w wq)
  case atStart => exact ⟨0, _, fun _ => .slice none 0 0, by omega, by omega, rfl, rfl, ⟨by simpa using World.ownsRow_nil _ _ _ _, fun i hi => by omega⟩, Below.refl _ _⟩
  case round =>
    obtain ⟨m, u, D, hm, hg, rfl, hu, hO, hB⟩ := hrel
    subst hu
    by_cases hlt : m < r.length
    · obtain ⟨b, off, rfl, dv, c0, hD⟩ := hr0 m hlt
      replace c0 := cell_later hB c0
      replace hD := hD.later hB
      have hmi : (m : Int) < (r.length : Int) := by omega
      have hl14 := h14 m hlt
      have HD := hD
      obtain ⟨da, dcap, rfl, -⟩ := hD
      by_cases hd0 : 0 < r[m].length
      · obtain ⟨db, doff, rfl, hdc⟩ := HD.cells hd0
        have hm' := hO.row
        have hz := hB.size
        have hlt' : ∀ g, u.ownBlock = some g → w.heap.size ≤ g ∧ g < wr.heap.size := fun g hg => owns_lt hm' hg
        have HL : Hid ((deedCells r[m]).length = r[m].length * 5) := deedCells_length _
        have H1 : Hid (∀ u ∈ deedCells r[m], u.oneCell' = true) := deedCells_one _
        have HN : Hid (∀ j u, (deedCells r[m])[j]? = some u → wr.cell? ((⟨db, doff, none⟩ : Addr).add j) = some u) := hdc
        have HD' : Hid (∀ w1 v', World.ownsRow w1 wr.heap.size 63 5 v' r[m].length (deedCells r[m]) → DOwn w.heap.size u w1 v' r[m]) := fun w1 v' ho => dOwn_new hd0 ho hz (fun g hg e => by have := (hlt' g e).2; omega)
        obtain ⟨rows, erows⟩ : ∃ rows, rows = (List.range m).map D := ⟨_, rfl⟩
        rw [← erows] at hm'
        have HO : Hid (OwnLAt wr w.heap.size u m D r) := hO
        clear hdc HD hO hr0
        generalize deedCells r[m] = LC at *
        generalize r[m].length = dl at *
        go_wp2_with (first | (at_builtin; refine wpList_append_own _ rfl _ _ 61 rfl wr.heap.size 63 i2 (.agg #[.int .i64 0, .int .i64 0, .int .i64 0, .int .i64 0, .int .i64 0]) 5 40 Tryd.underlying61 hi2 hy0 hy1 hy2 rfl (by decide) (.slice none 0 0) 0 [] rfl (World.ownsRow_nil _ _ _ _) ⟨db, doff, none⟩ dl dcap LC rfl HL.out HN.out H1.out (by unfold maxLen; omega) (by omega) (Nat.le_refl _) ?_; intro v' w1 hown' hgrow hnil; rw [Nat.zero_add, List.nil_append] at hown'; have hb1 : Below wr.heap.size wr w1 := ⟨hgrow.os, hgrow.tape, hgrow.output, hgrow.size, fun k hk => hgrow.block k hk (by simp [Value.ownBlock])⟩; have hm1 := owns_below hm' hb1; have hs1 := hb1.size; have HDN := HD'.out _ _ hown'; obtain ⟨g1, cap1, rfl, -⟩ := owns_cells hown' (by omega)) | (at_builtin; refine wpList_append_own_at _ rfl _ _ 23 rfl w.heap.size 61 i1 (.slice none 0 0) 1 24 Tryd.underlying23 hi1 hz0 hz1 hz2 rfl (by decide) u m rows rfl (owns_below hm1 ((Below.refl _ _).alloc (Nat.le_refl _) _)) ⟨w1.heap.size, 0, none⟩ 1 1 [.slice (some ⟨g1, 0, none⟩) dl cap1] rfl rfl (cell_one_newL _ _ _) (by simp [Value.oneCell']) (by unfold maxLen; omega) (by omega) (by simp; omega) ?_; intro v2 w2 ho2 hg2 _ hat2))
        have hbA : Below w1.heap.size w1 (w1.alloc (.cells #[.slice (some ⟨g1, 0, none⟩) dl cap1] 61)) := (Below.refl _ _).alloc (Nat.le_refl _) _
        have hdn := HDN.later hbA
        rw [erows] at ho2
        have hO2 := ((HO.out.later hb1).later hbA).push (fun _ => hdn) ho2 hg2 hat2
        have hB2 : Below w.heap.size w w2 := ((hB.trans (hb1.mono hB.size)).alloc (by omega) _).grown hg2 (by simp; omega) (fun k hk => (hlt' k hk).1)
        clear hdn HDN hown' hgrow hm1 hm' HO
        go_wp2_with fail
        go_roundg (r.length - (m + 1))
        case measure => omega
        case rel => exact ⟨m + 1, _, _, by omega, rfl, by go_num, rfl, hO2, hB2⟩
      · have e0 : r[m].length = 0 := by omega
        have hm' := hO.row
        have hz := hB.size
        obtain ⟨rows, erows⟩ : ∃ rows, rows = (List.range m).map D := ⟨_, rfl⟩
        rw [← erows] at hm'
        have hlt' : ∀ g, u.ownBlock = some g → w.heap.size ≤ g ∧ g < wr.heap.size := fun g hg => owns_lt hm' hg
        have HO : Hid (OwnLAt wr w.heap.size u m D r) := hO
        have hdn : Hid (∀ w' : World, DOwn w.heap.size u w' (.slice none 0 0) r[m]) := fun w' => ⟨⟨none, 0, by rw [e0], fun i hi => by omega⟩, fun b off n c e => by cases e⟩
        rw [e0] at c0
        clear hO hr0 HD hd0
        go_wp2_with (first | (refine wpList_append_emptyL rfl (.tmp 13) (.tmp 17) rfl da dcap rfl rfl ?_) | (at_builtin; refine wpList_append_own_at _ rfl _ _ 23 rfl w.heap.size 61 i1 (.slice none 0 0) 1 24 Tryd.underlying23 hi1 hz0 hz1 hz2 rfl (by decide) u m rows rfl (owns_below hm' ((Below.refl _ _).alloc (Nat.le_refl _) _)) ⟨wr.heap.size, 0, none⟩ 1 1 [.slice none 0 0] rfl rfl (cell_one_newL _ _ _) (by simp [Value.oneCell']) (by unfold maxLen; omega) (by omega) (by simp; omega) ?_; intro v2 w2 ho2 hg2 _ hat2))
        have hbA : Below wr.heap.size wr (wr.alloc (.cells #[.slice none 0 0] 61)) := (Below.refl _ _).alloc (Nat.le_refl _) _
        rw [erows] at ho2
        have hO2 := (HO.out.later hbA).push (fun _ => hdn.out _) ho2 hg2 hat2
        have hB2 : Below w.heap.size w w2 := (hB.alloc (by omega) _).grown hg2 (by simp; omega) (fun k hk => (hlt' k hk).1)
        clear hm' HO
        go_wp2_with fail
        go_roundg (r.length - (m + 1))
        case measure => omega
        case rel => exact ⟨m + 1, _, _, by omega, rfl, by go_num, rfl, hO2, hB2⟩
    · obtain rfl : m = r.length := by omega
      clear hr0
      go_wp2_with fail
      go_ret
      exact ⟨u, D, rfl, hO, hB⟩
end Go.Proofs.YtihfjmdjjeciiacDoor
