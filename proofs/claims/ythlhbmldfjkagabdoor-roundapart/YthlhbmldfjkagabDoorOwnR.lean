/-
  The walk of the reference's Own.
-/
import Derived.Test.YthlhbmldfjkagabDoorOwnA
import Derived.Test.YthlhbmldfjkagabDoorBoardA
import Derived.Laws.OwnMore
namespace Go.Proofs.YthlhbmldfjkagabDoor
open Go.RowKit Go.Shelf

/-- Deeds in memory of their own, and the row of them. -/
structure OwnAt (w : World) (N : Nat) (u : Value) (n : Nat) (D : Nat → Value) (r : List (List Op5)) : Prop where
  row : w.ownsRow N 50 1 u n ((List.range n).map D)
  dd : ∀ i (_ : i < n) (h : i < r.length), DeedIn (fun g => u.ownBlock ≠ some g) w (D i) r[i]
theorem OwnAt.later {w w' : World} {N : Nat} {u : Value} {n : Nat} {D : Nat → Value} {r : List (List Op5)} (h : OwnAt w N u n D r) (hb : Below w.heap.size w w') : OwnAt w' N u n D r :=
  ⟨owns_below h.row hb, fun i hi hr => (h.dd i hi hr).later hb⟩
theorem OwnAt.push {w w' : World} {N : Nat} {u v1 : Value} {n : Nat} {D : Nat → Value} {r : List (List Op5)} (h : OwnAt w N u n D r) {dv : Value} (hd : ∀ hr : n < r.length, DeedIn (fun g => u.ownBlock ≠ some g) w dv r[n])
    (ho : w'.ownsRow N 50 1 v1 (n + 1) ((List.range n).map D ++ [dv])) (hg : w.grownBy w' u.ownBlock) (hat : v1.ownBlock = u.ownBlock ∨ v1.ownBlock = some w.heap.size) : OwnAt w' N v1 (n + 1) (putV D n dv) r := by
  have hgs : Grew (fun b => u.ownBlock = some b) w w' := ⟨hg.os, hg.tape, hg.output, hg.size, fun k hk hn => hg.block k hk (fun e => hn e.symm)⟩
  refine ⟨?_, fun i hi hr => ?_⟩
  · have : (List.range (n + 1)).map (putV D n dv) = (List.range n).map D ++ [dv] := by
      rw [List.range_succ, List.map_append]
      congr 1
      · apply List.map_congr_left
        intro i hi
        have : i < n := by simpa using hi
        unfold putV; rw [if_neg (by omega)]
      · simp [putV]
    rw [this]; exact ho
  · have key : ∀ v, DeedIn (fun g => u.ownBlock ≠ some g) w v r[i] → DeedIn (fun g => v1.ownBlock ≠ some g) w' v r[i] := fun v h1 => by
      have h2 : DeedIn (fun g => u.ownBlock ≠ some g ∧ g < w.heap.size) w v r[i] := h1.mono fun b hb hp => ⟨hp, hb⟩
      refine (h2.grew hgs (fun b hb e => hb.1 e)).mono fun b _ hb => ?_
      rcases hat with e | e
      · rw [e]; exact hb.1
      · rw [e]; intro e'; have := Option.some.inj e'; omega
    unfold putV
    by_cases e : i = n
    · subst e; rw [if_pos rfl]; exact key _ (hd hr)
    · rw [if_neg e]; exact key _ (h.dd i (by omega) hr)

theorem deedIn_owns {w : World} {N : Nat} {v : Value} {d : List Op5} {t : TypeId} (h0 : 0 < d.length) (h : w.ownsRow N t 5 v d.length (deedCells d)) : DeedIn (fun g => N ≤ g) w v d := by
  have hlt := fun g hg => (owns_lt (g := g) h hg).1
  obtain ⟨g, cap, rfl, hc⟩ := owns_cells h h0
  refine ⟨_, cap, rfl, fun i hi => ⟨g, 0, hlt g rfl, rfl, ?_⟩⟩
  obtain ⟨p0, p1, p2, p3, p4⟩ := deedCells_at d i hi
  simp only [Nat.zero_add]
  exact ⟨hc _ _ p0, hc _ _ p1, hc _ _ p2, hc _ _ p3, hc _ _ p4⟩

theorem run_append_empty (w : World) (ty : TypeId) (da : Option Addr) (cap : Nat) : (Builtin.append_ #[50, 50] ty #[.slice none 0 0, .slice da 0 cap]).run Tryd.prog w = .ok (.slice none 0 0) w := by
  obtain ⟨i, hi, -, hs, -⟩ := info_parts info61
  have hl : ∀ (x : Addr), (loadCells x 0).run Tryd.prog w = .ok #[] w := fun x => by simpa using run_loadCells_list (P := Tryd.prog) w x [] (by simp)
  cases da <;> simp [Builtin.append_, run_underlying Tryd.underlying50, Builtin.lenOf, Builtin.firstCells, sizeOf, typeInfo, hi, hl]
theorem wpList_append_empty {w : World} {ops : Array Oper} {rest : List Oper} {o : Oper} {a : Act} {Q : Exit → Act → World → Prop} (hgd : o.guard = none) (x y : Operand)
    (ho : o.op = .call { callee := .builtin .append, args := #[x, y], argTypes := #[50, 50] }) (da : Option Addr) (cap : Nat) (hx : a.eval x = .slice none 0 0) (hy : a.eval y = .slice da 0 cap)
    (h : wpList Tryd.prog ops Q rest (a.put o.dst (.slice none 0 0)) w) : wpList Tryd.prog ops Q (o :: rest) a w := by
  refine wpList_plain hgd fun K hK => ?_
  have hrun := run_append_empty w o.type da cap
  unfold Oper.wp
  simp [execOp, ho, resolve, invoke, builtin, hx, hy, hrun, Result.andThen]
  exact hK _ _ h

set_option maxRecDepth 100000 in
set_option maxHeartbeats 2000000 in
theorem ownR_any (v : Value) (r : List (List Op5)) (w : World) (hr : RoundAt w v r) (h8 : r.length ≤ 8) (h14 : ∀ i (h : i < r.length), r[i].length ≤ 14) :
    Calls Tryd.prog 45 #[v] w fun e w' => ∃ u D, e = .returned u ∧ OwnAt w' w.heap.size u r.length D r ∧ Below w.heap.size w w' := by
  obtain ⟨i1, hi1, hz0, hz1, hz2⟩ := info_parts info50
  obtain ⟨i2, hi2, hy0, hy1, hy2⟩ := info_parts info61
  obtain ⟨a, cap, rfl, hr0⟩ := hr
  go_enter Tryd.func45, Tryd.ntmps45
  go_wp2_with fail
  go_loopg [3, 4] r.length (fun g v i wq => ∃ (m : Nat) (u : Value) (D : Nat → Value), m ≤ r.length ∧ g = r.length - m ∧ i = .int .i64 m ∧ u = v ∧ OwnAt wq w.heap.size u m D r ∧ Below w.heap.size w wq)
  case atStart => exact ⟨0, _, fun _ => .slice none 0 0, by omega, by omega, rfl, rfl, ⟨by simpa using World.ownsRow_nil _ _ _ _, fun i hi => by omega⟩, Below.refl _ _⟩
  case round =>
    obtain ⟨m, u, D, hm, hg, rfl, hu, hO, hB⟩ := hrel
    subst hu
    by_cases hlt : m < r.length
    · obtain ⟨b, off, rfl, dv, c0, hD⟩ := hr0 m hlt
      replace c0 := cell_later hB c0
      replace hD := hD.later hB
      have hmi : (m : Int) < (r.length : Int) := by omega
      have hl14 := h14 m hlt
      have HD := hD
      obtain ⟨da, dcap, rfl, -⟩ := hD
      by_cases hd0 : 0 < r[m].length
      · obtain ⟨db, doff, rfl, hdc⟩ := HD.cells hd0
        have hm' := hO.row
        have HL : Hid ((deedCells r[m]).length = r[m].length * 5) := deedCells_length _
        have H1 : Hid (∀ u ∈ deedCells r[m], u.oneCell' = true) := deedCells_one _
        have HN : Hid (∀ j u, (deedCells r[m])[j]? = some u → wr.cell? ((⟨db, doff, none⟩ : Addr).add j) = some u) := hdc
        have HD' : Hid (∀ w1 v', World.ownsRow w1 wr.heap.size 91 5 v' r[m].length (deedCells r[m]) → DeedIn (fun g => wr.heap.size ≤ g) w1 v' r[m]) := fun w1 v' ho => deedIn_owns hd0 ho
        have hz := hB.size
        obtain ⟨rows, erows⟩ : ∃ rows, rows = (List.range m).map D := ⟨_, rfl⟩
        rw [← erows] at hm'
        have HO : Hid (OwnAt wr w.heap.size u m D r) := hO
        have hlt' : ∀ g, u.ownBlock = some g → w.heap.size ≤ g ∧ g < wr.heap.size := fun g hg => owns_lt hm' hg
        clear hdc HD hO hr0
        generalize deedCells r[m] = LC at *
        generalize r[m].length = dl at *
        go_wp2_with (first | (at_builtin; refine wpList_append_own _ rfl _ _ 50 rfl wr.heap.size 91 i2 (.agg #[.int .i64 0, .int .i64 0, .int .i64 0, .int .i64 0, .int .i64 0]) 5 40 Tryd.underlying50 hi2 hy0 hy1 hy2 rfl (by decide) (.slice none 0 0) 0 [] rfl (World.ownsRow_nil _ _ _ _) ⟨db, doff, none⟩ dl dcap LC rfl HL.out HN.out H1.out (by unfold maxLen; omega) (by omega) (Nat.le_refl _) ?_; intro v' w1 hown' hgrow hnil; rw [Nat.zero_add, List.nil_append] at hown'; have hb1 : Below wr.heap.size wr w1 := ⟨hgrow.os, hgrow.tape, hgrow.output, hgrow.size, fun k hk => hgrow.block k hk (by simp [Value.ownBlock])⟩; have hm1 := owns_below hm' hb1; have hs1 := hb1.size; have HDN := HD'.out _ _ hown'; obtain ⟨g1, cap1, rfl, -⟩ := owns_cells hown' (by omega)) | (at_builtin; refine wpList_append_own_at _ rfl _ _ 25 rfl w.heap.size 50 i1 (.slice none 0 0) 1 24 Tryd.underlying25 hi1 hz0 hz1 hz2 rfl (by decide) u m rows rfl (owns_below hm1 ((Below.refl _ _).alloc (Nat.le_refl _) _)) ⟨w1.heap.size, 0, none⟩ 1 1 [.slice (some ⟨g1, 0, none⟩) dl cap1] rfl rfl (cell_one_new _ _ _) (by simp [Value.oneCell']) (by unfold maxLen; omega) (by omega) (by simp; omega) ?_; intro v2 w2 ho2 hg2 _ hat2))
        have hbA : Below w1.heap.size w1 (w1.alloc (.cells #[.slice (some ⟨g1, 0, none⟩) dl cap1] 50)) := (Below.refl _ _).alloc (Nat.le_refl _) _
        have hdn : DeedIn (fun g => u.ownBlock ≠ some g) (w1.alloc (.cells #[.slice (some ⟨g1, 0, none⟩) dl cap1] 50)) (.slice (some ⟨g1, 0, none⟩) dl cap1) r[m] := (HDN.later hbA).mono fun b _ hb e => by have := (hlt' b e).2; omega
        rw [erows] at ho2
        have hO2 := ((HO.out.later hb1).later hbA).push (fun _ => hdn) ho2 hg2 hat2
        have hB2 : Below w.heap.size w w2 := ((hB.trans (hb1.mono hB.size)).alloc (by omega) _).grown hg2 (by simp; omega) (fun k hk => (hlt' k hk).1)
        clear hdn HDN hown' hgrow hm1 hm' HO
        go_wp2_with fail
        go_roundg (r.length - (m + 1))
        case measure => omega
        case rel => exact ⟨m + 1, _, _, by omega, rfl, by go_num, rfl, hO2, hB2⟩
      · have e0 : r[m].length = 0 := by omega
        have hm' := hO.row
        have hz := hB.size
        obtain ⟨rows, erows⟩ : ∃ rows, rows = (List.range m).map D := ⟨_, rfl⟩
        rw [← erows] at hm'
        have hlt' : ∀ g, u.ownBlock = some g → w.heap.size ≤ g ∧ g < wr.heap.size := fun g hg => owns_lt hm' hg
        have HO : Hid (OwnAt wr w.heap.size u m D r) := hO
        have hdn : Hid (∀ w' : World, DeedIn (fun g => u.ownBlock ≠ some g) w' (.slice none 0 0) r[m]) := fun w' => ⟨none, 0, by rw [e0], fun i hi => by omega⟩
        rw [e0] at c0
        clear hO hr0 HD hd0
        go_wp2_with (first | (refine wpList_append_empty rfl (.tmp 13) (.tmp 17) rfl da dcap rfl rfl ?_) | (at_builtin; refine wpList_append_own_at _ rfl _ _ 25 rfl w.heap.size 50 i1 (.slice none 0 0) 1 24 Tryd.underlying25 hi1 hz0 hz1 hz2 rfl (by decide) u m rows rfl (owns_below hm' ((Below.refl _ _).alloc (Nat.le_refl _) _)) ⟨wr.heap.size, 0, none⟩ 1 1 [.slice none 0 0] rfl rfl (cell_one_new _ _ _) (by simp [Value.oneCell']) (by unfold maxLen; omega) (by omega) (by simp; omega) ?_; intro v2 w2 ho2 hg2 _ hat2))
        have hbA : Below wr.heap.size wr (wr.alloc (.cells #[.slice none 0 0] 50)) := (Below.refl _ _).alloc (Nat.le_refl _) _
        rw [erows] at ho2
        have hO2 := (HO.out.later hbA).push (fun _ => hdn.out _) ho2 hg2 hat2
        have hB2 : Below w.heap.size w w2 := (hB.alloc (by omega) _).grown hg2 (by simp; omega) (fun k hk => (hlt' k hk).1)
        clear hm' HO
        go_wp2_with fail
        go_roundg (r.length - (m + 1))
        case measure => omega
        case rel => exact ⟨m + 1, _, _, by omega, rfl, by go_num, rfl, hO2, hB2⟩
    · obtain rfl : m = r.length := by omega
      clear hr0
      go_wp2_with fail
      go_ret
      exact ⟨u, D, rfl, hO, hB⟩
end Go.Proofs.YthlhbmldfjkagabDoor
