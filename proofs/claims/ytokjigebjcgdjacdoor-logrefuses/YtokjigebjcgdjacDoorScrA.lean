/-
  The walks of the reference's log: Bytes, Put.
-/
import Derived.Test.YtokjigebjcgdjacDoorBofL
import Derived.Test.YtokjigebjcgdjacDoorMemS
import Derived.Test.YtokjigebjcgdjacDoorFauL
namespace Go.Proofs.YtokjigebjcgdjacDoor
open Go.RowKit

theorem cell_new1 (w : World) (v : Value) (t : TypeId) : (w.alloc (.cells #[v] t)).cell? ⟨w.heap.size, 0, none⟩ = some v := by
  rw [cell_of_row _ _ 0 _ t (0, 0) (heap_alloc_new w _)]; rfl
/-- A call, as one step of a region that draws. -/
theorem step_call1 {ops : Array Oper} {o : Oper} {a : Act} {w : World} {K : Act → World → Prop} {Q : Exit → Act → World → Prop} {E : Prop} {R : Value → World → Prop} (hgd : o.guard = none) (f : FuncId) (x : Operand) (t : TypeId)
    (ho : o.op = .call { callee := .value (.func f), args := #[x], argTypes := #[t] }) (hen : ∀ (args : Array Value) (w : World), (callFunc f args).run Tryd.prog w = .ok (.enter f args) w) {v : Value} (hx : a.eval x = v)
    (hc : Calls Tryd.prog f #[v] w fun e w' => ∃ u, e = .returned u ∧ R u w') (h : ∀ u w', R u w' → K (a.put o.dst u) w') : if Region.wanted o (yielded ops a.tmps) = true then Oper.wp Tryd.prog o a w K Q else E := by
  have hw : Region.wanted o (yielded ops a.tmps) = true := by simp [Region.wanted, hgd]
  rw [if_pos hw]
  obtain ⟨dst, op, ty, pos, after, guard⟩ := o
  dsimp only at ho hgd
  subst ho
  have e : (#[] ++ (#[x] : Array Operand).map a.eval ++ #[] : Array Value) = #[v] := by simp [hx]
  unfold Oper.wp
  rw [execOp_call_go, hen, Oper.upon_enter, e]
  refine hc.mono ?_
  rintro e w' ⟨u, rfl, hR⟩
  exact h u w' hR
theorem step_append_rowL {ops : Array Oper} {o : Oper} {a : Act} {w : World} {K : Act → World → Prop} {Q : Exit → Act → World → Prop} {E : Prop} (hgd : o.guard = none) (s y : Operand)
    (hop : o.op = .call { callee := .builtin .append, args := #[s, y], argTypes := #[37, 37] }) {v x : Value} {xs : List Value} (hs : a.eval s = v) (h : RowL w v xs) (hx : x.oneCell' = true) (b c : Nat) (hy : a.eval y = .slice (some ⟨b, 0, none⟩) 1 c) (hb : w.cell? ⟨b, 0, none⟩ = some x) (hlen : xs.length ≤ 1000)
    (hk : ∀ v' w', w'.ownsRow 0 23 1 v' (xs.length + 1) (xs ++ [x]) → w.grownBy w' v.ownBlock → (v'.ownBlock = v.ownBlock ∨ v'.ownBlock = some w.heap.size) → K (a.put o.dst v') w') : if Region.wanted o (yielded ops a.tmps) = true then Oper.wp Tryd.prog o a w K Q else E := by
  have hw : Region.wanted o (yielded ops a.tmps) = true := by simp [Region.wanted, hgd]
  rw [if_pos hw]
  obtain ⟨v', w', hrun, r1, r2, r3⟩ := run_append_rowL w o.type h hx b c hb hlen
  unfold Oper.wp execOp
  simp only [hop, resolve, invoke, builtin, Sem.run_bind, Sem.run_pure, Result.andThen_ok, List.map_toArray, List.map_cons, List.map_nil, hs, hy, hrun]
  exact hk v' w' r1 r2 r3

section
variable {Q : Nat → Prop} {w : World} {D : Nat} {l : List (List (List Op5))} {k : Nat}

theorem ScAt.ok (h : ScAt Q w D l k) : LogOk l k := h.1
theorem allB_cut (h : LogOk l k) (n : Nat) : (allB (l.take n)).length ≤ 4000 := by
  have := h.short
  rw [allB_take_drop l n, List.length_append] at this
  omega

set_option maxRecDepth 100000 in
set_option maxHeartbeats 1000000 in
theorem scBytes_any (h : ScAt Q w D l k) {n : Nat} (hn : n ≤ l.length) :
    Calls Tryd.prog 22 #[.pointer (some ⟨D, 0, none⟩), .int .i64 (n : Int)] w fun e w' => (∃ u, e = .returned u ∧ BytesAt w' u (allB (l.take n))) ∧ Below w.heap.size w w' := by
  obtain ⟨i0, hi, hz0, hz1, hz2⟩ := info_parts infoU8
  have ho := h.ok
  have hf := ho.few
  obtain ⟨-, vl, xs, h⟩ := h
  go_enter Tryd.func22, Tryd.ntmps22
  go_wp2_with fail
  go_loopg [5, 6] n (fun g b i wr => ∃ j : Nat, j ≤ n ∧ g = n - j ∧ i = .int .i64 (j : Int) ∧ OwnB wr w.heap.size b (allB (l.take j)) ∧ Below w.heap.size w wr)
  case atStart => exact ⟨0, by omega, by omega, rfl, by simpa [OwnB, allB, byteCells] using World.ownsRow_nil _ _ _ _, Below.refl _ _⟩
  case round =>
    obtain ⟨j, hj, hg, rfl, hO, hB⟩ := hrel
    by_cases hlt : j < n
    · have hr := h.later hB
      obtain ⟨g, cap, rv, rfl, hc, hR⟩ := hr.get (i := j) (by omega)
      have c0 := hr.c0
      have hgood := ho.good _ (List.getElem_mem (show j < l.length by omega))
      have hlr := hgood.len
      have hep := enc_pos l[j]
      have hT : Hid (allB (l.take (j + 1)) = allB (l.take j) ++ encB l[j]) := by
        show _ = _
        rw [List.take_succ_eq_append_getElem (by omega), allB_snoc]
      have hal := allB_cut ho j
      have hsr := hB.size
      have hbo := bytesOf_any hR hgood.1
      have HB : Hid (Below w.heap.size w wr) := hB
      have hjl : (j : Int) < (l.length : Int) := by omega
      clear hr hR hB hgood h
      generalize allB (l.take j) = A at *
      generalize encB l[j] = X at *
      go_wp2_with fail
      refine hbo.mono ?_
      rintro e w1 ⟨⟨u, rfl, hU⟩, hb1⟩
      have hO1 := owns_below hO hb1
      have hB1 : Below w.heap.size w w1 := HB.out.trans (hb1.mono HB.out.size)
      have hs1 := hB1.size
      obtain ⟨ua, ucap, rfl, -⟩ := id hU
      obtain ⟨ub, uoff, rfl, huc⟩ := BytesIn.cells hU (by omega)
      have HN : Hid (∀ j u, (byteCells X)[j]? = some u → w1.cell? ((⟨ub, uoff, none⟩ : Addr).add j) = some u) := huc
      have HL : Hid ((byteCells X).length = X.length * 1) := by show _ = _; rw [byteCells_length]; omega
      clear hbo hc c0 hb1 hO hU huc HB
      go_wp2_with (at_builtin; refine wpList_append_own _ rfl (.tmp 12) (.tmp 20) 26 rfl w.heap.size 5 i0 (.int .u8 0) 1 1 Tryd.underlying26 hi hz0 hz1 hz2 rfl (by decide) u5 _ _ rfl hO1 ⟨ub, uoff, none⟩ X.length ucap (byteCells X) rfl HL.out HN.out (byteCells_one _) (by unfold maxLen; omega) (by omega) hs1 ?_; intro v2 w2 hO2 hg2 _)
      have hB2 : Below w.heap.size w w2 := hB1.grown hg2 hs1 (fun g hg => (World.ownsRow.lt hO1 g hg).1)
      have hO2' : OwnB w2 w.heap.size v2 (allB (l.take (j + 1))) := by
        rw [hT.out]
        unfold OwnB
        rw [← byteCells_append] at hO2
        simpa using hO2
      clear hg2 hO2 hO1 HN HL
      go_roundg (n - (j + 1))
      case measure => omega
      case rel => exact ⟨j + 1, by omega, rfl, by go_num, hO2', hB2⟩
    · obtain rfl : j = n := by omega
      clear h
      go_wp2_with fail
      go_ret
      exact ⟨⟨_, rfl, (owns_bytes hO).at⟩, hB⟩

/-- What Put tells, and what comes of the log. -/
def ScOut (Q : Nat → Prop) (w' : World) (D : Nat) (e : Ending) (l : List (List (List Op5))) (k : Nat) (r : List (List Op5)) : Prop :=
  (okP l r = true ∧ e = .returned (.tuple #[.int .i64 (l.length : Int), .int .i64 0]) ∧ ScAt Q w' D (l ++ [r]) k) ∨ (okP l r = false ∧ ∃ c : Int, c ≠ 0 ∧ e = .returned (.tuple #[.int .i64 0, .int .i64 c]) ∧ ScAt Q w' D l k)

set_option maxRecDepth 100000 in
set_option maxHeartbeats 2000000 in
theorem scPut_any {r : List (List Op5)} {v : Value} (h : ScAt Q w D l k) (hr : RoundAt w v r) (fr : Fits r) (nr : R64 r) :
    Calls Tryd.prog 32 #[.pointer (some ⟨D, 0, none⟩), v] w fun e w' => ScOut (fun b => Q b ∨ w.heap.size ≤ b) w' D e l k r ∧ Grew Q w w' := by
  have hf := h.ok.few
  go_enter Tryd.func32, Tryd.ntmps32
  go_wp2_with fail
  refine (faultsL_any v r w hr fr).mono ?_
  rintro e w1 ⟨⟨c, rfl, hc⟩, hb1⟩
  have h1 := h.later hb1
  have hr1 := hr.later hb1
  have hz1 := hb1.size
  clear h hr
  by_cases h0 : roundF r = 0
  · obtain rfl := hc.2 h0
    clear hc
    have hg := good_of h0 nr
    obtain ⟨vl, cap, c0⟩ : ∃ a cap, w1.cell? ⟨D, 0, none⟩ = some (.slice a l.length cap) := by
      obtain ⟨-, vl, xs, h⟩ := h1
      obtain ⟨a, cap, rfl, -⟩ := h.row.slice
      have := h.c0
      rw [h.len] at this
      exact ⟨a, cap, this⟩
    by_cases h25 : 25 ≤ l.length
    · have t25 : (25 : Int) ≤ (l.length : Int) := by omega
      have hK : Hid (okP l r = false) := by show okP l r = false; simp [okP, roomF]; omega
      go_wp2_with fail
      refine bodyPost_ret (results_tmp2 rfl _ _ _) rfl ?_
      exact ⟨.inr ⟨hK.out, 8, by decide, rfl, h1.mono fun b _ hb => .inl hb⟩, Grew.of_below hb1⟩
    · have t25 : ¬ ((25 : Int) ≤ (l.length : Int)) := by omega
      have hby := scBytes_any h1 (Nat.le_refl l.length)
      rw [List.take_length] at hby
      have hs := h1.ok.short
      have hlr := hg.len
      go_wp2_with fail
      refine hby.mono ?_
      rintro e w2 ⟨⟨u, rfl, hU⟩, hb2⟩
      obtain ⟨ua, ucap, rfl, -⟩ := hU
      have h2 := h1.later hb2
      have hr2 := hr1.later hb2
      have hB2 : Below w.heap.size w w2 := hb1.trans (hb2.mono hb1.size)
      clear hby h1 hr1 hb1 hb2 c0
      go_wp2_with fail
      refine (bytesOf_any hr2 h0).mono ?_
      rintro e w3 ⟨⟨u, rfl, hU⟩, hb3⟩
      obtain ⟨ub, bcap, rfl, -⟩ := hU
      have h3 := h2.later hb3
      have hr3 := hr2.later hb3
      have hB3 : Below w.heap.size w w3 := hB2.trans (hb3.mono hB2.size)
      clear h2 hr2 hb3 hB2
      by_cases hR : (allB l).length + (encB r).length ≤ 4000
      · have hK : Hid (okP l r = true) := by show okP l r = true; simp [okP, roomF, h0]; omega
        have HO : Hid (LogOk (l ++ [r]) k) := h3.ok.put hg (by simp [roomF]; omega)
        have tR : ¬ ((4000 : Int) < ((allB l).length : Int) + ((encB r).length : Int)) := by omega
        generalize (allB l).length = A at *
        generalize (encB r).length = X at *
        obtain ⟨-, vl3, xs, hS⟩ := h3
        have hlt3 := hS.lt
        have hqD := hS.qD
        have hql := hS.ql
        have hxl : xs.length ≤ 25 := by rw [hS.len]; exact hf
        have HXL : Hid (xs.length = l.length) := hS.len
        have hS0 := hS.later (Below.refl _ _).drew
        have hr8 := (roundF_zero.1 h0).1
        have hown := ownL_any v r w3.drew (hr3.later (Below.refl _ _).drew) (by omega) (fun i hi => by have := checkF_len ((roundF_zero.1 h0).2 _ (List.getElem_mem hi)); omega)
        obtain ⟨la, lcap, rfl, -⟩ := hS.row.slice
        have c3 := hS.c0
        have c3d : w3.drew.cell? ⟨D, 0, none⟩ = some (.slice la xs.length lcap) := c3
        have hOW : Hid (Calls Tryd.prog 26 #[v] w3.drew fun e w' => ∃ u, e = .returned u ∧ ∃ ga gcap, u = .slice ga r.length gcap ∧ RoundIn (fun b => w3.heap.size ≤ b) w' u r ∧ Below w3.heap.size w3 w') := by
          refine hown.mono ?_
          rintro e w' ⟨u, Dd, rfl, ho, hb⟩
          obtain ⟨ga, gcap, e, -⟩ := owns_slice ho.row
          exact ⟨u, rfl, ga, gcap, e, ho.round, (Below.refl _ _).drew.trans hb⟩
        have hsz3 := hB3.size
        have HK : Hid (∀ w4 ga gcap, RoundIn (fun b => w3.heap.size ≤ b) w4 (.slice ga r.length gcap) r → Below w3.heap.size w3 w4 → RowL (w4.alloc (.cells #[.slice ga r.length gcap] 23)) (.slice la xs.length lcap) xs ∧ ∀ w5 v5, w5.ownsRow 0 23 1 v5 (xs.length + 1) (xs ++ [.slice ga r.length gcap]) → (w4.alloc (.cells #[.slice ga r.length gcap] 23)).grownBy w5 (Value.slice la xs.length lcap).ownBlock → (v5.ownBlock = (Value.slice la xs.length lcap).ownBlock ∨ v5.ownBlock = some (w4.alloc (.cells #[.slice ga r.length gcap] 23)).heap.size) → w5.cell? ⟨D, 0, none⟩ = some (.slice la xs.length lcap) ∧ (∀ o, w5.frozen? ⟨D, o, none⟩ = false) ∧ ScAt (fun b => Q b ∨ w.heap.size ≤ b) (w5.setCell ⟨D, 0, none⟩ v5) D (l ++ [r]) k ∧ Grew Q w (w5.setCell ⟨D, 0, none⟩ v5)) := fun w4 ga gcap hR4 hb4 => by
          have hbA : Below w3.heap.size w3 (w4.alloc (.cells #[.slice ga r.length gcap] 23)) := hb4.alloc hb4.size _
          have hSA := hS.later hbA
          refine ⟨hSA.row, fun w5 v5 ho hg hat => ?_⟩
          have hG : Grew (fun b => (Value.slice la xs.length lcap).ownBlock = some b) (w4.alloc (.cells #[.slice ga r.length gcap] 23)) w5 := ⟨hg.os, hg.tape, hg.output, hg.size, fun k hk hn => hg.block k hk (fun e => hn e.symm)⟩
          have hDn : ¬ (Value.slice la xs.length lcap).ownBlock = some D := fun e => (hql D e).2 rfl
          have hRA : RoundIn (fun b => w3.heap.size ≤ b) (w4.alloc (.cells #[.slice ga r.length gcap] 23)) (.slice ga r.length gcap) r := hR4.later ((Below.refl _ _).alloc (Nat.le_refl _) _)
          have hp := hSA.put (M := w3.heap.size) hg ho hat (hRA.mono fun b hb hp => ⟨hp, hb, by omega, fun e => by have := hS.row.lt e; omega⟩)
          refine ⟨hG.cell hSA.c0 hDn, fun o => by rw [hG.frozen (p := ⟨D, o, none⟩) hSA.lt hDn]; exact hSA.fr o, ⟨HO.out, _, _, hp.mono fun b _ hb => ?_⟩, (((Grew.of_below hB3).trans (Grew.of_below hbA)).trans (hG.mono fun b e => (hql b e).1)).trans (grew_set w5 hqD _ _)⟩
          have := hbA.size
          rcases hb with hb | hb | hb
          · exact .inl hb
          · exact .inr (by omega)
          · exact .inr (by omega)
        have hen := Tryd.call26
        clear hS0 hS hown hr3 hB3 HO
        go_wp2_with fail
        go_region_law (first | (refine step_call1 rfl 26 (.tmp 38) 23 rfl hen rfl hOW.out ?_; rintro u4 w4 ⟨ga, gcap, rfl, hR4, hb4⟩; have d0 := cell_later hb4 c3; have hD4 : D < w4.heap.size := World.block_lt_of_cell? w4 _ d0; obtain ⟨hrow4, hk4⟩ := HK.out w4 ga gcap hR4 hb4) | (refine step_append_rowL (v := .slice la xs.length lcap) (x := .slice ga r.length gcap) (xs := xs) rfl (.tmp 37) (.tmp 40) rfl (by simp [Act.eval]) hrow4 rfl w4.heap.size 1 (by simp [Act.eval]) (cell_new1 w4 _ _) (by omega) ?_; intro v5 w5 ho5 hg5 hat5; obtain ⟨s0, s1, s2, s3⟩ := hk4 w5 v5 ho5 hg5 hat5; obtain ⟨g5, cap5, rfl, -⟩ := owns_cells ho5 (by omega)))
        all_goals go_wp2_with fail
        all_goals refine bodyPost_ret (results_tmp2 rfl _ _ _) rfl ?_
        all_goals exact ⟨.inl ⟨hK.out, by rw [← HXL.out]; rfl, s2⟩, s3⟩
      · have tR : ((4000 : Int) < ((allB l).length : Int) + ((encB r).length : Int)) := by omega
        have hK : Hid (okP l r = false) := by show okP l r = false; simp [okP, roomF]; omega
        generalize (allB l).length = A at *
        generalize (encB r).length = X at *
        go_wp2_with fail
        refine bodyPost_ret (results_tmp2 rfl _ _ _) rfl ?_
        exact ⟨.inr ⟨hK.out, 8, by decide, rfl, h3.mono fun b _ hb => .inl hb⟩, Grew.of_below hB3⟩
  · have hc' : c ≠ 0 := fun e => h0 (hc.1 e)
    have t0 : (c != 0) = true := by simp [hc']
    have hK : Hid (okP l r = false) := by show okP l r = false; simp [okP, h0]
    clear hc
    go_wp2_with fail
    refine bodyPost_ret (results_tmp2 rfl _ _ _) rfl ?_
    exact ⟨.inr ⟨hK.out, _, hc', rfl, h1.mono fun b _ hb => .inl hb⟩, Grew.of_below hb1⟩
end
end Go.Proofs.YtokjigebjcgdjacDoor
