/-
  The walk of the law LogOpens.
-/
import Derived.Test.YtokjigebjcgdjacDoorLwSu
namespace Go.Proofs.YtokjigebjcgdjacDoor
open Go.RowKit

/-- append of no bytes onto none. -/
theorem run_append_none_nil (w : World) (ty : TypeId) (c : Nat) (da : Option Addr) : (Builtin.append_ #[26, 26] ty #[.slice none 0 0, .slice da 0 c]).run Tryd.prog w = .ok (.slice none 0 0) w := by
  obtain ⟨i, hi, -, hs, -⟩ := info_parts infoU8
  have hl : ∀ (x : Addr), (loadCells x 0).run Tryd.prog w = .ok #[] w := fun x => by simpa using run_loadCells_list (P := Tryd.prog) w x [] (by simp)
  cases da <;> simp [Builtin.append_, run_underlying Tryd.underlying26, Builtin.lenOf, Builtin.firstCells, sizeOf, typeInfo, hi, hl]
/-- append of some bytes, or of none, onto a row of the call's own, or onto none. -/
theorem wpList_append_bytes0 {w : World} {ops : Array Oper} {rest : List Oper} {o : Oper} {a : Act} {Q : Exit → Act → World → Prop} (hgd : o.guard = none) (x y : Operand)
    (ho : o.op = .call { callee := .builtin .append, args := #[x, y], argTypes := #[26, 26] }) (base : Nat) (v : Value) (L : List Int) (hx : a.eval x = v) (hown : w.ownsRow base 5 1 v L.length (byteCells L))
    (l : List Int) (hy : BytesAt w (a.eval y) l) (hlen : L.length + l.length ≤ 100000) (hbase : base ≤ w.heap.size)
    (h : ∀ v' w', w'.ownsRow base 5 1 v' (L ++ l).length (byteCells (L ++ l)) → Below base w w' → wpList Tryd.prog ops Q rest (a.put o.dst v') w') : wpList Tryd.prog ops Q (o :: rest) a w := by
  obtain ⟨i0, hi, hz0, hz1, hz2⟩ := info_parts infoU8
  by_cases hl : 0 < l.length
  · obtain ⟨ya, ycap, ey, -⟩ := id hy
    rw [ey] at hy
    obtain ⟨b, off, rfl, hc⟩ := BytesIn.cells hy hl
    refine wpList_append_own w hgd x y 26 ho base 5 i0 (.int .u8 0) 1 1 Tryd.underlying26 hi hz0 hz1 hz2 rfl (by decide) v _ _ hx hown ⟨b, off, none⟩ l.length ycap (byteCells l) ey (by rw [byteCells_length]; omega) hc (byteCells_one _) (by unfold maxLen; omega) (by omega) hbase ?_
    intro v' w' h1 h2 h3
    refine h v' w' ?_ ((Below.refl _ _).grown h2 hbase (fun k hk => (hown.lt k hk).1))
    rw [byteCells_append, List.length_append]; exact h1
  · obtain rfl : l = [] := List.eq_nil_of_length_eq_zero (by omega)
    obtain ⟨ya, ycap, ey, -⟩ := hy
    have hK := h v w (by rw [List.append_nil]; exact hown) (Below.refl _ _)
    refine wpList_plain hgd fun K hK' => ?_
    rcases hown.2 with ⟨rfl, -⟩ | ⟨g, cap, cur, rfl, -, -, hnc, -⟩
    · have hrun := run_append_none_nil w o.type ycap ya
      have ey' : a.eval y = .slice ya 0 ycap := ey
      unfold Oper.wp
      simp [execOp, ho, resolve, invoke, builtin, hx, ey', hrun, Result.andThen]
      exact hK' _ _ hK
    · have hrun := run_append_none w o.type g L.length cap ycap hnc ya
      have ey' : a.eval y = .slice ya 0 ycap := ey
      unfold Oper.wp
      simp [execOp, ho, resolve, invoke, builtin, hx, ey', hrun, Result.andThen]
      exact hK' _ _ hK

theorem cut_mod (cut : Int) (A : Nat) (hA : A ≤ 4000) : ∃ c : Nat, c ≤ A ∧ (IntKind.u64.wrap cut).tmod ((A : Int) + 1) = (c : Int) ∧ IntKind.u64.wrap ((A : Int) + 1) = (A : Int) + 1 ∧ ((A : Int) + 1 == 0) = false := by
  have hc0 : 0 ≤ IntKind.u64.wrap cut := by rw [IntKind.wrap_u64]; omega
  generalize IntKind.u64.wrap cut = X at *
  have hd0 : ¬ (A : Int) + 1 = 0 := by omega
  have hm1 : X % ((A : Int) + 1) < (A : Int) + 1 := Int.emod_lt_of_pos _ (by omega)
  have hm0 : 0 ≤ X % ((A : Int) + 1) := Int.emod_nonneg _ hd0
  have ht : X.tmod ((A : Int) + 1) = X % ((A : Int) + 1) := Int.tmod_eq_emod_of_nonneg hc0
  rw [← ht] at hm0 hm1
  generalize X.tmod ((A : Int) + 1) = Y at *
  clear ht hc0
  refine ⟨Y.toNat, by omega, by omega, ?_, ?_⟩
  · rw [IntKind.wrap_u64]; omega
  · rw [beq_eq_false_iff_ne]; exact hd0

set_option maxRecDepth 100000 in
set_option maxHeartbeats 4000000 in
theorem logOpensLaw_any {v u : Value} {l : List LStep} {more : List Int} {w : World} (cut : Int) (hl : StepsL w v l) (hf : FitsL l) (hu : BytesAt w u more) (hmb : AllB more) (hml : more.length ≤ 9223372036854775807) (hL : Lim w) :
    Calls Tryd.prog 6 #[v, .int .i64 cut, u] w fun e w' => e = .returned (.bool true) ∧ Below w.heap.size w w' := by
  have hm := hf.1
  obtain ⟨ma, mcap, rfl, -⟩ := id hu
  go_enter Tryd.func6, Tryd.ntmps6
  go_wp2_with fail
  refine (begunL_any w hL).mono ?_
  rintro e w1 ⟨rfl, hB1⟩
  have hl1 := hl.later hB1
  go_wp2_with fail
  refine (greatLog_any hl1 hf).mono ?_
  rintro e w2 ⟨⟨g, rfl⟩, hb2⟩
  have hB2 : Below w.heap.size w w2 := hB1.trans (hb2.mono hB1.size)
  have hl2 := hl1.later hb2
  clear hl1 hb2
  cases g with
  | true =>
    go_wp2_with fail
    go_ret
    exact ⟨rfl, hB2⟩
  | false =>
    by_cases h2000 : 2000 < more.length
    · have t2 : (2000 : Int) < (more.length : Int) := by omega
      go_wp2_with fail
      go_ret
      exact ⟨rfl, hB2⟩
    · have t2 : ¬ ((2000 : Int) < (more.length : Int)) := by omega
      have hL2 := hL.later hB2
      go_wp2_with fail
      refine (logNew_any w2).mono ?_
      rintro e w3 ⟨rfl, h3, hb3⟩
      have hb0 := both_new h3 hb3
      have hb3A : Below w2.heap.size w2 (w3.alloc (.cells #[.slice none 0 0, .int .i64 0] 39)) := hb3.alloc hb3.size _
      clear h3
      obtain ⟨a, cap, rfl, hs⟩ := hl2
      go_wp2_with fail
      go_loopg [9] l.length (fun g i wr => ∃ (j : Nat) (x : List (List (List Op5))) (k : Nat), j ≤ l.length ∧ g = l.length - j ∧ i = .int .i64 (j : Int) ∧ Both w2.heap.size wr w2.heap.size w3.heap.size x k ∧ Below w2.heap.size w2 wr)
      case atStart => exact ⟨0, _, _, by omega, by omega, rfl, hb0, hb3A⟩
      case round =>
        obtain ⟨j, x, k, hj, hg, rfl, hBo, hB⟩ := hrel
        clear hb0 hb3A
        by_cases hlt : j < l.length
        · obtain ⟨b, off, rfl, q0, q1, rv, q2, hR⟩ := hs j hlt
          replace q0 := cell_later hB q0
          replace q1 := cell_later hB q1
          replace q2 := cell_later hB q2
          have hst := step_any (x := l[j]) hBo hR (hf.2 j hlt).1 (hf.2 j hlt).2 hL2 hB
          have HS : Hid (∀ i (h : i < l.length), ∃ b' off', some (⟨b, off, none⟩ : Addr) = some ⟨b', off', none⟩ ∧ w2.cell? ⟨b', off' + i * 3, none⟩ = some (.int .i64 l[i].d) ∧ w2.cell? ⟨b', off' + i * 3 + 1, none⟩ = some (.int .i64 l[i].keep) ∧ ∃ rv, w2.cell? ⟨b', off' + i * 3 + 2, none⟩ = some rv ∧ RoundAt w2 rv l[i].r) := hs
          obtain ⟨ra, rcap, rfl, -⟩ := id hR
          clear hs hR hBo hB
          generalize l[j] = y at *
          obtain ⟨yd, yk, yr⟩ := y
          dsimp only at *
          go_wp2_with fail
          refine hst.mono ?_
          rintro e w4 ⟨⟨gb, rfl⟩, ⟨l', k', hBo⟩, hB⟩
          clear hst q0 q1 q2
          go_wp2_with fail
          go_roundg (l.length - (j + 1))
          case measure => omega
          case rel => exact ⟨j + 1, _, _, by omega, rfl, by go_num, hBo, hB⟩
        · obtain rfl : j = l.length := by omega
          clear hs
          have hBw : Below w.heap.size w wr := hB2.trans (hB.mono hB2.size)
          obtain ⟨P, Q, h1, hsc, -, hP, hQ⟩ := hBo
          have ho := h1.ok
          have hws := hB2.size
          clear hB hb3 hB1 hB2 hL2
          go_wp2_with fail
          refine (logBytes_any h1).mono ?_
          rintro e w5 ⟨⟨u1, rfl, hU1⟩, hb5⟩
          have h5 := h1.later hb5
          have hsc5 := hsc.later hb5
          have hB5 : Below w.heap.size w w5 := hBw.trans (hb5.mono hBw.size)
          have hA1 := ho.all
          have hs4 := ho.short
          clear h1 hBw hsc
          obtain ⟨ua, ucap, rfl, -⟩ := id hU1
          obtain ⟨c, hcA, hF⟩ : ∃ c : Nat, c ≤ (allB x).length ∧ Hid ((IntKind.u64.wrap cut).tmod (((allB x).length : Int) + 1) = (c : Int) ∧ IntKind.u64.wrap (((allB x).length : Int) + 1) = ((allB x).length : Int) + 1 ∧ (((allB x).length : Int) + 1 == 0) = false) := by
            obtain ⟨c, h1, h2⟩ := cut_mod cut (allB x).length hs4
            exact ⟨c, h1, h2⟩
          obtain ⟨sv, hsv, hS⟩ := cut_h (W := w5) hU1.at (n := (c : Int)) (by omega) (by omega)
          rw [Int.toNat_natCast] at hS
          have hop := logOpen_any hS (hA1.take c) (by rw [List.length_take]; omega) (hL.later hB5)
          clear hS hb5
          generalize hAx : (allB x).length = A at *
          obtain ⟨hmt, hw1, tz⟩ := hF.out
          clear hF
          go_wp2_with fail
          clear hmt hw1 tz
          refine hop.mono ?_
          rintro e w6 ⟨⟨y, sr, rfl, hY, hbs, hst⟩, hb6⟩
          have hoy := hY.ok
          obtain ⟨z, hxz, m1, m2⟩ := opens_cut hoy ho (by rw [hAx]; exact hcA) hbs hst
          have h6 := h5.later hb6
          have hsc6 := hsc5.later hb6
          have hB6 : Below w.heap.size w w6 := hB5.trans (hb6.mono hB5.size)
          have hU6 : BytesIn (fun b => wr.heap.size ≤ b) w6 (.slice ua A ucap) (allB x) := hU1.later hb6
          have m3 : y.length ≤ x.length := by rw [hxz, List.length_append]; omega
          have m4 : (allB x).take (allB y).length = allB y := by rw [hxz, allB_append, List.take_left]
          have m5 : endB y y.length = (allB y).length := endB_all y
          have m6 : ∀ i (hi : i < y.length), x[i]'(by omega) = y[i] := fun i hi => by subst hxz; rw [List.getElem_append_left hi]
          have hfx := ho.few
          have m7 : (allB y).length ≤ A := by omega
          have hlenx := logLen_any h6
          have hleny := logLen_any hY
          have hHy : Hid (endB y y.length = (allB y).length) := m5
          clear hop hbs hst hb6 h5 hsc5 hU1 hB5 hsv hxz m5
          go_wp2_with fail
          refine hleny.mono ?_
          rintro e w7 ⟨rfl, rfl⟩
          go_wp2_with fail
          refine hlenx.mono ?_
          rintro e w8 ⟨rfl, rfl⟩
          clear hlenx hleny
          go_wp2_with fail
          refine (logBytes_any hY).mono ?_
          rintro e w9 ⟨⟨u2, rfl, hU2⟩, hb9⟩
          rw [hHy.out]
          have hY9 := hY.later hb9
          have h9 := h6.later hb9
          have hsc9 := hsc6.later hb9
          have hB9 : Below w.heap.size w w9 := hB6.trans (hb9.mono hB6.size)
          have hU9 := hU6.later hb9
          obtain ⟨sv2, hsv2, hS2⟩ := cut_h (W := w9) (l := allB x) (a := ua) (cap := ucap) (by rw [hAx]; exact hU9) (n := ((allB y).length : Int)) (by omega) (by omega)
          rw [Int.toNat_natCast, m4] at hS2
          rw [hAx] at hsv2
          have hsame := sameBytes_any hU2.at hS2.at hoy.all hoy.all
          rw [decide_eq_true rfl] at hsame
          obtain ⟨va, vcap, rfl, -⟩ := id hU2
          have hleny := logLen_any hY9
          have hsurey := logSure_any hY9
          have HAy : Hid (AllB (allB y)) := hoy.all
          have HY9 : Hid (LogAt (fun g => w5.heap.size ≤ g) w9 w5.heap.size y y.length) := hY9
          have H9 : Hid (LogAt P w9 w2.heap.size x k) := h9
          have HS9 : Hid (ScAt Q w9 w3.heap.size x k) := hsc9
          have HU9 : Hid (BytesIn (fun b => wr.heap.size ≤ b) w9 (.slice ua A ucap) (allB x)) := hU9
          clear hY h6 hsc6 hB6 hU6 hb9 hU2 hS2 hY9 h9 hsc9 hU9 m4
          generalize hBy : (allB y).length = B at *
          go_wp2_with fail
          refine hsame.mono ?_
          rintro e w10 ⟨rfl, rfl⟩
          clear hsame hsv2
          go_wp2_with fail
          refine hsurey.mono ?_
          rintro e w11 ⟨rfl, hb11⟩
          clear hsurey hleny
          have hY11 := HY9.out.later hb11
          have h11 := H9.out.later hb11
          have hsc11 := HS9.out.later hb11
          have hU11 := HU9.out.later hb11
          have hB11 : Below w.heap.size w w11 := hB9.trans (hb11.mono hB9.size)
          clear HY9 H9 HS9 HU9 hB9 hb11
          have hleny := logLen_any hY11
          go_wp2_with fail
          refine hleny.mono ?_
          rintro e w12 ⟨rfl, rfl⟩
          clear hleny
          have hm3 : (y.length : Int) ≤ (x.length : Int) := by omega
          go_wp2_with fail
          have HGx : Hid (∀ i (hi : i < x.length), Fits x[i]) := fun i hi => roundF_fits (ho.good _ (List.getElem_mem hi)).1
          have HM6 : Hid (∀ i (hi : i < y.length), x[i]'(by omega) = y[i]) := m6
          have hfy := hoy.few
          clear m6
          go_loopg [17] y.length (fun g i wq => ∃ m : Nat, m ≤ y.length ∧ g = y.length - m ∧ i = .int .i64 (m : Int) ∧ LogAt (fun g => w5.heap.size ≤ g) wq w5.heap.size y y.length ∧ LogAt P wq w2.heap.size x k ∧ ScAt Q wq w3.heap.size x k ∧ BytesIn (fun b => wr.heap.size ≤ b) wq (.slice ua A ucap) (allB x) ∧ Below w.heap.size w wq)
          case atStart => exact ⟨0, by omega, by omega, rfl, hY11, h11, hsc11, hU11, hB11⟩
          case round =>
            obtain ⟨m, hm', hgm, rfl, hYm, hXm, hSm, hUm, hBm⟩ := hrel
            clear hY11 h11 hsc11 hU11 hB11
            have hlen := logLen_any hYm
            by_cases hlt : m < y.length
            · have tl : (m : Int) < (y.length : Int) := by omega
              go_wp2_with fail
              refine hlen.mono ?_
              rintro e w20 ⟨rfl, rfl⟩
              clear hlen
              have hry := logRound_any hYm (m : Int) (hL.later hBm)
              go_wp2_with fail
              refine hry.mono ?_
              rintro e w21 ⟨hO21, hb21⟩
              obtain ⟨p, rfl, hp⟩ := hO21.yes hlt
              have hY21 := hYm.later hb21
              have hX21 := hXm.later hb21
              have hS21 := hSm.later hb21
              have hU21 := hUm.later hb21
              have hB21 : Below w.heap.size w w21 := hBm.trans (hb21.mono hBm.size)
              clear hry hO21 hb21 hYm hXm hSm hUm hBm
              have hrx := logRound_any hX21 (m : Int) (hL.later hB21)
              go_wp2_with fail
              refine hrx.mono ?_
              rintro e w22 ⟨hO22, hb22⟩
              obtain ⟨q, rfl, hq⟩ := hO22.yes (show m < x.length by omega)
              rw [HM6.out m hlt] at hq
              have hp22 := hp.later hb22
              have hfit : Fits y[m] := by rw [← HM6.out m hlt]; exact HGx.out m (by omega)
              have hY22 := hY21.later hb22
              have hX22 := hX21.later hb22
              have hS22 := hS21.later hb22
              have hU22 := hU21.later hb22
              have hB22 : Below w.heap.size w w22 := hB21.trans (hb22.mono hB21.size)
              have hsr := sameRound_any hp22 hq hfit hfit
              rw [eqRound_iff.2 rfl] at hsr
              clear hrx hO22 hb22 hY21 hX21 hS21 hU21 hB21 hp hp22 hq hfit
              go_wp2_with fail
              refine hsr.mono ?_
              rintro e w23 ⟨rfl, hb23⟩
              have hY23 := hY22.later hb23
              have hX23 := hX22.later hb23
              have hS23 := hS22.later hb23
              have hU23 := hU22.later hb23
              have hB23 : Below w.heap.size w w23 := hB22.trans (hb23.mono hB22.size)
              clear hsr hb23 hY22 hX22 hS22 hU22 hB22
              go_wp2_with fail
              go_roundg (y.length - (m + 1))
              case measure => omega
              case rel => exact ⟨m + 1, by omega, rfl, by go_num, hY23, hX23, hS23, hU23, hB23⟩
            · obtain rfl : m = y.length := by omega
              go_wp2_with fail
              refine hlen.mono ?_
              rintro e w20 ⟨rfl, rfl⟩
              have hlenx := logLen_any hXm
              go_wp2_with fail
              refine hlen.mono ?_
              rintro e w21 ⟨rfl, rfl⟩
              go_wp2_with fail
              refine hlenx.mono ?_
              rintro e w22 ⟨rfl, rfl⟩
              clear hlenx
              by_cases hyx : y.length < x.length
              · have tyx : (y.length : Int) < (x.length : Int) := by omega
                have hce := m2 hyx
                have hsb := scBytes_any hSm (n := y.length + 1) (by omega)
                go_wp2_with fail
                refine hlen.mono ?_
                rintro e w23 ⟨rfl, rfl⟩
                clear hlen
                go_wp2_with fail
                refine hsb.mono ?_
                rintro e w24 ⟨⟨u4, rfl, hU4⟩, hb24⟩
                obtain ⟨u4a, u4c, rfl, -⟩ := hU4
                have hX24 := hXm.later hb24
                have hU24 := hUm.later hb24
                have hB24 : Below w.heap.size w w24 := hBm.trans (hb24.mono hBm.size)
                have hce' : c < (allB (x.take (y.length + 1))).length := hce
                clear hsb hXm hUm hBm hSm hYm hce hb24
                generalize (allB (x.take (y.length + 1))).length = E at *
                have HUW : Hid (BytesAt w24 (.slice ua A ucap) (allB x)) := hU24.at
                have HMW : Hid (BytesAt w24 (.slice ma more.length mcap) more) := hu.later hB24
                have hnl : (allB x).length + more.length ≤ 100000 := by omega
                go_wp2_with (at_builtin; first | (refine wpList_append_bytes0 rfl _ _ rfl w24.heap.size (.slice none 0 0) [] rfl (by simpa [byteCells] using World.ownsRow_nil _ _ _ _) (allB x) HUW.out (by simp; omega) (Nat.le_refl _) ?_; intro v30 w30 hO30 hb30) | (refine wpList_append_bytes0 rfl _ _ rfl w24.heap.size v30 ([] ++ allB x) rfl hO30 more (HMW.out.later hb30) (by simp; omega) hb30.size ?_; intro v31 w31 hO31 hb31))
                have hV : BytesAt w31 v31 (allB x ++ more) := (owns_bytes (l := [] ++ allB x ++ more) hO31).at
                have hb31' : Below w24.heap.size w24 w31 := hb30.trans hb31
                have hB31 : Below w.heap.size w w31 := hB24.trans (hb31'.mono hB24.size)
                have hX31 := hX24.later hb31'
                have hop2 := logOpen_any hV (ho.all.append hmb) (by simp; omega) (hL.later hB31)
                clear hO30 hO31 hb30 hb31 hb31' HUW HMW hV hX24 hU24
                refine hop2.mono ?_
                rintro e w32 ⟨⟨zs, sr2, rfl, hZ, hbs2, hst2⟩, hb32⟩
                obtain ⟨n1, n2⟩ := opens_more hZ.ok ho hbs2 hst2
                have hX32 := hX31.later hb32
                have hB32 : Below w.heap.size w w32 := hB31.trans (hb32.mono hB31.size)
                have hlz := logLen_any hZ
                have hlx := logLen_any hX32
                have n1' : (A : Int) ≤ ((allB zs).length : Int) := by omega
                have n2' : (x.length : Int) ≤ (zs.length : Int) := by omega
                clear hop2 hb32 hbs2 hst2
                go_wp2_with fail
                refine hlz.mono ?_
                rintro e w33 ⟨rfl, rfl⟩
                go_wp2_with fail
                refine hlx.mono ?_
                rintro e w34 ⟨rfl, rfl⟩
                go_wp2_with fail
                go_ret
                exact ⟨by simp, hB32⟩
              · have tyx : ¬ ((y.length : Int) < (x.length : Int)) := by omega
                clear hlen hSm hYm
                have HUW : Hid (BytesAt w22 (.slice ua A ucap) (allB x)) := hUm.at
                have HMW : Hid (BytesAt w22 (.slice ma more.length mcap) more) := hu.later hBm
                have hnl : (allB x).length + more.length ≤ 100000 := by omega
                go_wp2_with (at_builtin; first | (refine wpList_append_bytes0 rfl _ _ rfl w22.heap.size (.slice none 0 0) [] rfl (by simpa [byteCells] using World.ownsRow_nil _ _ _ _) (allB x) HUW.out (by simp; omega) (Nat.le_refl _) ?_; intro v30 w30 hO30 hb30) | (refine wpList_append_bytes0 rfl _ _ rfl w22.heap.size v30 ([] ++ allB x) rfl hO30 more (HMW.out.later hb30) (by simp; omega) hb30.size ?_; intro v31 w31 hO31 hb31))
                have hV : BytesAt w31 v31 (allB x ++ more) := (owns_bytes (l := [] ++ allB x ++ more) hO31).at
                have hb31' : Below w22.heap.size w22 w31 := hb30.trans hb31
                have hB31 : Below w.heap.size w w31 := hBm.trans (hb31'.mono hBm.size)
                have hX31 := hXm.later hb31'
                have hop2 := logOpen_any hV (ho.all.append hmb) (by simp; omega) (hL.later hB31)
                clear hO30 hO31 hb30 hb31 hb31' HUW HMW hV hXm hUm
                refine hop2.mono ?_
                rintro e w32 ⟨⟨zs, sr2, rfl, hZ, hbs2, hst2⟩, hb32⟩
                obtain ⟨n1, n2⟩ := opens_more hZ.ok ho hbs2 hst2
                have hX32 := hX31.later hb32
                have hB32 : Below w.heap.size w w32 := hB31.trans (hb32.mono hB31.size)
                have hlz := logLen_any hZ
                have hlx := logLen_any hX32
                have n1' : (A : Int) ≤ ((allB zs).length : Int) := by omega
                have n2' : (x.length : Int) ≤ (zs.length : Int) := by omega
                clear hop2 hb32 hbs2 hst2
                go_wp2_with fail
                refine hlz.mono ?_
                rintro e w33 ⟨rfl, rfl⟩
                go_wp2_with fail
                refine hlx.mono ?_
                rintro e w34 ⟨rfl, rfl⟩
                go_wp2_with fail
                go_ret
                exact ⟨by simp, hB32⟩
end Go.Proofs.YtokjigebjcgdjacDoor
