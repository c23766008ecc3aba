/-
  The walks of the reference's SameBytes and of the law CodecBack.
-/
import Derived.Test.YtnlfcmjfokpdlabDoorBegC
import Derived.Test.YtnlfcmjfokpdlabDoorSamA
namespace Go.Proofs.YtnlfcmjfokpdlabDoor
open Go.RowKit

set_option maxRecDepth 100000 in
set_option maxHeartbeats 1000000 in
theorem sameBytes_any {v u : Value} {l m : List Int} {w : World} (hv : BytesAt w v l) (hu : BytesAt w u m) (hl : AllB l) (hm : AllB m) :
    Calls Tryd.prog 54 #[v, u] w fun e w' => e = .returned (.bool (decide (l = m))) ∧ w' = w := by
  have HE : Hid (((strOfNums l).toList == (strOfNums m).toList) = decide (l = m)) := strOf_eq hl hm
  obtain ⟨a, cap, rfl, -⟩ := id hv
  obtain ⟨b, cap', rfl, -⟩ := id hu
  have h1 := BytesAt.str hv
  have h2 := BytesAt.str hu
  clear hv hu
  generalize strOfNums l = S at *
  generalize strOfNums m = T at *
  go_enter Tryd.func54, Tryd.ntmps54
  go_wp2_with fail
  go_ret
  exact ⟨ret_b HE.out, rfl⟩

theorem ne_zero_t {x : Int} (h : x ≠ 0) : (x != 0) = true := by simp [h]
theorem enc_nonempty' (r : List (List Op5)) : 0 < (encB r).length := by rw [encB_length]; omega

/-- append of no bytes. -/
theorem run_append_none (w : World) (ty : TypeId) (g n cap c : Nat) (hn : n ≤ cap) (da : Option Addr) : (Builtin.append_ #[90, 90] ty #[.slice (some ⟨g, 0, none⟩) n cap, .slice da 0 c]).run Tryd.prog w = .ok (.slice (some ⟨g, 0, none⟩) n cap) w := by
  obtain ⟨i, hi, -, hs, -⟩ := info_parts infoB
  have hl : ∀ (x : Addr), (loadCells x 0).run Tryd.prog w = .ok #[] w := fun x => by simpa using run_loadCells_list (P := Tryd.prog) w x [] (by simp)
  cases da <;> simp [Builtin.append_, run_underlying Tryd.underlying90, Builtin.lenOf, Builtin.firstCells, sizeOf, typeInfo, hi, hl, hn, storeCells]
theorem wpList_append_none {w : World} {ops : Array Oper} {rest : List Oper} {o : Oper} {a : Act} {Q : Exit → Act → World → Prop} (hgd : o.guard = none) (x y : Operand)
    (ho : o.op = .call { callee := .builtin .append, args := #[x, y], argTypes := #[90, 90] }) (base n : Nat) (v : Value) (xs : List Value) (hx : a.eval x = v) (hown : w.ownsRow base 5 1 v n xs) (h0 : 0 < n) (da : Option Addr) (c : Nat) (hy : a.eval y = .slice da 0 c)
    (h : wpList Tryd.prog ops Q rest (a.put o.dst v) w) : wpList Tryd.prog ops Q (o :: rest) a w := by
  refine wpList_plain hgd fun K hK => ?_
  rcases hown.2 with ⟨-, e⟩ | ⟨g, cap, cur, rfl, -, -, hnc, -⟩
  · omega
  · have hrun := run_append_none w o.type g n cap c hnc da
    unfold Oper.wp
    simp [execOp, ho, resolve, invoke, builtin, hx, hy, hrun, Result.andThen]
    exact hK _ _ h

/-- append of some bytes, or of none, onto a row of the call's own. -/
theorem wpList_append_bytes {w : World} {ops : Array Oper} {rest : List Oper} {o : Oper} {a : Act} {Q : Exit → Act → World → Prop} (hgd : o.guard = none) (x y : Operand)
    (ho : o.op = .call { callee := .builtin .append, args := #[x, y], argTypes := #[90, 90] }) (base : Nat) (v : Value) (L : List Int) (hx : a.eval x = v) (hown : w.ownsRow base 5 1 v L.length (byteCells L)) (h0 : 0 < L.length)
    (l : List Int) (hy : BytesAt w (a.eval y) l) (hlen : L.length + l.length ≤ 100000) (hbase : base ≤ w.heap.size)
    (h : ∀ v' w', w'.ownsRow base 5 1 v' (L ++ l).length (byteCells (L ++ l)) → Below base w w' → wpList Tryd.prog ops Q rest (a.put o.dst v') w') : wpList Tryd.prog ops Q (o :: rest) a w := by
  obtain ⟨i0, hi, hz0, hz1, hz2⟩ := info_parts infoB
  by_cases hl : 0 < l.length
  · obtain ⟨ya, ycap, ey, -⟩ := id hy
    rw [ey] at hy
    obtain ⟨b, off, rfl, hc⟩ := BytesIn.cells hy hl
    refine wpList_append_own w hgd x y 90 ho base 5 i0 (.int .u8 0) 1 1 Tryd.underlying90 hi hz0 hz1 hz2 rfl (by decide) v _ _ hx hown ⟨b, off, none⟩ l.length ycap (byteCells l) ey (by rw [byteCells_length]; omega) hc (byteCells_one _) (by unfold maxLen; omega) (by omega) hbase ?_
    intro v' w' h1 h2 h3
    refine h v' w' ?_ ((Below.refl _ _).grown h2 hbase (fun k hk => (hown.lt k hk).1))
    rw [byteCells_append, List.length_append]; exact h1
  · obtain rfl : l = [] := List.eq_nil_of_length_eq_zero (by omega)
    obtain ⟨ya, ycap, ey, -⟩ := hy
    refine wpList_append_none hgd x y ho base _ v _ hx hown h0 ya ycap ey (h v w ?_ (Below.refl _ _))
    rw [List.append_nil]; exact hown

/-- The law's second half: what some bytes begin with. -/
theorem back_good {b : List Int} (hb : AllB b) (h : (decF b).2.2 = 0) : ∃ r l, decF b = (r, ((encB r).length : Int), 0) ∧ roundF r = 0 ∧ b = encB r ++ l := by
  obtain ⟨h1, h2, l, h3⟩ := enc_dec hb h
  exact ⟨(decF b).1, l, by rw [← h2, ← h], h1, h3⟩
theorem roundF_fits {r : List (List Op5)} (h : roundF r = 0) : Fits r := by
  obtain ⟨h1, h2⟩ := roundF_zero.1 h
  exact ⟨by omega, fun i hi => by have := checkF_len (h2 _ (List.getElem_mem hi)); omega⟩

set_option maxRecDepth 100000 in
set_option maxHeartbeats 4000000 in
theorem back_any {v u x : Value} {r q : List (List Op5)} {b : List Int} {w : World} (hr : RoundAt w v r) (hq : RoundAt w u q) (hx : BytesAt w x b) (fr : Fits r) (fq : Fits q) (nr : R64 r) (nq : R64 q) (hb : AllB b) (hbl : b.length ≤ 9223372036854775807) (hL : Lim w) :
    Calls Tryd.prog 13 #[v, u, x] w fun e w' => e = .returned (.bool true) ∧ Below w.heap.size w w' := by
  obtain ⟨i0, hi, hz0, hz1, hz2⟩ := info_parts infoB
  obtain ⟨xa, xcap, rfl, -⟩ := id hx
  go_enter Tryd.func13, Tryd.ntmps13
  go_wp2_with fail
  refine (begun_any w hL).mono ?_
  rintro e w1 ⟨rfl, hB1⟩
  have hr1 := hr.later hB1
  have hq1 := hq.later hB1
  go_wp2_with fail
  refine (great_any v r w1 hr1 fr).mono ?_
  rintro e w1' ⟨⟨g, rfl⟩, rfl⟩
  cases g with
  | true =>
    go_wp2_with fail
    go_ret
    exact ⟨rfl, hB1⟩
  | false =>
    go_wp2_with fail
    refine (great_any u q _ hq1 fq).mono ?_
    rintro e w1'' ⟨⟨g, rfl⟩, rfl⟩
    cases g with
    | true =>
      go_wp2_with fail
      go_ret
      exact ⟨rfl, hB1⟩
    | false =>
      by_cases h5 : 5000 < b.length
      · have t5 : ((5000 : Int) < (b.length : Int)) := by omega
        go_wp2_with fail
        go_ret
        exact ⟨rfl, hB1⟩
      · have t5 : ¬ ((5000 : Int) < (b.length : Int)) := by omega
        go_wp2_with fail
        refine (enc_any hr1 fr (hL.later hB1)).mono ?_
        rintro e w2 ⟨⟨y1, rfl, hA⟩, hb2⟩
        have hB2 : Below w.heap.size w w2 := hB1.trans (hb2.mono hB1.size)
        go_wp2_with fail
        refine (enc_any (hq.later hB2) fq (hL.later hB2)).mono ?_
        rintro e w3 ⟨⟨y2, rfl, hE⟩, hb3⟩
        have hB3 : Below w.heap.size w w3 := hB2.trans (hb3.mono hB2.size)
        rcases hA with ⟨h0, hA⟩ | ⟨h0, rfl⟩
        · replace hA := hA.later hb3
          rw [h0]
          have hr3 : Hid (RoundAt w3 v r) := hr.later hB3
          have hq3 : Hid (RoundAt w3 u q) := hq.later hB3
          have hD : decF (encB r ++ b) = (r, ((encB r).length : Int), 0) := dec_enc h0 nr _
          have hl1 : (encB r).length ≤ 1131 := by rw [encB_length]; have := bodyB_length h0; omega
          have hn1 := enc_nonempty' r
          have hA1 := encB_all h0
          have hinj : roundF q = 0 → (decide (encB r = encB q) = eqRound r q) := fun k0 => by
            cases e : eqRound r q with
            | true => rw [eqRound_iff.1 e]; simp
            | false =>
              have : encB r ≠ encB q := fun h => by
                have := enc_inj h0 k0 nr nq h
                rw [eqRound_iff.2 this] at e; cases e
              simp [this]
          have Hinj : Hid (roundF q = 0 → (decide (encB r = encB q) = eqRound r q)) := hinj
          have hx3 : Hid (BytesAt w3 (.slice xa b.length xcap) b) := hx.later hB3
          clear hr1 hq1 hb2 hb3 hB1 hB2 hinj h0
          generalize encB r = X at *
          obtain ⟨aa, acap, rfl, -⟩ := id hA
          obtain ⟨ab, aoff, rfl, hAc⟩ := BytesIn.cells hA hn1
          have HN1 : Hid (∀ j u, (byteCells X)[j]? = some u → w3.cell? ((⟨ab, aoff, none⟩ : Addr).add j) = some u) := hAc
          have HL1 : Hid ((byteCells X).length = X.length * 1) := by show _ = _; rw [byteCells_length]; omega
          have HX : Hid (BytesAt w3 (.slice (some ⟨ab, aoff, none⟩) X.length acap) X) := hA
          clear hAc hA
          go_wp2_with (at_builtin; first | (refine wpList_append_own _ rfl _ (.tmp 45) 90 rfl w3.heap.size 5 i0 (.int .u8 0) 1 1 Tryd.underlying90 hi hz0 hz1 hz2 rfl (by decide) _ 0 [] rfl (World.ownsRow_nil _ _ _ _) ⟨ab, aoff, none⟩ X.length acap (byteCells X) rfl HL1.out HN1.out (byteCells_one _) (by unfold maxLen; omega) (by omega) (Nat.le_refl _) ?_; intro v4 w4 hO4 hgrow4 hnil4; have hb4 : Below w3.heap.size w3 w4 := (Below.refl _ _).grown hgrow4 (Nat.le_refl _) (fun k hk => by cases hk); rw [Nat.zero_add, List.nil_append] at hO4) | (refine wpList_append_bytes rfl (.tmp 46) (.tmp 47) rfl w3.heap.size v4 X rfl hO4 hn1 b (hx3.out.later hb4) (by omega) hb4.size ?_; intro v5 w5 hO5 hb5'))
          have hb5 : Below w3.heap.size w3 w5 := hb4.trans hb5'
          have hV : BytesAt w5 v5 (X ++ b) := (owns_bytes (l := X ++ b) hO5).at
          have hB5 : Below w.heap.size w w5 := hB3.trans (hb5.mono hB3.size)
          have hr5 : Hid (RoundAt w5 v r) := hr3.out.later hb5
          clear hnil4 hgrow4 hO4 hO5 hb4 hb5' HN1 HL1 hr3
          refine (dec_any hV (hA1.append hb) (by simp; omega) (hL.later hB5)).mono ?_
          rintro e w6 ⟨⟨y, rfl, hY⟩, hb6⟩
          rw [hD] at hY ⊢
          have hB6 : Below w.heap.size w w6 := hB5.trans (hb6.mono hB5.size)
          have hr6 : RoundAt w6 v r := hr5.out.later hb6
          have hb36 : Below w3.heap.size w3 w6 := hb5.trans (hb6.mono hb5.size)
          clear hb6 hr5 hV hB5 hD hb5
          go_wp2_with fail
          refine (sameRound_any hY hr6 fr fr).mono ?_
          rintro e w7 ⟨rfl, hb7⟩
          rw [eqRound_iff.2 rfl]
          have hB7 : Below w.heap.size w w7 := hB6.trans (hb7.mono hB6.size)
          have hb37 : Below w3.heap.size w3 w7 := hb36.trans (hb7.mono hb36.size)
          clear hb7 hY hr6 hB6 hb36
          rcases hE with ⟨k0, hE⟩ | ⟨k0, rfl⟩
          · have hi0 := Hinj.out k0
            rw [k0]
            have HE7 : Hid (BytesAt w7 y2 (encB q)) := hE.later hb37
            have HX7 : Hid (BytesAt w7 (.slice (some ⟨ab, aoff, none⟩) X.length acap) X) := HX.out.later hb37
            have hA2 := encB_all k0
            generalize encB q = Y at *
            clear Hinj HX hE k0
            go_wp2_with fail
            refine (sameBytes_any HX7.out HE7.out hA1 hA2).mono ?_
            rintro e w8 ⟨rfl, rfl⟩
            rw [hi0]
            go_wp2_with fail
            refine (sameRound_any (hr.later hB7) (hq.later hB7) fr fq).mono ?_
            rintro e w9 ⟨rfl, hb9⟩
            have hB9 : Below w.heap.size w w9 := hB7.trans (hb9.mono hB7.size)
            clear hb9 HX7 HE7 hi0
            generalize eqRound r q = G at *
            have tG : (G != G) = false := by cases G <;> rfl
            go_wp2_with fail
            refine (dec_any (hx.later hB9) hb (by omega) (hL.later hB9)).mono ?_
            rintro e wd ⟨⟨z, rfl, hZ⟩, hbd⟩
            have hBd : Below w.heap.size w wd := hB9.trans (hbd.mono hB9.size)
            by_cases hz : (decF b).2.2 = 0
            · obtain ⟨r0, l0, hD, hz0', hbe0⟩ := back_good hb hz
              have hbe : Hid (b = encB r0 ++ l0) := hbe0
              clear hbe0
              rw [hD] at hZ ⊢
              go_wp2_with fail
              refine (enc_any hZ (roundF_fits hz0') (hL.later hBd)).mono ?_
              rintro e we ⟨⟨y, rfl, hY⟩, hbe'⟩
              have hBe : Below w.heap.size w we := hBd.trans (hbe'.mono hBd.size)
              have hY' : BytesAt we y (encB r0) := by
                rcases hY with ⟨-, h⟩ | ⟨h, -⟩
                · exact h
                · exact absurd hz0' h
              rw [hz0']
              have hEA := encB_all hz0'
              have hxe := hx.later hBe
              generalize encB r0 = Z at *
              have hZl : Z.length ≤ b.length := by rw [hbe.out, List.length_append]; omega
              obtain ⟨sv, hsv, hS⟩ := cut_h (P := fun _ => True) hxe (n := (Z.length : Int)) (by omega) (by omega)
              rw [Int.toNat_natCast, show b.take Z.length = Z by rw [hbe.out, List.take_left]] at hS
              have HS : Hid (BytesAt we sv Z) := hS
              have HY : Hid (BytesAt we y Z) := hY'
              obtain ⟨ya, ycap, rfl, -⟩ := id hY'
              have t9 : ((Z.length : Int) ≤ (b.length : Int)) := by omega
              clear hS hY hY' hxe hbe hZ hD hz
              go_wp2_with fail
              refine (sameBytes_any HY.out HS.out hEA hEA).mono ?_
              rintro e wf ⟨rfl, rfl⟩
              rw [decide_eq_true rfl]
              go_wp2_with fail
              go_ret
              exact ⟨rfl, hBe⟩
            · obtain ⟨c, hc, hD⟩ : ∃ c, c ≠ 0 ∧ decF b = ([], 0, c) := ⟨_, hz, dec_bad hz⟩
              rw [hD] at hZ ⊢
              have t8 := ne_zero_t hc
              obtain ⟨za, zcap, rfl, -⟩ := hZ
              clear hD hz
              go_wp2_with fail
              go_ret
              exact ⟨rfl, hBd⟩
          · have t0 : (roundF q == 0) = false := by simp [k0]
            clear Hinj HX k0
            go_wp2_with fail
            refine (dec_any (hx.later hB7) hb (by omega) (hL.later hB7)).mono ?_
            rintro e wd ⟨⟨z, rfl, hZ⟩, hbd⟩
            have hBd : Below w.heap.size w wd := hB7.trans (hbd.mono hB7.size)
            by_cases hz : (decF b).2.2 = 0
            · obtain ⟨r0, l0, hD, hz0', hbe0⟩ := back_good hb hz
              have hbe : Hid (b = encB r0 ++ l0) := hbe0
              clear hbe0
              rw [hD] at hZ ⊢
              go_wp2_with fail
              refine (enc_any hZ (roundF_fits hz0') (hL.later hBd)).mono ?_
              rintro e we ⟨⟨y, rfl, hY⟩, hbe'⟩
              have hBe : Below w.heap.size w we := hBd.trans (hbe'.mono hBd.size)
              have hY' : BytesAt we y (encB r0) := by
                rcases hY with ⟨-, h⟩ | ⟨h, -⟩
                · exact h
                · exact absurd hz0' h
              rw [hz0']
              have hEA := encB_all hz0'
              have hxe := hx.later hBe
              generalize encB r0 = Z at *
              have hZl : Z.length ≤ b.length := by rw [hbe.out, List.length_append]; omega
              obtain ⟨sv, hsv, hS⟩ := cut_h (P := fun _ => True) hxe (n := (Z.length : Int)) (by omega) (by omega)
              rw [Int.toNat_natCast, show b.take Z.length = Z by rw [hbe.out, List.take_left]] at hS
              have HS : Hid (BytesAt we sv Z) := hS
              have HY : Hid (BytesAt we y Z) := hY'
              obtain ⟨ya, ycap, rfl, -⟩ := id hY'
              have t9 : ((Z.length : Int) ≤ (b.length : Int)) := by omega
              clear hS hY hY' hxe hbe hZ hD hz
              go_wp2_with fail
              refine (sameBytes_any HY.out HS.out hEA hEA).mono ?_
              rintro e wf ⟨rfl, rfl⟩
              rw [decide_eq_true rfl]
              go_wp2_with fail
              go_ret
              exact ⟨rfl, hBe⟩
            · obtain ⟨c, hc, hD⟩ : ∃ c, c ≠ 0 ∧ decF b = ([], 0, c) := ⟨_, hz, dec_bad hz⟩
              rw [hD] at hZ ⊢
              have t8 := ne_zero_t hc
              obtain ⟨za, zcap, rfl, -⟩ := hZ
              clear hD hz
              go_wp2_with fail
              go_ret
              exact ⟨rfl, hBd⟩
        · have t0 : (roundF r == 0) = false := by simp [h0]
          go_wp2_with fail
          refine (dec_any (hx.later hB3) hb (by omega) (hL.later hB3)).mono ?_
          rintro e wd ⟨⟨z, rfl, hZ⟩, hbd⟩
          have hBd : Below w.heap.size w wd := hB3.trans (hbd.mono hB3.size)
          by_cases hz : (decF b).2.2 = 0
          · obtain ⟨r0, l0, hD, hz0', hbe0⟩ := back_good hb hz
            have hbe : Hid (b = encB r0 ++ l0) := hbe0
            clear hbe0
            rw [hD] at hZ ⊢
            go_wp2_with fail
            refine (enc_any hZ (roundF_fits hz0') (hL.later hBd)).mono ?_
            rintro e we ⟨⟨y, rfl, hY⟩, hbe'⟩
            have hBe : Below w.heap.size w we := hBd.trans (hbe'.mono hBd.size)
            have hY' : BytesAt we y (encB r0) := by
              rcases hY with ⟨-, h⟩ | ⟨h, -⟩
              · exact h
              · exact absurd hz0' h
            rw [hz0']
            have hEA := encB_all hz0'
            have hxe := hx.later hBe
            generalize encB r0 = Z at *
            have hZl : Z.length ≤ b.length := by rw [hbe.out, List.length_append]; omega
            obtain ⟨sv, hsv, hS⟩ := cut_h (P := fun _ => True) hxe (n := (Z.length : Int)) (by omega) (by omega)
            rw [Int.toNat_natCast, show b.take Z.length = Z by rw [hbe.out, List.take_left]] at hS
            have HS : Hid (BytesAt we sv Z) := hS
            have HY : Hid (BytesAt we y Z) := hY'
            obtain ⟨ya, ycap, rfl, -⟩ := id hY'
            have t9 : ((Z.length : Int) ≤ (b.length : Int)) := by omega
            clear hS hY hY' hxe hbe hZ hD hz
            go_wp2_with fail
            refine (sameBytes_any HY.out HS.out hEA hEA).mono ?_
            rintro e wf ⟨rfl, rfl⟩
            rw [decide_eq_true rfl]
            go_wp2_with fail
            go_ret
            exact ⟨rfl, hBe⟩
          · obtain ⟨c, hc, hD⟩ : ∃ c, c ≠ 0 ∧ decF b = ([], 0, c) := ⟨_, hz, dec_bad hz⟩
            rw [hD] at hZ ⊢
            have t8 := ne_zero_t hc
            obtain ⟨za, zcap, rfl, -⟩ := hZ
            clear hD hz
            go_wp2_with fail
            go_ret
            exact ⟨rfl, hBd⟩
end Go.Proofs.YtnlfcmjfokpdlabDoor
