/-
  The walk of the law CodecJoins.
-/
import Derived.Test.YtnlfcmjfokpdlacDoorBegC
import Derived.Test.YtnlfcmjfokpdlacDoorSamA
namespace Go.Proofs.YtnlfcmjfokpdlacDoor
open Go.RowKit

theorem enc_nonempty (r : List (List Op5)) : 0 < (encB r).length := by rw [encB_length]; omega
theorem ne_zero_test {x : Int} (h : x ≠ 0) : (x != 0) = true := by simp [h]

set_option maxRecDepth 100000 in
set_option maxHeartbeats 4000000 in
theorem joins_any {v u : Value} {r q : List (List Op5)} {w : World} (hr : RoundAt w v r) (hq : RoundAt w u q) (fr : Fits r) (fq : Fits q) (nr : R64 r) (nq : R64 q) (hL : Lim w) :
    Calls Tryd.prog 3 #[v, u] w fun e w' => e = .returned (.bool true) ∧ Below w.heap.size w w' := by
  obtain ⟨i0, hi, hz0, hz1, hz2⟩ := info_parts infoB
  go_enter Tryd.func3, Tryd.ntmps3
  go_wp2_with fail
  refine (begun_any w hL).mono ?_
  rintro e w1 ⟨rfl, hB1⟩
  have hr1 := hr.later hB1
  have hq1 := hq.later hB1
  go_wp2_with fail
  refine (great_any v r w1 hr1 fr).mono ?_
  rintro e w1' ⟨⟨g, rfl⟩, rfl⟩
  cases g with
  | true =>
    go_wp2_with fail
    go_ret
    exact ⟨rfl, hB1⟩
  | false =>
    go_wp2_with fail
    refine (great_any u q _ hq1 fq).mono ?_
    rintro e w1'' ⟨⟨g, rfl⟩, rfl⟩
    cases g with
    | true =>
      go_wp2_with fail
      go_ret
      exact ⟨rfl, hB1⟩
    | false =>
      go_wp2_with fail
      refine (enc_any hr1 fr (hL.later hB1)).mono ?_
      rintro e w2 ⟨⟨a, rfl, hA⟩, hb2⟩
      have hB2 : Below w.heap.size w w2 := hB1.trans (hb2.mono hB1.size)
      go_wp2_with fail
      refine (enc_any (hq.later hB2) fq (hL.later hB2)).mono ?_
      rintro e w3 ⟨⟨b, rfl, hb⟩, hb3⟩
      have hB3 : Below w.heap.size w w3 := hB2.trans (hb3.mono hB2.size)
      rcases hA with ⟨h0, hA⟩ | ⟨h0, rfl⟩
      · rcases hb with ⟨k0, hb⟩ | ⟨k0, rfl⟩
        · replace hA := hA.later hb3
          rw [h0, k0]
          have hr3 : Hid (RoundAt w3 v r) := hr.later hB3
          have hq3 : Hid (RoundAt w3 u q) := hq.later hB3
          have hD : decF (encB r ++ encB q) = (r, ((encB r).length : Int), 0) := dec_enc h0 nr _
          have hD2 : decF (encB q) = (q, ((encB q).length : Int), 0) := by have := dec_enc k0 nq []; rwa [List.append_nil] at this
          have hl1 : (encB r).length ≤ 1131 := by rw [encB_length]; have := bodyB_length h0; omega
          have hl2 : (encB q).length ≤ 1131 := by rw [encB_length]; have := bodyB_length k0; omega
          have hn1 := enc_nonempty r
          have hn2 := enc_nonempty q
          have hA1 := encB_all h0
          have hA2 := encB_all k0
          clear hr hq hr1 hq1 hb2 hb3 hB1 hB2 nr nq h0 k0
          generalize encB r = X at *
          generalize encB q = Y at *
          obtain ⟨aa, acap, rfl, -⟩ := id hA
          obtain ⟨ab, aoff, rfl, hAc⟩ := BytesIn.cells hA hn1
          obtain ⟨ba, bcap, rfl, -⟩ := id hb
          obtain ⟨bb, boff, rfl, hBc⟩ := BytesIn.cells hb hn2
          have HN1 : Hid (∀ j u, (byteCells X)[j]? = some u → w3.cell? ((⟨ab, aoff, none⟩ : Addr).add j) = some u) := hAc
          have HN2 : Hid (∀ W, Below w3.heap.size w3 W → ∀ j u, (byteCells Y)[j]? = some u → W.cell? ((⟨bb, boff, none⟩ : Addr).add j) = some u) := fun W hW j u hu => cell_later hW (hBc j u hu)
          have HL1 : Hid ((byteCells X).length = X.length * 1) := by show _ = _; rw [byteCells_length]; omega
          have HL2 : Hid ((byteCells Y).length = Y.length * 1) := by show _ = _; rw [byteCells_length]; omega
          clear hAc hBc hA hb
          go_wp2_with (at_builtin; first | (refine wpList_append_own _ rfl _ (.tmp 40) 26 rfl w3.heap.size 5 i0 (.int .u8 0) 1 1 Tryd.underlying26 hi hz0 hz1 hz2 rfl (by decide) _ 0 [] rfl (World.ownsRow_nil _ _ _ _) ⟨ab, aoff, none⟩ X.length acap (byteCells X) rfl HL1.out HN1.out (byteCells_one _) (by unfold maxLen; omega) (by omega) (Nat.le_refl _) ?_; intro v4 w4 hO4 hgrow4 hnil4; have hb4 : Below w3.heap.size w3 w4 := (Below.refl _ _).grown hgrow4 (Nat.le_refl _) (fun k hk => by cases hk); have hz4 := hgrow4.size) | (refine wpList_append_own _ rfl (.tmp 41) (.tmp 42) 26 rfl w3.heap.size 5 i0 (.int .u8 0) 1 1 Tryd.underlying26 hi hz0 hz1 hz2 rfl (by decide) v4 _ _ rfl hO4 ⟨bb, boff, none⟩ Y.length bcap (byteCells Y) rfl HL2.out (HN2.out _ hb4) (byteCells_one _) (by unfold maxLen; omega) (by omega) hz4 ?_; intro v5 w5 hO5 hgrow5 hnil5))
          have hb5 : Below w3.heap.size w3 w5 := hb4.grown hgrow5 hz4 (fun k hk => (hO4.lt k hk).1)
          have hV : BytesAt w5 v5 (X ++ Y) := (owns_bytes (l := X ++ Y) (by rw [byteCells_append, List.length_append]; simpa using hO5)).at
          have hB5 : Below w.heap.size w w5 := hB3.trans (hb5.mono hB3.size)
          have hr5 : Hid (RoundAt w5 v r) := hr3.out.later hb5
          have hq5 : Hid (RoundAt w5 u q) := hq3.out.later hb5
          clear hnil4 hnil5 hgrow4 hgrow5 hO4 hO5 hb4 hb5 hz4 HN1 HN2 HL1 HL2 hr3 hq3 hB3
          refine (dec_any hV (hA1.append hA2) (by simp; omega) (hL.later hB5)).mono ?_
          rintro e w6 ⟨⟨x, rfl, hX⟩, hb6⟩
          rw [hD] at hX ⊢
          have hB6 : Below w.heap.size w w6 := hB5.trans (hb6.mono hB5.size)
          have hr6 : RoundAt w6 v r := hr5.out.later hb6
          have hq6 : Hid (RoundAt w6 u q) := hq5.out.later hb6
          have hV6 := hV.later hb6
          clear hb6 hr5 hq5 hV hB5 hD
          go_wp2_with fail
          refine (sameRound_any hX hr6 fr fr).mono ?_
          rintro e w7 ⟨rfl, hb7⟩
          rw [eqRound_iff.2 rfl]
          have hB7 : Below w.heap.size w w7 := hB6.trans (hb7.mono hB6.size)
          have hq7 : Hid (RoundAt w7 u q) := hq6.out.later hb7
          have hV7 := hV6.later hb7
          clear hb7 hX hr6 hq6 hV6 hB6
          obtain ⟨va, vcap, rfl, -⟩ := id hV7
          obtain ⟨sv, hsv, hS⟩ := cut_l (P := fun _ => True) hV7 (m := (X.length : Int)) (by omega) (by simp; omega)
          rw [Int.toNat_natCast, List.drop_left] at hS
          have HS : Hid (BytesAt w7 sv Y) := hS
          simp only [List.length_append] at hsv
          clear hV7 hS
          go_wp2_with fail
          refine (dec_any HS.out hA2 (by omega) (hL.later hB7)).mono ?_
          rintro e w8 ⟨⟨y, rfl, hY⟩, hb8⟩
          rw [hD2] at hY ⊢
          have hB8 : Below w.heap.size w w8 := hB7.trans (hb8.mono hB7.size)
          have hq8 : RoundAt w8 u q := hq7.out.later hb8
          clear hb8 HS hq7 hD2
          go_wp2_with fail
          refine (sameRound_any hY hq8 fq fq).mono ?_
          rintro e w9 ⟨rfl, hb9⟩
          rw [eqRound_iff.2 rfl]
          have hB9 : Below w.heap.size w w9 := hB8.trans (hb9.mono hB8.size)
          go_wp2_with fail
          go_ret
          exact ⟨rfl, hB9⟩
        · have t0 := ne_zero_test k0
          rw [h0]
          go_wp2_with fail
          go_ret
          exact ⟨rfl, hB3⟩
      · have t0 := ne_zero_test h0
        go_wp2_with fail
        go_ret
        exact ⟨rfl, hB3⟩
end Go.Proofs.YtnlfcmjfokpdlacDoor
