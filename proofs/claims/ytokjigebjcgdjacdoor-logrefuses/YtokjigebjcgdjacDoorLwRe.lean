/-
  The walk of the law LogRefuses.
-/
import Derived.Test.YtokjigebjcgdjacDoorLwSu
import Derived.Test.YtokjigebjcgdjacDoorRefL
namespace Go.Proofs.YtokjigebjcgdjacDoor
open Go.RowKit

theorem ScAt.rowV {Q : Nat → Prop} {w : World} {D : Nat} {l : List (List (List Op5))} {k : Nat} (h : ScAt Q w D l k) : ∃ a cap, w.cell? ⟨D, 0, none⟩ = some (.slice a l.length cap) := by
  obtain ⟨-, vl, xs, h⟩ := h
  obtain ⟨a, cap, rfl, -⟩ := h.row.slice
  have := h.c0
  rw [h.len] at this
  exact ⟨a, cap, this⟩

set_option maxRecDepth 100000 in
set_option maxHeartbeats 4000000 in
theorem logRefusesLaw_any {v u : Value} {l : List LStep} {r : List (List Op5)} {w : World} (hl : StepsL w v l) (hf : FitsL l) (hr : RoundAt w u r) (fr : Fits r) (nr : R64 r) (hbd : ∀ i (h : i < r.length), r[i].length ≤ 140737488355328) (hL : Lim w) :
    Calls Tryd.prog 7 #[v, u] w fun e w' => e = .returned (.bool true) ∧ Below w.heap.size w w' := by
  have hm := hf.1
  go_enter Tryd.func7, Tryd.ntmps7
  go_wp2_with fail
  refine (begunL_any w hL).mono ?_
  rintro e w1 ⟨rfl, hB1⟩
  have hl1 := hl.later hB1
  go_wp2_with fail
  refine (greatLog_any hl1 hf).mono ?_
  rintro e w2 ⟨⟨g, rfl⟩, hb2⟩
  have hB2 : Below w.heap.size w w2 := hB1.trans (hb2.mono hB1.size)
  have hl2 := hl1.later hb2
  clear hl1 hb2
  cases g with
  | true =>
    go_wp2_with fail
    go_ret
    exact ⟨rfl, hB2⟩
  | false =>
    have hgr := greatL_any u r w2 (hr.later hB2) fr hbd
    go_wp2_with fail
    refine hgr.mono ?_
    rintro e w2' ⟨⟨g, rfl, hsm⟩, rfl⟩
    clear hgr
    cases g with
    | true =>
      clear hsm
      go_wp2_with fail
      go_ret
      exact ⟨rfl, hB2⟩
    | false =>
      have hsm' := hsm rfl
      clear hsm
      have hL2 := hL.later hB2
      go_wp2_with fail
      refine (logNew_any w2').mono ?_
      rintro e w3 ⟨rfl, h3, hb3⟩
      have hb0 := both_new h3 hb3
      have hb3A : Below w2'.heap.size w2' (w3.alloc (.cells #[.slice none 0 0, .int .i64 0] 39)) := hb3.alloc hb3.size _
      clear h3
      obtain ⟨a, cap, rfl, hs⟩ := hl2
      go_wp2_with fail
      go_loopg [7] l.length (fun g i wr => ∃ (j : Nat) (x : List (List (List Op5))) (k : Nat), j ≤ l.length ∧ g = l.length - j ∧ i = .int .i64 (j : Int) ∧ Both w2'.heap.size wr w2'.heap.size w3.heap.size x k ∧ Below w2'.heap.size w2' wr)
      case atStart => exact ⟨0, _, _, by omega, by omega, rfl, hb0, hb3A⟩
      case round =>
        obtain ⟨j, x, k, hj, hg, rfl, hBo, hB⟩ := hrel
        clear hb0 hb3A
        by_cases hlt : j < l.length
        · obtain ⟨b, off, rfl, q0, q1, rv, q2, hR⟩ := hs j hlt
          replace q0 := cell_later hB q0
          replace q1 := cell_later hB q1
          replace q2 := cell_later hB q2
          have hst := step_any (x := l[j]) hBo hR (hf.2 j hlt).1 (hf.2 j hlt).2 hL2 hB
          have HS : Hid (∀ i (h : i < l.length), ∃ b' off', some (⟨b, off, none⟩ : Addr) = some ⟨b', off', none⟩ ∧ w2'.cell? ⟨b', off' + i * 3, none⟩ = some (.int .i64 l[i].d) ∧ w2'.cell? ⟨b', off' + i * 3 + 1, none⟩ = some (.int .i64 l[i].keep) ∧ ∃ rv, w2'.cell? ⟨b', off' + i * 3 + 2, none⟩ = some rv ∧ RoundAt w2' rv l[i].r) := hs
          obtain ⟨ra, rcap, rfl, -⟩ := id hR
          clear hs hR hBo hB hsm' hbd
          generalize l[j] = y at *
          obtain ⟨yd, yk, yr⟩ := y
          dsimp only at *
          go_wp2_with fail
          refine hst.mono ?_
          rintro e w4 ⟨⟨gb, rfl⟩, ⟨l', k', hBo⟩, hB⟩
          clear hst q0 q1 q2
          go_wp2_with fail
          go_roundg (l.length - (j + 1))
          case measure => omega
          case rel => exact ⟨j + 1, _, _, by omega, rfl, by go_num, hBo, hB⟩
        · obtain rfl : j = l.length := by omega
          clear hs
          have hBw : Below w.heap.size w wr := hB2.trans (hB.mono hB2.size)
          obtain ⟨P, Q, h1, hsc, hd, hP, hQ⟩ := hBo
          have ho := h1.ok
          have hws := hB2.size
          clear hB hb3 hB1 hB2 hL2
          go_wp2_with fail
          refine (logBytes_any h1).mono ?_
          rintro e w5 ⟨⟨u1, rfl, hU1⟩, hb5⟩
          have h5 := h1.later hb5
          have hsc5 := hsc.later hb5
          have hB5 : Below w.heap.size w w5 := hBw.trans (hb5.mono hBw.size)
          have hsz5 := hb5.size
          have hA1 := ho.all
          have hs4 := ho.short
          have hfx := ho.few
          have hU5 : BytesIn (fun b => wr.heap.size ≤ b ∧ b < w5.heap.size) w5 u1 (allB x) := by
            obtain ⟨ua, ucap, rfl, hc, hh⟩ := hU1
            refine ⟨ua, ucap, rfl, hc, fun i hi => ?_⟩
            obtain ⟨b, off, hp, e, hcell⟩ := hh i hi
            exact ⟨b, off, ⟨hp, World.block_lt_of_cell? w5 _ hcell⟩, e, hcell⟩
          obtain ⟨ua, ucap, rfl, -⟩ := id hU1
          clear h1 hBw hsc hU1 hb5
          have hown := ownL_any u r w5 (hr.later hB5) (by omega) (fun i hi => by have := hsm'.2 i hi; omega)
          go_wp2_with fail
          refine hown.mono ?_
          rintro e w6 ⟨uo, Dd, rfl, hO6, hb6⟩
          have hR6 := hO6.round
          have hW6 := hO6.ownW
          have h6 := h5.later hb6
          have hsc6 := hsc5.later hb6
          have hU6 := hU5.later hb6
          have hB6 : Below w.heap.size w w6 := hB5.trans (hb6.mono hB5.size)
          have hsz6 := hb6.size
          have hub : ∀ g, uo.ownBlock = some g → w5.heap.size ≤ g ∧ g < w6.heap.size := fun g hg => owns_lt hO6.row hg
          have hw5 := hB5.size
          clear h5 hsc5 hU5 hB5 hb6 hown hO6
          go_wp2_with fail
          refine (logPut_any h6 hR6.at fr nr (hL.later hB6)).mono ?_
          rintro e w7 ⟨hO7, hG7⟩
          have hB7 : Below w.heap.size w w7 := hG7.below hB6 hB6.size fun b hb => by have := (hP b hb).1; omega
          have hsc7 := hsc6.grew hG7 fun b hq hp => hd b hp hq
          have hU7 := hU6.grew hG7 fun b hb hp => by have := (hP b hp).2; omega
          have hW7 := hW6.grew hG7 (fun b hb hp => by have := (hP b hp).2; omega) (fun b off n c e _ hp => by
            have := (hP b hp).2
            have := hub b (by rw [e]; rfl)
            omega)
          have hsz7 := hG7.size
          clear h6 hsc6 hU6 hB6 hG7 hR6 hW6
          cases hok : okP x r with
          | false =>
            obtain ⟨⟨c, hc0, rfl⟩, h7⟩ := hO7.no hok
            have hc0' : (c != 0) = true := by simp [hc0]
            clear hO7
            go_wp2_with fail
            refine (logBytes_any h7).mono ?_
            rintro e w8 ⟨⟨u3, rfl, hU3⟩, hb8⟩
            have h8 := h7.later hb8
            have hsc8 := hsc7.later hb8
            have hB8 : Below w.heap.size w w8 := hB7.trans (hb8.mono hB7.size)
            have HSM : Hid (∀ w', Below w8.heap.size w8 w' → Calls Tryd.prog 21 #[.slice ua (allB x).length ucap, u3] w' fun e w'' => e = .returned (.bool true) ∧ w'' = w') := fun w' hb => by
              have := sameBytes_any ((hU7.later hb8).later hb).at (hU3.later hb).at hA1 hA1
              rw [decide_eq_true rfl] at this
              exact this
            have HLN : Hid (∀ w', Below w8.heap.size w8 w' → Calls Tryd.prog 17 #[.pointer (some ⟨w2'.heap.size, 0, none⟩)] w' fun e w'' => e = .returned (.int .i64 (x.length : Int)) ∧ w'' = w') := fun w' hb => logLen_any (h8.later hb)
            obtain ⟨da, dcap, d0⟩ := hsc8.rowV
            clear h7 hsc7 hU7 hB7 hb8 hW7 hsc8 h8
            obtain ⟨u3a, u3c, rfl, -⟩ := hU3
            go_wp2_with fail
            go_quiet (first | (go_at_call 21; with_reducible refine Calls.quiet_of_same (HSM.out _ (drewN_below (Below.refl _ _) _))) | (go_at_call 17; with_reducible refine Calls.quiet_of_same (HLN.out _ (drewN_below (Below.refl _ _) _))))
            go_wp2_with fail
            go_ret
            exact ⟨rfl, drewN_below hB8 _⟩
          | true =>
            obtain ⟨rfl, h7⟩ := hO7.yes hok
            have hgood : Good r := good_of (by simp [okP] at hok; exact hok.1) nr
            clear hO7
            go_wp2_with fail
            refine (logBytes_any h7).mono ?_
            rintro e w8 ⟨⟨u3, rfl, hU3⟩, hb8⟩
            have h8 := h7.later hb8
            have hsc8 := hsc7.later hb8
            have hU8 := hU7.later hb8
            have hW8 := hW7.later hb8
            have hB8 : Below w.heap.size w w8 := hB7.trans (hb8.mono hB7.size)
            have e1 : endB (x ++ [r]) k = endB x k := endB_append x [r] ho.sure
            rw [e1]
            have hfits := roundF_fits hgood.1
            have hl8 := (roundF_zero.1 hgood.1).1
            have HFin : Hid (∀ wq, Grew (fun b => (w5.heap.size ≤ b ∧ b < w6.heap.size) ∧ uo.ownBlock ≠ some b) w8 wq → LogAt (fun b => P b ∨ w6.heap.size ≤ b) wq w2'.heap.size (x ++ [r]) k ∧ ScAt Q wq w3.heap.size x k ∧ BytesAt wq (.slice ua (allB x).length ucap) (allB x) ∧ BytesAt wq u3 (allB (x ++ [r])) ∧ Below w.heap.size w wq) := fun wq hG =>
              ⟨h8.grew hG fun b hp hs => by
                rcases hp with hp | hp
                · have := (hP b hp).2; omega
                · omega, hsc8.grew hG fun b hq hs => by have := (hQ b hq).2; omega, (hU8.grew hG fun b hb hs => by omega).at, (hU3.grew hG fun b hb hs => by omega).at, hG.below hB8 hB8.size fun b hb => by omega⟩
            clear h7 hsc7 hU7 hB7 hb8 hW7 h8 hsc8 hU8 hub
            obtain ⟨oa, ocap, rfl, -⟩ := id hW8
            obtain ⟨u3a, u3c, rfl, -⟩ := id hU3
            clear hU3
            go_wp2_with fail
            go_loopg [15] r.length (fun g i wq => ∃ m : Nat, m ≤ r.length ∧ g = r.length - m ∧ i = .int .i64 (m : Int) ∧ OwnW (fun b => (w5.heap.size ≤ b ∧ b < w6.heap.size) ∧ (Value.slice oa r.length ocap).ownBlock ≠ some b) wq (.slice oa r.length ocap) r ∧ Grew (fun b => (w5.heap.size ≤ b ∧ b < w6.heap.size) ∧ (Value.slice oa r.length ocap).ownBlock ≠ some b) w8 wq)
            case atStart => exact ⟨0, by omega, by omega, rfl, hW8, Grew.refl _ _⟩
            case round =>
              obtain ⟨m, hm', hgm, rfl, hWm, hGm⟩ := hrel
              clear hW8
              by_cases hmr : m < r.length
              · have tm : (m : Int) < (r.length : Int) := by omega
                obtain ⟨oa', ocap', e', hh⟩ := id hWm
                cases e'
                obtain ⟨b, off, rfl, hS, da, dcap, d0, hk⟩ := hh m hmr
                have hl14 := checkF_len ((roundF_zero.1 hgood.1).2 _ (List.getElem_mem hmr))
                clear hh hk
                go_wp2_with fail
                go_loopg [16] r[m].length (fun g i wq => ∃ q : Nat, q ≤ r[m].length ∧ g = r[m].length - q ∧ i = .int .i64 (q : Int) ∧ OwnW (fun b' => (w5.heap.size ≤ b' ∧ b' < w6.heap.size) ∧ (Value.slice (some ⟨b, off, none⟩) r.length ocap).ownBlock ≠ some b') wq (.slice (some ⟨b, off, none⟩) r.length ocap) r ∧ Grew (fun b' => (w5.heap.size ≤ b' ∧ b' < w6.heap.size) ∧ (Value.slice (some ⟨b, off, none⟩) r.length ocap).ownBlock ≠ some b') w8 wq)
                case atStart => exact ⟨0, by omega, by omega, rfl, hWm, hGm⟩
                case round =>
                  obtain ⟨q, hq', hgq, rfl, hWq, hGq⟩ := hrel
                  clear hWm hGm d0
                  obtain ⟨oa', ocap', e', hh⟩ := id hWq
                  cases e'
                  obtain ⟨b', off', e', hS', da', dcap', d0, hk⟩ := hh m hmr
                  cases e'
                  clear hh
                  by_cases hqr : q < r[m].length
                  · have tq : (q : Int) < (r[m].length : Int) := by omega
                    obtain ⟨db, doff, rfl, hSd, ⟨y, hy⟩, hfz⟩ := hk q hqr
                    have hWn := hWq.set hSd (doff + q * 5 + 4) (.int .i64 77)
                    have hGn := hGq.trans (grew_set wr hSd (doff + q * 5 + 4) (.int .i64 77))
                    have HWn : Hid (OwnW (fun b' => (w5.heap.size ≤ b' ∧ b' < w6.heap.size) ∧ (Value.slice (some ⟨b, off, none⟩) r.length ocap).ownBlock ≠ some b') (wr.setCell ⟨db, doff + q * 5 + 4, none⟩ (.int .i64 77)) (.slice (some ⟨b, off, none⟩) r.length ocap) r) := hWn
                    clear hk hWq hGq hWn
                    generalize r[m].length = dl at *
                    go_wp2_with fail
                    go_roundg (dl - (q + 1))
                    case measure => omega
                    case rel => exact ⟨q + 1, by omega, rfl, by go_num, HWn.out, hGn⟩
                  · have tq : ¬ ((q : Int) < (r[m].length : Int)) := by omega
                    clear hk
                    go_wp2_with fail
                    go_roundg (r.length - (m + 1))
                    case measure => omega
                    case rel => exact ⟨m + 1, by omega, rfl, by go_num, hWq, hGq⟩
              · obtain rfl : m = r.length := by omega
                obtain ⟨hX, hSc, hA, hA3, hBq⟩ := HFin.out _ hGm
                clear HFin hWm hGm
                have hlx : x.length < (x ++ [r]).length := by simp
                have hro := logRound_any hX (x.length : Int) (hL.later hBq)
                go_wp2_with fail
                refine hro.mono ?_
                rintro e w21 ⟨hO21, hb21⟩
                obtain ⟨p, rfl, hp⟩ := hO21.yes hlx
                rw [List.getElem_append_right (Nat.le_refl _)] at hp
                simp only [Nat.sub_self, List.getElem_cons_zero] at hp
                have hB21 : Below w.heap.size w w21 := hBq.trans (hb21.mono hBq.size)
                have hA21 := hA.later hb21
                have hA321 := hA3.later hb21
                obtain ⟨da, dcap, d0⟩ := (hSc.later hb21).rowV
                clear hro hO21 hb21 hX hSc hA hA3 hBq
                have hsr := sameRound_any hp (hr.later hB21) hfits hfits
                rw [eqRound_iff.2 rfl] at hsr
                have e2 : Hid ((allB (x ++ [r])).length = (allB x).length + (encB r).length) := by show _ = _; rw [allB_snoc, List.length_append]
                have e3 := enc_pos r
                have e4 := hgood.len
                have e5 : Hid ((allB (x ++ [r])).take (allB x).length = allB x) := by show _ = _; rw [allB_snoc, List.take_left]
                clear hp e1 hlx hl8 hok hm' hgm hmr hsm' hbd
                go_wp2_with fail
                refine hsr.mono ?_
                rintro e w22 ⟨rfl, hb22⟩
                have hB22 : Below w.heap.size w w22 := hB21.trans (hb22.mono hB21.size)
                have hA22 := hA21.later hb22
                have hA322 := hA321.later hb22
                obtain ⟨sv, hsv, hS⟩ := cut_h (W := w22) (P := fun _ => True) hA322 (n := ((allB x).length : Int)) (by omega) (by have := e2.out; omega)
                rw [Int.toNat_natCast, e5.out] at hS
                have hsame := sameBytes_any hS hA22 hA1 hA1
                rw [decide_eq_true rfl] at hsame
                have tl : ((allB x).length : Int) < ((allB (x ++ [r])).length : Int) := by have := e2.out; omega
                clear hsr hb22 hB21 hA21 hA321 hA22 hA322 hS e5 e2 e3 e4 d0
                generalize (allB (x ++ [r])).length = B at *
                generalize (allB x).length = A at *
                go_wp2_with fail
                refine hsame.mono ?_
                rintro e w23 ⟨rfl, rfl⟩
                clear hsame
                go_wp2_with fail
                go_ret
                exact ⟨by simp, hB22⟩
end Go.Proofs.YtokjigebjcgdjacDoor
