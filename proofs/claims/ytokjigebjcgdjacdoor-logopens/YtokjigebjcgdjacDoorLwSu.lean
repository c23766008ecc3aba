/-
  The walk of the law LogSure.
-/
import Derived.Test.YtokjigebjcgdjacDoorGrtL
import Derived.Test.YtokjigebjcgdjacDoorBegL
namespace Go.Proofs.YtokjigebjcgdjacDoor
open Go.RowKit

/-- A log just made, and a reference's beside it. -/
theorem both_new {w w1 : World} {C : Nat} (h : LogAt (fun b => w.heap.size ≤ b) w1 C [] 0) (hb : Below w.heap.size w w1) : Both w.heap.size (w1.alloc (.cells #[.slice none 0 0, .int .i64 0] 39)) C w1.heap.size [] 0 := by
  have hbA : Below w1.heap.size w1 (w1.alloc (.cells #[.slice none 0 0, .int .i64 0] 39)) := (Below.refl _ _).alloc (Nat.le_refl _) _
  have h1 : LogAt (fun b => w.heap.size ≤ b ∧ b < w1.heap.size) w1 C [] 0 := h.mono fun b hb hp => ⟨hp, hb⟩
  refine Both.mk' (Q := fun b => b = w1.heap.size) (h1.later hbA) ⟨LogOk.nil, .slice none 0 0, [], ⟨by go_simp, by go_simp, fun o => by go_simp, rfl, .inl (World.ownsRow_nil _ _ _ _), rfl, fun g hg => (by cases hg), fun i hi => (by simp at hi)⟩⟩ (fun b _ hp hq => by omega) (fun b hp => hp.1) (fun b hq => by have := hb.size; omega)

set_option maxRecDepth 100000 in
set_option maxHeartbeats 4000000 in
theorem logSureLaw_any {v : Value} {l : List LStep} {w : World} (keep again : Int) (hl : StepsL w v l) (hf : FitsL l) (hL : Lim w) :
    Calls Tryd.prog 5 #[v, .int .i64 keep, .int .i64 again] w fun e w' => e = .returned (.bool true) ∧ Below w.heap.size w w' := by
  have hm := hf.1
  go_enter Tryd.func5, Tryd.ntmps5
  go_wp2_with fail
  refine (begunL_any w hL).mono ?_
  rintro e w1 ⟨rfl, hB1⟩
  have hl1 := hl.later hB1
  go_wp2_with fail
  refine (greatLog_any hl1 hf).mono ?_
  rintro e w2 ⟨⟨g, rfl⟩, hb2⟩
  have hB2 : Below w.heap.size w w2 := hB1.trans (hb2.mono hB1.size)
  have hl2 := hl1.later hb2
  clear hl1 hb2
  cases g with
  | true =>
    go_wp2_with fail
    go_ret
    exact ⟨rfl, hB2⟩
  | false =>
    have hL2 := hL.later hB2
    go_wp2_with fail
    refine (logNew_any w2).mono ?_
    rintro e w3 ⟨rfl, h3, hb3⟩
    have hb0 := both_new h3 hb3
    have hb3A : Below w2.heap.size w2 (w3.alloc (.cells #[.slice none 0 0, .int .i64 0] 39)) := hb3.alloc hb3.size _
    clear h3
    obtain ⟨a, cap, rfl, hs⟩ := hl2
    go_wp2_with fail
    go_loopg [9] l.length (fun g i wr => ∃ (j : Nat) (x : List (List (List Op5))) (k : Nat), j ≤ l.length ∧ g = l.length - j ∧ i = .int .i64 (j : Int) ∧ Both w2.heap.size wr w2.heap.size w3.heap.size x k ∧ Below w2.heap.size w2 wr)
    case atStart => exact ⟨0, _, _, by omega, by omega, rfl, hb0, hb3A⟩
    case round =>
      obtain ⟨j, x, k, hj, hg, rfl, hBo, hB⟩ := hrel
      clear hb0 hb3A
      by_cases hlt : j < l.length
      · obtain ⟨b, off, rfl, q0, q1, rv, q2, hR⟩ := hs j hlt
        replace q0 := cell_later hB q0
        replace q1 := cell_later hB q1
        replace q2 := cell_later hB q2
        have hst := step_any (x := l[j]) hBo hR (hf.2 j hlt).1 (hf.2 j hlt).2 hL2 hB
        have HS : Hid (∀ i (h : i < l.length), ∃ b' off', some (⟨b, off, none⟩ : Addr) = some ⟨b', off', none⟩ ∧ w2.cell? ⟨b', off' + i * 3, none⟩ = some (.int .i64 l[i].d) ∧ w2.cell? ⟨b', off' + i * 3 + 1, none⟩ = some (.int .i64 l[i].keep) ∧ ∃ rv, w2.cell? ⟨b', off' + i * 3 + 2, none⟩ = some rv ∧ RoundAt w2 rv l[i].r) := hs
        obtain ⟨ra, rcap, rfl, -⟩ := id hR
        clear hs hR hBo hB
        generalize l[j] = y at *
        obtain ⟨yd, yk, yr⟩ := y
        dsimp only at *
        go_wp2_with fail
        refine hst.mono ?_
        rintro e w4 ⟨⟨gb, rfl⟩, ⟨l', k', hBo⟩, hB⟩
        clear hst q0 q1 q2
        go_wp2_with fail
        go_roundg (l.length - (j + 1))
        case measure => omega
        case rel => exact ⟨j + 1, _, _, by omega, rfl, by go_num, hBo, hB⟩
      · obtain rfl : j = l.length := by omega
        clear hs
        have hBw : Below w.heap.size w wr := hB2.trans (hB.mono hB2.size)
        obtain ⟨P, Q, h1, -, -, hP, -⟩ := hBo
        have ho := h1.ok
        have hws := hB2.size
        clear hB hb3 hB1 hB2 hL2
        go_wp2_with fail
        refine (logBytes_any h1).mono ?_
        rintro e w5 ⟨⟨u1, rfl, hU1⟩, hb5⟩
        have h5 := h1.later hb5
        have hB5 : Below w.heap.size w w5 := hBw.trans (hb5.mono hBw.size)
        have hsz5 := hb5.size
        clear h1 hBw
        go_wp2_with fail
        refine (logSure_any h5).mono ?_
        rintro e w6 ⟨rfl, hb6⟩
        have h6 := h5.later hb6
        have hB6 : Below w.heap.size w w6 := hB5.trans (hb6.mono hB5.size)
        have hU6 := hU1.later hb6
        have hsz6 := hb6.size
        clear h5 hU1 hB5 hb5 hb6
        go_wp2_with fail
        refine (logCrash_any h6 keep).mono ?_
        rintro e w7 ⟨rfl, h7, hG7⟩
        have hB7 : Below w.heap.size w w7 := hG7.below hB6 hB6.size fun b hb => by have := (hP b hb).1; omega
        have hU7 := hU6.grew hG7 fun b hb hp => by have := (hP b hp).2; omega
        have hsz7 := hG7.size
        clear h6 hU6 hG7 hB6
        have f1 := whole_ge (l := x) (k := k) (m := max keep 0) ho.sure (Int.le_max_right _ _)
        have f2 := whole_le x k (max keep 0)
        obtain ⟨n, hn⟩ : ∃ n, n = wholeF x k (max keep 0) := ⟨_, rfl⟩
        have e1 : endB (x.take n) n = (allB (x.take n)).length := by unfold endB; rw [List.take_of_length_le (by simp; omega)]
        have e2 : (x.take n).length = n := by simp; omega
        have e3 : (allB x).take (allB (x.take n)).length = allB (x.take n) := allB_take x n
        have e4 : (allB (x.take n)).length ≤ (allB x).length := endB_le (by omega)
        have e5 : endB x k ≤ (allB (x.take n)).length := endB_mono (by omega) (by omega)
        have e6 : ((allB x).length : Int) ≤ keep → (allB (x.take n)).length = (allB x).length := fun h => by
          have : n = x.length := by rw [hn]; exact whole_all (Int.le_trans h (Int.le_max_left _ _))
          rw [this, List.take_length]
        have e7 : keep ≤ 0 → (allB (x.take n)).length = endB x k := fun h => by
          have : n = k := by rw [hn, Int.max_eq_right h]; exact whole_none ho.sure
          rw [this]; rfl
        have e8 : wholeF (x.take n) n (max again 0) = n := by
          have := whole_sure (l := x.take n) (m := max again 0) (Int.le_max_right _ _)
          rw [e2] at this; exact this
        rw [← hn] at h7 f1 f2
        have hA1 := ho.all
        have hs4 := ho.short
        clear hn ho
        generalize x.take n = y at *
        go_wp2_with fail
        refine (logBytes_any h7).mono ?_
        rintro e w8 ⟨⟨u2, rfl, hU2⟩, hb8⟩
        have h8 := h7.later hb8
        have hB8 : Below w.heap.size w w8 := hB7.trans (hb8.mono hB7.size)
        have hU8 := hU7.later hb8
        have hA2 := h8.ok.all
        rw [e1]
        have h8l := logLen_any h8
        rw [e2] at h8l
        have hcr : y.take n = y := by rw [← e2, List.take_length]
        clear h7 hB7 hU7 hb8 e1
        obtain ⟨sv, hsv, hS⟩ : ∃ sv, (∀ w, (Instr.slice 26 u1 none (some (.int .i64 ((allB y).length : Int))) none).run Tryd.prog w = .ok sv w) ∧ BytesIn (fun b => wr.heap.size ≤ b) w8 sv (allB y) := by
          obtain ⟨ua, ucap, rfl, -⟩ := id hU8
          obtain ⟨sv, h1, h2⟩ := cut_h (W := w8) hU8 (n := ((allB y).length : Int)) (by omega) (by omega)
          rw [Int.toNat_natCast, e3] at h2
          exact ⟨sv, h1, h2⟩
        have hsame := sameBytes_any hU2.at hS.at hA2 hA2
        rw [decide_eq_true rfl] at hsame
        have HU2 : Hid (BytesIn (fun b => w7.heap.size ≤ b) w8 u2 (allB y)) := hU2
        obtain ⟨ua, ucap, rfl, -⟩ := id hU8
        obtain ⟨va, vcap, rfl, -⟩ := id hU2
        clear hU8 hU2 hS e3 hA1
        have HB : Hid (allB y = allB y) := rfl
        generalize (allB x).length = A at *
        generalize endB x k = S at *
        generalize hb : (allB y).length = B at *
        go_wp2_with fail
        refine hsame.mono ?_
        rintro e w9 ⟨rfl, rfl⟩
        clear hsame hsv
        have hsu := logSure_any h8
        go_wp2_with fail
        refine hsu.mono ?_
        rintro e w10 ⟨rfl, hb10⟩
        have h10 := h8.later hb10
        have hB10 : Below w.heap.size w w10 := hB8.trans (hb10.mono hB8.size)
        have HU10 : Hid (BytesIn (fun b => w7.heap.size ≤ b) w10 (.slice va B vcap) (allB y)) := HU2.out.later hb10
        clear hsu h8 hB8 HU2 hb10 h8l
        have h10l := logLen_any h10
        rw [e2] at h10l
        go_wp2_with fail
        refine h10l.mono ?_
        rintro e w11 ⟨rfl, rfl⟩
        go_wp2_with fail
        refine h10l.mono ?_
        rintro e w12 ⟨rfl, rfl⟩
        clear h10l
        have hcr2 := logCrash_any h10 again
        rw [e8, hcr] at hcr2
        have hA2' : AllB (allB y) := hA2
        have t1 : (A : Int) ≤ keep → ((B : Int) != (A : Int)) = false := fun h => by simp [e6 h]
        have t2 : keep ≤ 0 → ((B : Int) != (S : Int)) = false := fun h => by simp [e7 h]
        have HF : ∀ w13, LogAt P w13 w2.heap.size y n → Grew P w12 w13 → Below w.heap.size w w13 ∧ BytesIn (fun b => w7.heap.size ≤ b) w13 (.slice va B vcap) (allB y) := fun w13 _ hG => ⟨hG.below hB10 hB10.size fun b hb => by have := (hP b hb).1; omega, HU10.out.grew hG fun b hb hp => by have := (hP b hp).2; omega⟩
        have HF' : Hid (∀ w13, LogAt P w13 w2.heap.size y n → Grew P w12 w13 → Below w.heap.size w w13 ∧ BytesIn (fun b => w7.heap.size ≤ b) w13 (.slice va B vcap) (allB y)) := HF
        have he1 : endB y n = B := by rw [← e2, endB_all, hb]
        have HA2 : Hid (AllB (allB y)) := hA2
        have HE1 : Hid (endB y n = B) := he1
        clear HF HU10 h10 e2 e6 e7 e8 hcr hA2 hA2' hP he1 hb hf hl hL
        by_cases k1 : (A : Int) ≤ keep
        · have s1 := t1 k1
          clear t1
          by_cases k2 : keep ≤ 0
          · have s2 := t2 k2
            clear t2
            go_wp2_with fail
            refine hcr2.mono ?_
            rintro e w13 ⟨rfl, h13, hG13⟩
            obtain ⟨hB13, hU13⟩ := HF'.out w13 h13 hG13
            clear hcr2 hG13 HF'
            go_wp2_with fail
            refine (logBytes_any h13).mono ?_
            rintro e w14 ⟨⟨u3, rfl, hU3⟩, hb14⟩
            rw [HE1.out]
            have hB14 : Below w.heap.size w w14 := hB13.trans (hb14.mono hB13.size)
            have hsame := sameBytes_any hU3.at (hU13.later hb14).at HA2.out HA2.out
            rw [decide_eq_true rfl] at hsame
            clear hb14 h13 hU13 hU3
            go_wp2_with fail
            refine hsame.mono ?_
            rintro e w15 ⟨rfl, rfl⟩
            clear hsame
            go_wp2_with fail
            go_ret
            exact ⟨by simp, hB14⟩
          · clear t2
            go_wp2_with fail
            refine hcr2.mono ?_
            rintro e w13 ⟨rfl, h13, hG13⟩
            obtain ⟨hB13, hU13⟩ := HF'.out w13 h13 hG13
            clear hcr2 hG13 HF'
            go_wp2_with fail
            refine (logBytes_any h13).mono ?_
            rintro e w14 ⟨⟨u3, rfl, hU3⟩, hb14⟩
            rw [HE1.out]
            have hB14 : Below w.heap.size w w14 := hB13.trans (hb14.mono hB13.size)
            have hsame := sameBytes_any hU3.at (hU13.later hb14).at HA2.out HA2.out
            rw [decide_eq_true rfl] at hsame
            clear hb14 h13 hU13 hU3
            go_wp2_with fail
            refine hsame.mono ?_
            rintro e w15 ⟨rfl, rfl⟩
            clear hsame
            go_wp2_with fail
            go_ret
            exact ⟨by simp, hB14⟩
        · clear t1
          by_cases k2 : keep ≤ 0
          · have s2 := t2 k2
            clear t2
            go_wp2_with fail
            refine hcr2.mono ?_
            rintro e w13 ⟨rfl, h13, hG13⟩
            obtain ⟨hB13, hU13⟩ := HF'.out w13 h13 hG13
            clear hcr2 hG13 HF'
            go_wp2_with fail
            refine (logBytes_any h13).mono ?_
            rintro e w14 ⟨⟨u3, rfl, hU3⟩, hb14⟩
            rw [HE1.out]
            have hB14 : Below w.heap.size w w14 := hB13.trans (hb14.mono hB13.size)
            have hsame := sameBytes_any hU3.at (hU13.later hb14).at HA2.out HA2.out
            rw [decide_eq_true rfl] at hsame
            clear hb14 h13 hU13 hU3
            go_wp2_with fail
            refine hsame.mono ?_
            rintro e w15 ⟨rfl, rfl⟩
            clear hsame
            go_wp2_with fail
            go_ret
            exact ⟨by simp, hB14⟩
          · clear t2
            go_wp2_with fail
            refine hcr2.mono ?_
            rintro e w13 ⟨rfl, h13, hG13⟩
            obtain ⟨hB13, hU13⟩ := HF'.out w13 h13 hG13
            clear hcr2 hG13 HF'
            go_wp2_with fail
            refine (logBytes_any h13).mono ?_
            rintro e w14 ⟨⟨u3, rfl, hU3⟩, hb14⟩
            rw [HE1.out]
            have hB14 : Below w.heap.size w w14 := hB13.trans (hb14.mono hB13.size)
            have hsame := sameBytes_any hU3.at (hU13.later hb14).at HA2.out HA2.out
            rw [decide_eq_true rfl] at hsame
            clear hb14 h13 hU13 hU3
            go_wp2_with fail
            refine hsame.mono ?_
            rintro e w15 ⟨rfl, rfl⟩
            clear hsame
            go_wp2_with fail
            go_ret
            exact ⟨by simp, hB14⟩
end Go.Proofs.YtokjigebjcgdjacDoor
