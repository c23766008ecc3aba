/-
  The walk of the law StorePicks.
-/
import Derived.Test.YtihfjmdjjeciiacDoorBegQJ
import Derived.Test.YtihfjmdjjeciiacDoorGrtQJ
import Derived.Deep.DeepCutAuto
namespace Go.Proofs.YtihfjmdjjeciiacDoor
open Go.RowKit Go.Shelf

/-- Two stores that have the same rounds, as many made sure of, as many done; in memory apart, of the law's own. -/
def TwoQ (N : Nat) (w : World) (S T : Nat) (x : List (List (List Op5))) (k m : Nat) : Prop :=
  ∃ P Q : Nat → Prop, StAt P w S x k m ∧ StAt Q w T x k m ∧ (∀ b, P b → ¬ Q b) ∧ (∀ b, P b → N ≤ b ∧ b < w.heap.size) ∧ (∀ b, Q b → N ≤ b ∧ b < w.heap.size)
theorem TwoQ.later {N : Nat} {w w' : World} {S T : Nat} {x : List (List (List Op5))} {k m : Nat} (h : TwoQ N w S T x k m) (hb : Below w.heap.size w w') : TwoQ N w' S T x k m := by
  obtain ⟨P, Q, h1, h2, h3, h4, h5⟩ := h
  have := hb.size
  exact ⟨P, Q, h1.later hb, h2.later hb, h3, fun b hp => ⟨(h4 b hp).1, by have := (h4 b hp).2; omega⟩, fun b hp => ⟨(h5 b hp).1, by have := (h5 b hp).2; omega⟩⟩
theorem TwoQ.one {N : Nat} {w : World} {S T : Nat} {x : List (List (List Op5))} {k m : Nat} (h : TwoQ N w S T x k m) : ∃ P, StAt P w S x k m := by
  obtain ⟨P, Q, h1, -⟩ := h
  exact ⟨P, h1⟩
theorem TwoQ.two {N : Nat} {w : World} {S T : Nat} {x : List (List (List Op5))} {k m : Nat} (h : TwoQ N w S T x k m) : ∃ P, StAt P w T x k m := by
  obtain ⟨P, Q, -, h2, -⟩ := h
  exact ⟨Q, h2⟩
/-- Behind a change of the first one and one of the second one. -/
theorem twoQ_next {P Q : Nat → Prop} {N : Nat} {w1 w2 w3 : World} {S T : Nat} {x : List (List (List Op5))} {k m : Nat} (h1 : StAt (fun b => P b ∨ w1.heap.size ≤ b) w2 S x k m) (h2 : StAt (fun b => Q b ∨ w2.heap.size ≤ b) w3 T x k m) (hG : Grew Q w2 w3) (hd : ∀ b, P b → ¬ Q b) (hP : ∀ b, P b → N ≤ b ∧ b < w1.heap.size) (hQ : ∀ b, Q b → N ≤ b ∧ b < w1.heap.size) (hN : N ≤ w1.heap.size) (h12 : w1.heap.size ≤ w2.heap.size) : TwoQ N w3 S T x k m := by
  have h1' : StAt (fun b => (P b ∨ w1.heap.size ≤ b) ∧ b < w2.heap.size) w2 S x k m := h1.mono fun b hb hp => ⟨hp, hb⟩
  have hpq : ∀ b, (P b ∨ w1.heap.size ≤ b) → ¬ Q b := fun b hp hq => by
    rcases hp with hp | hp
    · exact hd b hp hq
    · have := (hQ b hq).2; omega
  have h3 := h1'.grew hG fun b hp => hpq b hp.1
  have hz := hG.size
  refine ⟨fun b => (P b ∨ w1.heap.size ≤ b) ∧ b < w2.heap.size, fun b => (Q b ∨ w2.heap.size ≤ b) ∧ b < w3.heap.size, h3, h2.mono fun b hb hp => ⟨hp, hb⟩, fun b hp hq => ?_, fun b hp => ⟨?_, by omega⟩, fun b hq => ⟨?_, hq.2⟩⟩
  · rcases hq.1 with hq' | hq'
    · exact hpq b hp.1 hq'
    · omega
  · rcases hp.1 with hp | hp
    · exact (hP b hp).1
    · omega
  · rcases hq.1 with hq | hq
    · exact (hQ b hq).1
    · omega

/-- A step of the script, and the law's own copy of it, as they lie in memory. -/
def HeldQ (b o X : Nat) (kd rv pv pv' kp : Value) (w : World) : Prop :=
  (w.cell? ⟨b, o, none⟩ = some kd ∧ w.cell? ⟨b, o + 1, none⟩ = some rv ∧ w.cell? ⟨b, o + 2, none⟩ = some pv ∧ w.cell? ⟨b, o + 3, none⟩ = some kp) ∧ w.cell? ⟨X, 0, none⟩ = some kd ∧ w.cell? ⟨X, 1, none⟩ = some rv ∧ w.cell? ⟨X, 2, none⟩ = some pv' ∧ w.cell? ⟨X, 3, none⟩ = some kp
theorem HeldQ.grew {P : Nat → Prop} {b o X : Nat} {kd rv pv pv' kp : Value} {w w' : World} (h : HeldQ b o X kd rv pv pv' kp w) (hg : Grew P w w') (hb : ¬ P b) (hX : ¬ P X) : HeldQ b o X kd rv pv pv' kp w' := by
  obtain ⟨⟨f0, f1, f2, f3⟩, f4, f5, f6, f7⟩ := h
  exact ⟨⟨hg.cell f0 hb, hg.cell f1 hb, hg.cell f2 hb, hg.cell f3 hb⟩, hg.cell f4 hX, hg.cell f5 hX, hg.cell f6 hX, hg.cell f7 hX⟩
theorem HeldQ.later {b o X : Nat} {kd rv pv pv' kp : Value} {w w' : World} (h : HeldQ b o X kd rv pv pv' kp w) (hb : Below w.heap.size w w') : HeldQ b o X kd rv pv pv' kp w' := h.grew (P := fun _ => False) (Grew.of_below hb) id id

theorem held_new {b o : Nat} {kd rv pv kp : Value} {w : World} (q0 : w.cell? ⟨b, o, none⟩ = some kd) (q1 : w.cell? ⟨b, o + 1, none⟩ = some rv) (q2 : w.cell? ⟨b, o + 2, none⟩ = some pv) (q3 : w.cell? ⟨b, o + 3, none⟩ = some kp) (pv' : Value) (t : TypeId) : HeldQ b o w.heap.size kd rv pv pv' kp (w.alloc (.cells #[kd, rv, pv', kp] t)) := by
  have hb : Below w.heap.size w (w.alloc (.cells #[kd, rv, pv', kp] t)) := (Below.refl _ _).alloc (Nat.le_refl _) _
  exact ⟨⟨cell_later hb q0, cell_later hb q1, cell_later hb q2, cell_later hb q3⟩, by go_simp, by go_simp, by go_simp, by go_simp⟩
theorem nums_none (w : World) : NumsAt w (.slice none ([] : List Int).length 0) [] := ⟨none, 0, rfl, fun i hi => by simp at hi⟩

set_option maxRecDepth 100000 in
set_option maxHeartbeats 4000000 in
theorem storePicksLaw_any {v u : Value} {l : List QStep} {ps : List (List Int)} {w : World} (hl : StepsQ w v l) (hf : FitsQ l) (hps : PicksQ w u ps) (hpm : ps.length ≤ 9223372036854775807) (hL : Lim w) :
    Calls Tryd.prog 10 #[v, u] w fun e w' => e = .returned (.bool true) ∧ Below w.heap.size w w' := by
  have hm := hf.1
  obtain ⟨ua, ucap, rfl, -⟩ := id hps
  go_enter Tryd.func10, Tryd.ntmps10
  go_wp2_with fail
  refine (begunQ_any w hL).mono ?_
  rintro e w1 ⟨rfl, hB1⟩
  have hl1 := hl.later hB1
  go_wp2_with fail
  refine (greatQ_any hl1 hf).mono ?_
  rintro e w2 ⟨⟨g, rfl⟩, hb2⟩
  have hB2 : Below w.heap.size w w2 := hB1.trans (hb2.mono hB1.size)
  have hl2 := hl1.later hb2
  have hps2 := hps.later hB2
  clear hl1 hb2 hps
  cases g with
  | true =>
    go_wp2_with fail
    go_ret
    exact ⟨rfl, hB2⟩
  | false =>
    by_cases h100 : (100 : Int) < (ps.length : Int)
    · go_wp2_with fail
      go_ret
      exact ⟨rfl, hB2⟩
    · have t100 : decide ((100 : Int) < (ps.length : Int)) = false := by simp; omega
      have hL2 := hL.later hB2
      have hp2 := hL2.pos
      go_wp2_with fail
      refine (stNew_any w2).mono ?_
      rintro e w3 ⟨S, rfl, h3, hb3⟩
      go_wp2_with fail
      refine (stNew_any w3).mono ?_
      rintro e w4 ⟨T, rfl, h4, hb4⟩
      have hz3 := hb3.size
      have hz4 := hb4.size
      have h0 : TwoQ w2.heap.size w4 S T [] 0 0 :=
        ⟨fun b => w2.heap.size ≤ b ∧ b < w3.heap.size, fun b => w3.heap.size ≤ b ∧ b < w4.heap.size, (h3.mono fun b hb hp => ⟨hp, hb⟩).later hb4, h4.mono fun b hb hp => ⟨hp, hb⟩, fun b hp hq => by omega, fun b hp => ⟨hp.1, by omega⟩, fun b hq => ⟨by omega, hq.2⟩⟩
      have hb04 : Below w2.heap.size w2 w4 := hb3.trans (hb4.mono hz3)
      clear h3 h4 hb3 hb4
      obtain ⟨a, cap, rfl, hs⟩ := hl2
      go_wp2_with fail
      go_loopg [7] l.length (fun g i wr => ∃ (j : Nat) (x : List (List (List Op5))) (k m : Nat), j ≤ l.length ∧ g = l.length - j ∧ i = .int .i64 (j : Int) ∧ TwoQ w2.heap.size wr S T x k m ∧ Below w2.heap.size w2 wr)
      case atStart => exact ⟨0, _, _, _, by omega, by omega, rfl, h0, hb04⟩
      case round =>
        obtain ⟨j, x, k, m, hj, hg, rfl, hTwo, hB⟩ := hrel
        clear h0 hb04
        have hz := hB.size
        by_cases hlt : j < l.length
        · have hlti : (j : Int) < (l.length : Int) := by omega
          obtain ⟨b, off, rfl, q0, ⟨rv, q1, hRd⟩, ⟨pv, q2, hNu⟩, q3⟩ := hs j hlt
          have HS : Hid (∀ i (h : i < l.length), ∃ b' off', some (⟨b, off, none⟩ : Addr) = some ⟨b', off', none⟩ ∧ w2.cell? ⟨b', off' + i * 4, none⟩ = some (.int .i64 l[i].k) ∧ (∃ rv, w2.cell? ⟨b', off' + i * 4 + 1, none⟩ = some rv ∧ RoundAt w2 rv l[i].r) ∧ (∃ pv, w2.cell? ⟨b', off' + i * 4 + 2, none⟩ = some pv ∧ NumsAt w2 pv l[i].p) ∧ w2.cell? ⟨b', off' + i * 4 + 3, none⟩ = some (.int .i64 l[i].keep)) := hs
          clear hs
          have hb2lt : b < w2.heap.size := World.block_lt_of_cell? w2 _ q0
          replace q0 := cell_later hB q0
          replace q1 := cell_later hB q1
          replace q2 := cell_later hB q2
          replace q3 := cell_later hB q3
          have hblt : b < wr.heap.size := by omega
          obtain ⟨fr, nr, hpl⟩ := hf.2 j hlt
          generalize l[j] = y at *
          obtain ⟨yk, yr, yp, ykeep⟩ := y
          dsimp only at *
          obtain ⟨ra, rcap, rfl, -⟩ := id hRd
          obtain ⟨pa, pcap, rfl, -⟩ := id hNu
          have hb5 : Below wr.heap.size wr (wr.alloc (.cells #[.int .i64 yk, .slice ra yr.length rcap, .slice pa yp.length pcap, .int .i64 ykeep] 78)) := (Below.refl _ _).alloc (Nat.le_refl _) _
          go_upto_region 10 with fail
          go_cut [38] (fun c wc => c = .bool (decide (yk = 3 ∧ yp.length ≤ 300)) ∧ wc = wr.alloc (.cells #[.int .i64 yk, .slice ra yr.length rcap, .slice pa yp.length pcap, .int .i64 ykeep] 78))
          case first =>
            by_cases hk3 : yk = 3
            · subst hk3
              by_cases h300 : (yp.length : Int) ≤ 300
              · go_wp2_with fail
                go_meet
                exact ⟨by simp; omega, rfl⟩
              · have h300d : decide ((yp.length : Int) ≤ 300) = false := by simp; omega
                go_wp2_with fail
                go_meet
                exact ⟨by simp; omega, rfl⟩
            · have t3 : (yk == 3) = false := by simp [hk3]
              go_wp2_with fail
              go_meet
              exact ⟨by simp [hk3], rfl⟩
          case rest =>
          obtain ⟨rfl, rfl⟩ := hcut
          go_upto_if 38 with fail
          go_cut [8] (fun c wc => c = .pointer (some ⟨wr.heap.size, 0, none⟩) ∧ ∃ (pa' : Option Addr) (p' : List Int) (pcap' : Nat), HeldQ b (off + j * 4) wr.heap.size (.int .i64 yk) (.slice ra yr.length rcap) (.slice pa yp.length pcap) (.slice pa' p'.length pcap') (.int .i64 ykeep) wc ∧ NumsAt w2 (.slice pa' p'.length pcap') p' ∧ Below wr.heap.size wr wc ∧ (yk = 3 → (300 < yp.length ↔ 300 < p'.length)))
          case first =>
            have HN := fun pv' t => held_new q0 q1 q2 q3 pv' t
            have HNn : Hid (∀ pv' t, HeldQ b (off + j * 4) wr.heap.size (.int .i64 yk) (.slice ra yr.length rcap) (.slice pa yp.length pcap) pv' (.int .i64 ykeep) (wr.alloc (.cells #[.int .i64 yk, .slice ra yr.length rcap, pv', .int .i64 ykeep] t))) := HN
            clear HN hTwo hRd
            by_cases hcd : yk = 3 ∧ yp.length ≤ 300
            · obtain ⟨hk3, h300⟩ := hcd
              subst hk3
              have tcd : decide ((3 : Int) = 3 ∧ yp.length ≤ 300) = true := by simp; omega
              rw [tcd]
              by_cases hjp : j < ps.length
              · have hjpi : (j : Int) < (ps.length : Int) := by omega
                obtain ⟨ua', ucap', e', hh⟩ := id hps2
                cases e'
                obtain ⟨b', off', rfl, pv2, d0, hN2, hl2⟩ := hh j hjp
                obtain ⟨pa2, pcap2, rfl, -⟩ := id hN2
                have hb'lt : b' < wr.heap.size := Nat.lt_of_lt_of_le (World.block_lt_of_cell? w2 _ d0) hz
                replace d0 := cell_later hB d0
                clear hh
                by_cases hp300 : (ps[j].length : Int) ≤ 300
                · clear hNu tcd
                  go_wp2_with fail
                  go_meet
                  exact ⟨rfl, pa2, ps[j], pcap2, HNn.out _ _, hN2, (Below.refl _ _).alloc (Nat.le_refl _) _, fun _ => by omega⟩
                · have hp300d : decide ((ps[j].length : Int) ≤ 300) = false := by simp; omega
                  clear hNu hN2 tcd
                  go_wp2_with fail
                  go_meet
                  exact ⟨rfl, none, [], 0, HNn.out _ _, nums_none _, (Below.refl _ _).alloc (Nat.le_refl _) _, fun _ => by simp; omega⟩
              · have hjpi : ¬ (j : Int) < (ps.length : Int) := by omega
                have hjpd : decide ((j : Int) < (ps.length : Int)) = false := by simp; omega
                clear hNu tcd
                go_wp2_with fail
                go_meet
                exact ⟨rfl, none, [], 0, HNn.out _ _, nums_none _, (Below.refl _ _).alloc (Nat.le_refl _) _, fun _ => by simp; omega⟩
            · have HNu : Hid (NumsAt w2 (.slice pa yp.length pcap) yp) := hNu
              rw [decide_eq_false hcd]
              clear hNu
              go_wp2_with fail
              go_meet
              exact ⟨rfl, pa, yp, pcap, HNn.out _ _, HNu.out, (Below.refl _ _).alloc (Nat.le_refl _) _, fun _ => Iff.rfl⟩
          case rest =>
            obtain ⟨rfl, pa', p', pcap', hHe, hNu', hBX, hpp⟩ := hcut
            obtain ⟨W, eW⟩ : ∃ W, W = wc := ⟨_, rfl⟩
            subst eW
            obtain ⟨X, eX⟩ : ∃ X, X = wr.heap.size := ⟨_, rfl⟩
            rw [← eX] at hHe
            obtain ⟨P, Q, hS, hT, hd, hP, hQ⟩ := hTwo
            have hPX : ¬ P X := fun h => by have := (hP _ h).2; omega
            have hQX : ¬ Q X := fun h => by have := (hQ _ h).2; omega
            have hPb : ¬ P b := fun h => by have := (hP _ h).1; omega
            have hQb : ¬ Q b := fun h => by have := (hQ _ h).1; omega
            have hBW : Below w2.heap.size w2 W.drew := (hB.trans (hBX.mono hz)).drew
            have hzX : wr.heap.size ≤ W.drew.heap.size := hBX.size
            have hzW : w2.heap.size ≤ W.drew.heap.size := hBW.size
            have hSW : StAt P W.drew S x k m := hS.later hBX.drew
            have hTW : StAt Q W.drew T x k m := hT.later hBX.drew
            have HELD0 : HeldQ b (off + j * 4) X (.int .i64 yk) (.slice ra yr.length rcap) (.slice pa yp.length pcap) (.slice pa' p'.length pcap') (.int .i64 ykeep) W.drew := hHe.later (Below.refl _ _).drew
            have hEQ : stepQ x k m ⟨yk, yr, p', ykeep⟩ = stepQ x k m ⟨yk, yr, yp, ykeep⟩ := stepQ_picks rfl rfl rfl (fun h => (hpp h).symm)
            have hdoS := stDo_any (x := ⟨yk, yr, yp, ykeep⟩) hSW (hRd.later hBW) fr nr (hNu.later hBW) (hL2.later hBW) (fun h0 => by have := (hP _ h0).1; omega)
            have hdT := fun (w5 : World) (hG : Grew P W.drew w5) => by
              have hB5 : Below w2.heap.size w2 w5 := hG.below hBW hzW fun b hb => (hP b hb).1
              exact stDo_any (x := ⟨yk, yr, p', ykeep⟩) (hTW.grew hG fun b hq hp => hd b hp hq) (hRd.later hB5) fr nr (hNu'.later hB5) (hL2.later hB5) (fun h0 => by have := (hQ _ h0).1; omega)
            rw [hEQ] at hdT
            obtain ⟨z, ez⟩ : ∃ z, z = stepQ x k m ⟨yk, yr, yp, ykeep⟩ := ⟨_, rfl⟩
            rw [← ez] at hdoS hdT
            dsimp only at hdoS hdT
            have HDT : Hid (∀ w5, Grew P W.drew w5 → Calls Tryd.prog 36 #[.pointer (some ⟨T, 0, none⟩), .agg #[.int .i64 yk, .slice ra yr.length rcap, .slice pa' p'.length pcap', .int .i64 ykeep]] w5 fun e w' => e = .returned (.int .i64 z.c) ∧ StAt (fun b => Q b ∨ w5.heap.size ≤ b) w' T z.l z.k z.m ∧ Grew Q w5 w') := hdT
            have HELD : Hid (∀ w5, Grew P W.drew w5 → HeldQ b (off + j * 4) X (.int .i64 yk) (.slice ra yr.length rcap) (.slice pa yp.length pcap) (.slice pa' p'.length pcap') (.int .i64 ykeep) w5) := fun w5 hG => HELD0.grew hG hPb hPX
            have HELT : Hid (∀ w5 w8, Grew P W.drew w5 → Grew Q w5 w8 → HeldQ b (off + j * 4) X (.int .i64 yk) (.slice ra yr.length rcap) (.slice pa yp.length pcap) (.slice pa' p'.length pcap') (.int .i64 ykeep) w8) := fun w5 w8 hG hG' => (HELD.out w5 hG).grew hG' hQb hQX
            have HTW : Hid (∀ w5 w8, StAt (fun b => P b ∨ W.drew.heap.size ≤ b) w5 S z.l z.k z.m → Grew P W.drew w5 → StAt (fun b => Q b ∨ w5.heap.size ≤ b) w8 T z.l z.k z.m → Grew Q w5 w8 → TwoQ w2.heap.size w8 S T z.l z.k z.m ∧ Below w2.heap.size w2 w8) := fun w5 w8 h1 hG h2 hG' =>
              ⟨twoQ_next h1 h2 hG' hd (fun b hb => ⟨(hP b hb).1, by have := (hP b hb).2; omega⟩) (fun b hb => ⟨(hQ b hb).1, by have := (hQ b hb).2; omega⟩) hzW hG.size, hG'.below (hG.below hBW hzW fun b hb => (hP b hb).1) (by have := hG.size; omega) fun b hb => (hQ b hb).1⟩
            obtain ⟨s, es⟩ : ∃ s, s = stN z.l z.m := ⟨_, rfl⟩
            have HST1 : Hid (∀ w', TwoQ w2.heap.size w' S T z.l z.k z.m → Calls Tryd.prog 39 #[.pointer (some ⟨S, 0, none⟩)] w' fun e w'' => e = .returned (.agg #[.int .i64 (s 0), .int .i64 (s 1), .int .i64 (s 2), .int .i64 (s 3), .int .i64 (s 4), .int .i64 (s 5), .int .i64 (s 6), .int .i64 (s 7), .int .i64 (s 8), .int .i64 (s 9)]) ∧ Below w'.heap.size w' w'') := fun w' h => by
              obtain ⟨P', h'⟩ := h.one
              rw [es]; exact stState_any h'
            have HST2 : Hid (∀ w', TwoQ w2.heap.size w' S T z.l z.k z.m → Calls Tryd.prog 39 #[.pointer (some ⟨T, 0, none⟩)] w' fun e w'' => e = .returned (.agg #[.int .i64 (s 0), .int .i64 (s 1), .int .i64 (s 2), .int .i64 (s 3), .int .i64 (s 4), .int .i64 (s 5), .int .i64 (s 6), .int .i64 (s 7), .int .i64 (s 8), .int .i64 (s 9)]) ∧ Below w'.heap.size w' w'') := fun w' h => by
              obtain ⟨P', h'⟩ := h.two
              rw [es]; exact stState_any h'
            have HLA1 : Hid (∀ w', TwoQ w2.heap.size w' S T z.l z.k z.m → Calls Tryd.prog 41 #[.pointer (some ⟨S, 0, none⟩)] w' fun e w'' => (∃ u, e = .returned u ∧ ResIn (fun b => w'.heap.size ≤ b) w'' u (lastR z.l z.m).length (lastC z.l z.m) (lastG z.l z.m)) ∧ Below w'.heap.size w' w'') := fun w' h => by
              obtain ⟨P', h'⟩ := h.one
              exact stLast_any h'
            have HLA2 : Hid (∀ w', TwoQ w2.heap.size w' S T z.l z.k z.m → Calls Tryd.prog 41 #[.pointer (some ⟨T, 0, none⟩)] w' fun e w'' => (∃ u, e = .returned u ∧ ResIn (fun b => w'.heap.size ≤ b) w'' u (lastR z.l z.m).length (lastC z.l z.m) (lastG z.l z.m)) ∧ Below w'.heap.size w' w'') := fun w' h => by
              obtain ⟨P', h'⟩ := h.two
              exact stLast_any h'
            have HSR : Hid (∀ (P1 P2 : Nat → Prop) w' u1 u2, TwoQ w2.heap.size w' S T z.l z.k z.m → ResIn P1 w' u1 (lastR z.l z.m).length (lastC z.l z.m) (lastG z.l z.m) → ResIn P2 w' u2 (lastR z.l z.m).length (lastC z.l z.m) (lastG z.l z.m) → Calls Tryd.prog 40 #[u1, u2] w' fun e w'' => e = .returned (.bool true) ∧ Below w'.heap.size w' w'') := fun P1 P2 w' u1 u2 h h1 h2 => by
              obtain ⟨P', h'⟩ := h.one
              exact sameResIn_any h1 h2 (lastR_len h'.ok.good _)
            have hee := eq38 s
            clear es ez hS hT hSW hTW hdT hEQ hRd hNu hNu' hHe hd hP hQ hPX hQX hPb hQb hpp hBX q0 q1 q2 q3
            rw [← eX]
            clear eX
            go_wp2_with fail
            refine wp_region_till (S := HeldQ b (off + j * 4) X (.int .i64 yk) (.slice ra yr.length rcap) (.slice pa yp.length pcap) (.slice pa' p'.length pcap') (.int .i64 ykeep)) (fun _ => false) (by kernel_rfl) (HELD0) (fun hS => ?_)
            refine anyT_take 0 [] (.pointer (some ⟨S, 0, none⟩)) rfl (by kernel_rfl) (by kernel_rfl) (by kernel_rfl) (by kernel_rfl) (by kernel_rfl) (fun _ _ _ h => h) (Or.inl ⟨by kernel_rfl, ?_⟩) hS ?_
            · intro w' _
              go_simp
            refine anyT_take 1 [] (.slice (some ⟨b, off, none⟩) l.length cap) rfl (by kernel_rfl) (by kernel_rfl) (by kernel_rfl) (by kernel_rfl) (by kernel_rfl) (fun _ _ _ h => h) (Or.inl ⟨by kernel_rfl, ?_⟩) hS ?_
            · intro w' _
              go_simp
            refine anyT_take 2 [] (.int .i64 (j : Int)) rfl (by kernel_rfl) (by kernel_rfl) (by kernel_rfl) (by kernel_rfl) (by kernel_rfl) (fun _ _ _ h => h) (Or.inl ⟨by kernel_rfl, ?_⟩) hS ?_
            · intro w' _
              go_simp
            refine anyT_take 3 [] (.pointer (some ⟨b, off + j * 4, none⟩)) rfl (by kernel_rfl) (by kernel_rfl) (by kernel_rfl) (by kernel_rfl) (by kernel_rfl) (fun _ _ _ h => h) (Or.inl ⟨by kernel_rfl, ?_⟩) hS ?_
            · intro w' _
              go_simp
            refine anyT_take 4 [] (.agg #[.int .i64 yk, .slice ra yr.length rcap, .slice pa yp.length pcap, .int .i64 ykeep]) rfl (by kernel_rfl) (by kernel_rfl) (by kernel_rfl) (by kernel_rfl) (by kernel_rfl) (fun _ _ _ h => h) (Or.inl ⟨by kernel_rfl, ?_⟩) hS ?_
            · intro w' hb'
              obtain ⟨⟨f0, f1, f2, f3⟩, f4, f5, f6, f7⟩ := hb'
              go_simp
            refine anyT_take 6 [] (.pointer (some ⟨T, 0, none⟩)) rfl (by kernel_rfl) (by kernel_rfl) (by kernel_rfl) (by kernel_rfl) (by kernel_rfl) (fun _ _ _ h => h) (Or.inl ⟨by kernel_rfl, ?_⟩) hS ?_
            · intro w' _
              go_simp
            refine anyT_take 7 [] (.agg #[.int .i64 yk, .slice ra yr.length rcap, .slice pa' p'.length pcap', .int .i64 ykeep]) rfl (by kernel_rfl) (by kernel_rfl) (by kernel_rfl) (by kernel_rfl) (by kernel_rfl) (fun _ _ _ h => h) (Or.inl ⟨by kernel_rfl, ?_⟩) hS ?_
            · intro w' hb'
              obtain ⟨⟨f0, f1, f2, f3⟩, f4, f5, f6, f7⟩ := hb'
              go_simp
            refine anyT_ready [5] (by kernel_rfl) (by simp) ?_
            refine EachT.cons rfl (fun K hK => ?_) EachT.nil
            simp only [List.getElem_toArray, List.getElem_cons_zero, List.getElem_cons_succ]
            go_simp
            refine (hdoS).mono ?_
            rintro e w5 ⟨rfl, hS5, hG5⟩
            have hs5 : HeldQ b (off + j * 4) X (.int .i64 yk) (.slice ra yr.length rcap) (.slice pa yp.length pcap) (.slice pa' p'.length pcap') (.int .i64 ykeep) w5 := HELD.out _ hG5
            have hdoT := HDT.out w5 hG5
            (try go_wp2_with fail)
            refine hK.out _ _ (fun _ => hs5) ?_
            clear hK K
            refine anyT_ready [8] (by kernel_rfl) (by simp) ?_
            refine EachT.cons rfl (fun K hK => ?_) EachT.nil
            simp only [List.getElem_toArray, List.getElem_cons_zero, List.getElem_cons_succ]
            go_simp
            refine (hdoT).mono ?_
            rintro e w8 ⟨rfl, hT8, hG8⟩
            have hs8 : HeldQ b (off + j * 4) X (.int .i64 yk) (.slice ra yr.length rcap) (.slice pa yp.length pcap) (.slice pa' p'.length pcap') (.int .i64 ykeep) w8 := HELT.out _ _ hG5 hG8
            obtain ⟨hTw, hB8⟩ := HTW.out _ _ hS5 hG5 hT8 hG8
            have hst1 := HST1.out _ hTw
            clear hdoT
            (try go_wp2_with fail)
            refine hK.out _ _ (fun _ => hs8) ?_
            clear hK K
            refine anyT_take 9 [] (.bool false) rfl (by kernel_rfl) (by kernel_rfl) (by kernel_rfl) (by kernel_rfl) (by kernel_rfl) (fun _ _ _ h => h) (Or.inl ⟨by kernel_rfl, ?_⟩) hs8 ?_
            · intro w' _
              go_simp
            refine anyT_take 10 [] (.bool false) rfl (by kernel_rfl) (by kernel_rfl) (by kernel_rfl) (by kernel_rfl) (by kernel_rfl) (fun _ _ _ h => h) (Or.inl ⟨by kernel_rfl, ?_⟩) hs8 ?_
            · intro w' _
              go_simp
            refine anyT_take 11 [] (.pointer (some ⟨S, 0, none⟩)) rfl (by kernel_rfl) (by kernel_rfl) (by kernel_rfl) (by kernel_rfl) (by kernel_rfl) (fun _ _ _ h => h) (Or.inl ⟨by kernel_rfl, ?_⟩) hs8 ?_
            · intro w' _
              go_simp
            refine anyT_take 13 [] (.pointer (some ⟨T, 0, none⟩)) rfl (by kernel_rfl) (by kernel_rfl) (by kernel_rfl) (by kernel_rfl) (by kernel_rfl) (fun _ _ _ h => h) (Or.inl ⟨by kernel_rfl, ?_⟩) hs8 ?_
            · intro w' _
              go_simp
            refine anyT_ready [12] (by kernel_rfl) (by simp) ?_
            refine EachT.cons rfl (fun K hK => ?_) EachT.nil
            simp only [List.getElem_toArray, List.getElem_cons_zero, List.getElem_cons_succ]
            go_simp
            refine (hst1).mono ?_
            rintro e w9 ⟨rfl, hb9⟩
            have hs9 : HeldQ b (off + j * 4) X (.int .i64 yk) (.slice ra yr.length rcap) (.slice pa yp.length pcap) (.slice pa' p'.length pcap') (.int .i64 ykeep) w9 := hs8.later hb9
            have hst2 := HST2.out _ (hTw.later hb9)
            (try go_wp2_with fail)
            refine hK.out _ _ (fun _ => hs9) ?_
            clear hK K
            refine anyT_ready [14] (by kernel_rfl) (by simp) ?_
            refine EachT.cons rfl (fun K hK => ?_) EachT.nil
            simp only [List.getElem_toArray, List.getElem_cons_zero, List.getElem_cons_succ]
            go_simp
            refine (hst2).mono ?_
            rintro e w10 ⟨rfl, hb10⟩
            have hs10 : HeldQ b (off + j * 4) X (.int .i64 yk) (.slice ra yr.length rcap) (.slice pa yp.length pcap) (.slice pa' p'.length pcap') (.int .i64 ykeep) w10 := hs9.later hb10
            have hTw10 := (hTw.later hb9).later hb10
            have hla1 := HLA1.out _ hTw10
            have hB10 := hB8.trans ((hb9.trans (hb10.mono hb9.size)).mono hB8.size)
            (try go_wp2_with fail)
            refine hK.out _ _ (fun _ => hs10) ?_
            clear hK K
            refine anyT_take 15 [] (.bool false) rfl (by kernel_rfl) (by kernel_rfl) (by kernel_rfl) (by kernel_rfl) (by kernel_rfl) (fun _ _ _ h => h) (Or.inl ⟨by kernel_rfl, ?_⟩) hs10 ?_
            · intro w' _
              go_simp
            refine anyT_take 16 [] (.bool false) rfl (by kernel_rfl) (by kernel_rfl) (by kernel_rfl) (by kernel_rfl) (by kernel_rfl) (fun _ _ _ h => h) (Or.inl ⟨by kernel_rfl, ?_⟩) hs10 ?_
            · intro w' _
              go_simp
            refine anyT_take 17 [] (.bool false) rfl (by kernel_rfl) (by kernel_rfl) (by kernel_rfl) (by kernel_rfl) (by kernel_rfl) (fun _ _ _ h => h) (Or.inl ⟨by kernel_rfl, ?_⟩) hs10 ?_
            · intro w' _
              go_simp
            refine anyT_take 18 [] (.pointer (some ⟨S, 0, none⟩)) rfl (by kernel_rfl) (by kernel_rfl) (by kernel_rfl) (by kernel_rfl) (by kernel_rfl) (fun _ _ _ h => h) (Or.inl ⟨by kernel_rfl, ?_⟩) hs10 ?_
            · intro w' _
              go_simp
            refine anyT_take 20 [] (.pointer (some ⟨T, 0, none⟩)) rfl (by kernel_rfl) (by kernel_rfl) (by kernel_rfl) (by kernel_rfl) (by kernel_rfl) (fun _ _ _ h => h) (Or.inl ⟨by kernel_rfl, ?_⟩) hs10 ?_
            · intro w' _
              go_simp
            refine anyT_ready [19] (by kernel_rfl) (by simp) ?_
            refine EachT.cons rfl (fun K hK => ?_) EachT.nil
            simp only [List.getElem_toArray, List.getElem_cons_zero, List.getElem_cons_succ]
            go_simp
            refine (hla1).mono ?_
            rintro e w11 ⟨⟨u1, rfl, hU1⟩, hb11⟩
            have hs11 : HeldQ b (off + j * 4) X (.int .i64 yk) (.slice ra yr.length rcap) (.slice pa yp.length pcap) (.slice pa' p'.length pcap') (.int .i64 ykeep) w11 := hs10.later hb11
            have hla2 := HLA2.out _ (hTw10.later hb11)
            (try go_wp2_with fail)
            refine hK.out _ _ (fun _ => hs11) ?_
            clear hK K
            refine anyT_ready [21] (by kernel_rfl) (by simp) ?_
            refine EachT.cons rfl (fun K hK => ?_) EachT.nil
            simp only [List.getElem_toArray, List.getElem_cons_zero, List.getElem_cons_succ]
            go_simp
            refine (hla2).mono ?_
            rintro e w12 ⟨⟨u2, rfl, hU2⟩, hb12⟩
            have hs12 : HeldQ b (off + j * 4) X (.int .i64 yk) (.slice ra yr.length rcap) (.slice pa yp.length pcap) (.slice pa' p'.length pcap') (.int .i64 ykeep) w12 := hs11.later hb12
            have hTw12 := (hTw10.later hb11).later hb12
            have hsr := HSR.out _ _ _ _ _ hTw12 (hU1.later hb12) hU2
            have hB12 := hB10.trans ((hb11.trans (hb12.mono hb11.size)).mono hB10.size)
            (try go_wp2_with fail)
            refine hK.out _ _ (fun _ => hs12) ?_
            clear hK K
            refine anyT_ready [22] (by kernel_rfl) (by simp) ?_
            refine EachT.cons rfl (fun K hK => ?_) EachT.nil
            simp only [List.getElem_toArray, List.getElem_cons_zero, List.getElem_cons_succ]
            go_simp
            refine (hsr).mono ?_
            rintro e w13 ⟨rfl, hb13⟩
            have hs13 : HeldQ b (off + j * 4) X (.int .i64 yk) (.slice ra yr.length rcap) (.slice pa yp.length pcap) (.slice pa' p'.length pcap') (.int .i64 ykeep) w13 := hs12.later hb13
            (try go_wp2_with fail)
            refine hK.out _ _ (fun _ => hs13) ?_
            clear hK K
            refine anyT_take 23 [] (.bool false) rfl (by kernel_rfl) (by kernel_rfl) (by kernel_rfl) (by kernel_rfl) (by kernel_rfl) (fun _ _ _ h => h) (Or.inl ⟨by kernel_rfl, ?_⟩) hs13 ?_
            · intro w' _
              go_simp
            refine anyT_take 24 [] (.bool false) rfl (by kernel_rfl) (by kernel_rfl) (by kernel_rfl) (by kernel_rfl) (by kernel_rfl) (fun _ _ _ h => h) (Or.inl ⟨by kernel_rfl, ?_⟩) hs13 ?_
            · intro w' _
              go_simp
            refine anyT_done (by kernel_rfl) ?_
            go_wp2_with fail
            go_roundg (l.length - (j + 1))
            case measure => omega
            case rel => exact ⟨j + 1, _, _, _, by omega, rfl, by go_num, hTw12.later hb13, hB12.trans (hb13.mono hB12.size)⟩
        · obtain rfl : j = l.length := by omega
          clear hs
          have hBw : Below w.heap.size w wr := hB2.trans (hB.mono hB2.size)
          clear hTwo
          go_wp2_with fail
          go_ret
          exact ⟨rfl, hBw⟩
end Go.Proofs.YtihfjmdjjeciiacDoor
