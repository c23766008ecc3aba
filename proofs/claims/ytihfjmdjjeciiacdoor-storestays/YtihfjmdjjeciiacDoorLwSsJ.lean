/-
  The walk of the law StoreStays.
-/
import Derived.Test.YtihfjmdjjeciiacDoorBegQJ
import Derived.Test.YtihfjmdjjeciiacDoorGrtQJ
import Derived.Test.YtihfjmdjjeciiacDoorWasQJ
import Derived.Test.YtihfjmdjjeciiacDoorJqSa
namespace Go.Proofs.YtihfjmdjjeciiacDoor
open Go.RowKit Go.Shelf

theorem below_of_sameS {f : FuncId} {args : Array Value} {w : World} {p : Ending → Prop} (h : Calls Tryd.prog f args w fun e w' => p e ∧ w' = w) : Calls Tryd.prog f args w fun e w' => p e ∧ Below w.heap.size w w' := h.mono fun _ w' ⟨h1, h2⟩ => ⟨h1, by rw [h2]; exact Below.refl _ _⟩

/-- What the inner loop goes on with: the store, the copies, the state behind the first n rounds in the block A. -/
structure InQ (N : Nat) (w0 : World) (P : Nat → Prop) (w : World) (S A : Nat) (v : Value) (x : List (List (List Op5))) (k m c n : Nat) : Prop where
  st : StAt P w S x k m
  was : ∃ Q, WasAt Q w v c x ∧ ∀ b, Q b → N ≤ b ∧ b < w.heap.size ∧ b ≠ A ∧ ¬ P b
  box : Box w A (stN x n)
  fr : ∀ o, w.frozen? ⟨A, o, none⟩ = false
  bel : Below N w0 w
section
variable {N : Nat} {w0 w w' : World} {P : Nat → Prop} {S A : Nat} {v : Value} {x : List (List (List Op5))} {k m c n : Nat}
theorem InQ.later (h : InQ N w0 P w S A v x k m c n) (hN : N ≤ w.heap.size) (hb : Below w.heap.size w w') : InQ N w0 P w' S A v x k m c n := by
  obtain ⟨Q, h1, h2⟩ := h.was
  have := hb.size
  exact ⟨h.st.later hb, ⟨Q, h1.later hb, fun b hq => by have := h2 b hq; exact ⟨this.1, by omega, this.2.2⟩⟩, h.box.later hb, fun o => by rw [hb.frozen (p := ⟨A, o, none⟩) (box_lt h.box)]; exact h.fr o, h.bel.trans (hb.mono hN)⟩
/-- The state is laid anew. -/
theorem InQ.next (h : InQ N w0 P w S A v x k m c n) (hP : ¬ P A) (hA : N ≤ A) (n' : Nat) : InQ N w0 P ((((((((((w.setCell ⟨A, 0, none⟩ (.int .i64 (stN x n' 0))).setCell ⟨A, 1, none⟩ (.int .i64 (stN x n' 1))).setCell ⟨A, 2, none⟩ (.int .i64 (stN x n' 2))).setCell ⟨A, 3, none⟩ (.int .i64 (stN x n' 3))).setCell ⟨A, 4, none⟩ (.int .i64 (stN x n' 4))).setCell ⟨A, 5, none⟩ (.int .i64 (stN x n' 5))).setCell ⟨A, 6, none⟩ (.int .i64 (stN x n' 6))).setCell ⟨A, 7, none⟩ (.int .i64 (stN x n' 7))).setCell ⟨A, 8, none⟩ (.int .i64 (stN x n' 8))).setCell ⟨A, 9, none⟩ (.int .i64 (stN x n' 9))) S A v x k m c n' := by
  obtain ⟨W, eW⟩ : ∃ W, W = ((((((((((w.setCell ⟨A, 0, none⟩ (.int .i64 (stN x n' 0))).setCell ⟨A, 1, none⟩ (.int .i64 (stN x n' 1))).setCell ⟨A, 2, none⟩ (.int .i64 (stN x n' 2))).setCell ⟨A, 3, none⟩ (.int .i64 (stN x n' 3))).setCell ⟨A, 4, none⟩ (.int .i64 (stN x n' 4))).setCell ⟨A, 5, none⟩ (.int .i64 (stN x n' 5))).setCell ⟨A, 6, none⟩ (.int .i64 (stN x n' 6))).setCell ⟨A, 7, none⟩ (.int .i64 (stN x n' 7))).setCell ⟨A, 8, none⟩ (.int .i64 (stN x n' 8))).setCell ⟨A, 9, none⟩ (.int .i64 (stN x n' 9))) := ⟨_, rfl⟩
  have hG : Grew (fun b => b = A) w W := by
    rw [eW]
    exact (((((((((grew_cellC w A 0 _).trans (grew_cellC _ A 1 _)).trans (grew_cellC _ A 2 _)).trans (grew_cellC _ A 3 _)).trans (grew_cellC _ A 4 _)).trans (grew_cellC _ A 5 _)).trans (grew_cellC _ A 6 _)).trans (grew_cellC _ A 7 _)).trans (grew_cellC _ A 8 _)).trans (grew_cellC _ A 9 _)
  have hx : Box W A (stN x n') := by rw [eW]; exact box_ten h.box _
  have hf : ∀ o, W.frozen? ⟨A, o, none⟩ = false := fun o => by rw [eW]; simp only [World.frozen?_setCell]; exact h.fr o
  have hb : Below N w0 W := by rw [eW]; exact below_ten h.bel hA _ _ _ _ _ _ _ _ _ _
  rw [← eW]
  clear eW
  obtain ⟨Q, h1, h2⟩ := h.was
  have := hG.size
  exact ⟨h.st.grew hG fun b hp e => hP (by rw [← e]; exact hp), ⟨Q, h1.grew hG fun b hq e => (h2 b hq).2.2.1 e, fun b hq => by have := h2 b hq; exact ⟨this.1, by omega, this.2.2⟩⟩, hx, hf, hb⟩
end

set_option maxRecDepth 100000 in
set_option maxHeartbeats 4000000 in
theorem storeStaysLaw_any {v : Value} {l : List QStep} {w : World} (hl : StepsQ w v l) (hf : FitsQ l) (hL : Lim w) :
    Calls Tryd.prog 9 #[v] w fun e w' => e = .returned (.bool true) ∧ Below w.heap.size w w' := by
  have hm := hf.1
  go_enter Tryd.func9, Tryd.ntmps9
  go_wp2_with fail
  refine (begunQ_any w hL).mono ?_
  rintro e w1 ⟨rfl, hB1⟩
  have hl1 := hl.later hB1
  go_wp2_with fail
  refine (greatQ_any hl1 hf).mono ?_
  rintro e w2 ⟨⟨g, rfl⟩, hb2⟩
  have hB2 : Below w.heap.size w w2 := hB1.trans (hb2.mono hB1.size)
  have hl2 := hl1.later hb2
  clear hl1 hb2
  cases g with
  | true =>
    go_wp2_with fail
    go_ret
    exact ⟨rfl, hB2⟩
  | false =>
    have hL2 := hL.later hB2
    have hp2 := hL2.pos
    go_wp2_with fail
    refine (stNew_any w2).mono ?_
    rintro e w3 ⟨S, rfl, h3, hb3⟩
    obtain ⟨a, cap, rfl, hs⟩ := hl2
    go_wp2_with fail
    go_loopg [4, 5] l.length (fun g v i wr => ∃ (j : Nat) (x : List (List (List Op5))) (k m : Nat) (P Q : Nat → Prop), j ≤ l.length ∧ g = l.length - j ∧ i = .int .i64 (j : Int) ∧ StAt P wr S x k m ∧ WasAt Q wr v m x ∧ (∀ b, P b → w2.heap.size ≤ b ∧ b < wr.heap.size) ∧ (∀ b, Q b → w2.heap.size ≤ b ∧ b < wr.heap.size ∧ ¬ P b) ∧ Below w2.heap.size w2 wr)
    case atStart => exact ⟨0, _, _, _, fun b => w2.heap.size ≤ b ∧ b < w3.heap.size, fun _ => False, by omega, by omega, rfl, h3.mono fun b hb hp => ⟨hp, hb⟩, wasAt_nil _ _, fun b hp => hp, fun b hq => hq.elim, hb3⟩
    case round =>
      obtain ⟨j, x0, k0, m0, P0, Q0, hj, hg, rfl, hSt, hWas, hP0, hQ0, hB⟩ := hrel
      clear h3 hb3
      have hz := hB.size
      obtain ⟨va, vcap, rfl⟩ := hWas.slice
      by_cases hlt : j < l.length
      · have hlti : (j : Int) < (l.length : Int) := by omega
        obtain ⟨b, off, rfl, q0, ⟨rv, q1, hRd⟩, ⟨pv, q2, hNu⟩, q3⟩ := hs j hlt
        have HS : Hid (∀ i (h : i < l.length), ∃ b' off', some (⟨b, off, none⟩ : Addr) = some ⟨b', off', none⟩ ∧ w2.cell? ⟨b', off' + i * 4, none⟩ = some (.int .i64 l[i].k) ∧ (∃ rv, w2.cell? ⟨b', off' + i * 4 + 1, none⟩ = some rv ∧ RoundAt w2 rv l[i].r) ∧ (∃ pv, w2.cell? ⟨b', off' + i * 4 + 2, none⟩ = some pv ∧ NumsAt w2 pv l[i].p) ∧ w2.cell? ⟨b', off' + i * 4 + 3, none⟩ = some (.int .i64 l[i].keep)) := hs
        clear hs
        replace q0 := cell_later hB q0
        replace q1 := cell_later hB q1
        replace q2 := cell_later hB q2
        replace q3 := cell_later hB q3
        have ho0 := hSt.ok
        have hle0 := hSt.le
        have hdo := stDo_any (x := l[j]) hSt (hRd.later hB) (hf.2 j hlt).1 (hf.2 j hlt).2.1 (hNu.later hB) (hL2.later hB) (fun h0 => by have := (hP0 _ h0).1; omega)
        obtain ⟨ra, rcap, rfl, -⟩ := hRd
        obtain ⟨pa, pcap, rfl, -⟩ := hNu
        have hal := stepQ_alike ho0 hle0 l[j]
        clear hSt
        generalize l[j] = y at *
        obtain ⟨yk, yr, yp, ykeep⟩ := y
        dsimp only at *
        go_wp2_with fail
        refine hdo.mono ?_
        rintro e w4 ⟨rfl, h4, hG⟩
        clear hdo q0 q1 q2 q3
        have hB4 : Below w2.heap.size w2 w4 := hG.below hB hz fun b hb => (hP0 b hb).1
        have hz4 := hG.size
        have hW4 := (hWas.grew hG fun b hq hp => (hQ0 b hq).2.2 hp).alike hal.1
        have hmm := hal.2
        generalize stepQ x0 k0 m0 ⟨yk, yr, yp, ykeep⟩ = z at *
        obtain ⟨zc, x, k, m⟩ := z
        dsimp only at *
        have hSP : StAt (fun b => w2.heap.size ≤ b ∧ b < w4.heap.size ∧ ¬ Q0 b) w4 S x k m := h4.mono fun b hb hp => ⟨hp.elim (fun hp => (hP0 b hp).1) (fun hp => by omega), hb, fun hq => hp.elim (fun hp => (hQ0 b hq).2.2 hp) (fun hp => by have := (hQ0 b hq).2.1; omega)⟩
        clear h4 hG hWas hal ho0 hle0
        obtain ⟨A, eA⟩ : ∃ A, A = w4.heap.size := ⟨_, rfl⟩
        obtain ⟨P, eP⟩ : ∃ P : Nat → Prop, P = fun b => w2.heap.size ≤ b ∧ b < w4.heap.size ∧ ¬ Q0 b := ⟨_, rfl⟩
        rw [← eP] at hSP
        have hP : ∀ b, P b → w2.heap.size ≤ b ∧ b < A := fun b hb => by rw [eP] at hb; rw [eA]; exact ⟨hb.1, hb.2.1⟩
        have hPQ : ∀ b, Q0 b → ¬ P b := fun b hq hp => by rw [eP] at hp; exact hp.2.2 hq
        have hA2 : w2.heap.size ≤ A := by rw [eA]; exact hB4.size
        have hPA : ¬ P A := fun h => by have := (hP _ h).2; omega
        have hbA : Below w4.heap.size w4 (w4.alloc (.cells #[.int .i64 0, .int .i64 0, .int .i64 0, .int .i64 0, .int .i64 0, .int .i64 0, .int .i64 0, .int .i64 0, .int .i64 0, .int .i64 0] 71)) := (Below.refl _ _).alloc (Nat.le_refl _) _
        have hI0 : InQ w2.heap.size w2 P (w4.alloc (.cells #[.int .i64 0, .int .i64 0, .int .i64 0, .int .i64 0, .int .i64 0, .int .i64 0, .int .i64 0, .int .i64 0, .int .i64 0, .int .i64 0] 71)) S A (.slice va m0 vcap) x k m m0 0 :=
          ⟨hSP.later hbA, ⟨Q0, hW4.later hbA, fun b hq => ⟨(hQ0 b hq).1, by have := (hQ0 b hq).2.1; simp; omega, by have := (hQ0 b hq).2.1; omega, hPQ b hq⟩⟩, by rw [eA]; exact lt10 (by go_simp; rfl) (by go_simp; rfl) (by go_simp; rfl) (by go_simp; rfl) (by go_simp; rfl) (by go_simp; rfl) (by go_simp; rfl) (by go_simp; rfl) (by go_simp; rfl) (by go_simp; rfl), fun o => by rw [eA]; go_simp, hB4.trans (hbA.mono hB4.size)⟩
        have HEA : Hid (w4.heap.size = A) := eA.symm
        have HA4 : Hid (A < (w4.alloc (.cells #[.int .i64 0, .int .i64 0, .int .i64 0, .int .i64 0, .int .i64 0, .int .i64 0, .int .i64 0, .int .i64 0, .int .i64 0, .int .i64 0] 71)).heap.size) := by show A < _; rw [eA]; simp
        have ho := hSP.ok
        have hkx := ho.sure
        have hmk := hSP.le
        have hfx := ho.few
        clear hSP hW4 eP hPQ hbA eA hQ0 hP0 hB hz
        go_wp2_with fail
        rw [HEA.out]
        obtain ⟨W5, e5⟩ : ∃ W5, W5 = w4.alloc (.cells #[.int .i64 0, .int .i64 0, .int .i64 0, .int .i64 0, .int .i64 0, .int .i64 0, .int .i64 0, .int .i64 0, .int .i64 0, .int .i64 0] 71) := ⟨_, rfl⟩
        rw [← e5] at hI0 HA4 ⊢
        clear e5 HEA
        go_loopg [4, 7] m (fun g v i wq => ∃ (n c : Nat), n ≤ m ∧ g = m - n ∧ i = .int .i64 (n : Int) ∧ ((n ≤ m0 ∧ c = m0) ∨ (m0 ≤ n ∧ c = n)) ∧ A < wq.heap.size ∧ InQ w2.heap.size w2 P wq S A v x k m c n)
        case atStart => exact ⟨0, m0, by omega, by omega, rfl, .inl ⟨by omega, rfl⟩, HA4.out, hI0⟩
        case round =>
          obtain ⟨n, c, hn, hgn, rfl, hc, hAw, hI⟩ := hrel
          clear hI0 HA4
          have hzq : w2.heap.size ≤ wr.heap.size := hI.bel.size
          obtain ⟨ca, ccap, rfl⟩ : ∃ ca ccap, _ = Value.slice ca c ccap := by
            obtain ⟨Q, hW, -⟩ := hI.was
            exact hW.slice
          have hdn := stDone_any hI.st
          by_cases hnm : n < m
          · have hni : (n : Int) < (m : Int) := by omega
            have hnl : n < x.length := by omega
            have hgood := ho.good _ (List.getElem_mem hnl)
            have hfits := roundF_fits hgood.1
            obtain ⟨C, vl, hR⟩ := id hI.st
            have c0 := hR.c0
            have hrd := logRound_in hR.log hnl (hL2.later hI.bel)
            clear hR
            go_wp2_with fail
            refine hdn.mono ?_
            rintro e wd ⟨rfl, hwd⟩
            rw [hwd]
            clear hdn hwd
            go_wp2_with fail
            refine hrd.mono ?_
            rintro e w6 ⟨⟨u, rfl, hU6⟩, hb6⟩
            clear hrd c0
            have hI6 := hI.later hzq hb6
            have hz6 : w2.heap.size ≤ w6.heap.size := hI6.bel.size
            have hzr6 : wr.heap.size ≤ w6.heap.size := hb6.size
            obtain ⟨ua, ucap, rfl, -⟩ := id hU6
            clear hI hb6
            by_cases hn0 : n < m0
            · obtain rfl : c = m0 := by omega
              have hnc : (n : Int) < (c : Int) := by omega
              obtain ⟨g, gcap, rv', eg, cg, hrv⟩ : ∃ g gcap rv', Value.slice ca c ccap = .slice (some ⟨g, 0, none⟩) c gcap ∧ w6.cell? ⟨g, n, none⟩ = some rv' ∧ RoundAt w6 rv' x[n] := by
                obtain ⟨Q, hW, -⟩ := hI6.was
                obtain ⟨g, gcap, rv', h1, h2, h3⟩ := hW.get hn0
                rw [getD_at hnl] at h3
                exact ⟨g, gcap, rv', h1, h2, h3⟩
              cases eg
              have hsr := sameRound_any hU6.at hrv hfits hfits
              rw [eqRound_iff.2 rfl] at hsr
              obtain ⟨rva, rvc, rfl, -⟩ := hrv
              go_wp2_with fail
              refine hsr.mono ?_
              rintro e w7 ⟨rfl, hb7⟩
              clear hsr cg
              have hI7 := hI6.later hz6 hb7
              have hU7 := hU6.later hb7
              have hzrA : wr.heap.size ≤ w7.heap.size := Nat.le_trans hzr6 hb7.size
              clear hI6 hU6 hb7
              obtain ⟨ca, eca⟩ : ∃ ca, ca = some (⟨g, 0, none⟩ : Addr) := ⟨_, rfl⟩
              rw [← eca] at hI7 ⊢
              have HCA : Hid (ca = some (⟨g, 0, none⟩ : Addr)) := eca
              clear eca
              have hncd : ¬ (c : Int) ≤ (n : Int) := by omega
              have hzA : w2.heap.size ≤ w7.heap.size := hI7.bel.size
              have hal := sal_good (.slice ua x[n].length ucap) x[n] (stN x n) w7 hU7.at hfits hgood.1 (hL2.later hI7.bel)
              rw [← stN_succ hnl] at hal
              simp only [stV] at hal
              obtain ⟨s1, es1⟩ : ∃ s1, s1 = stN x (n + 1) := ⟨_, rfl⟩
              obtain ⟨s0, es0⟩ : ∃ s0, s0 = stN x n := ⟨_, rfl⟩
              have HNx : Hid (∀ W, InQ w2.heap.size w2 P W S A (.slice ca c ccap) x k m c n → InQ w2.heap.size w2 P ((((((((((W.setCell ⟨A, 0, none⟩ (.int .i64 (stN x (n + 1) 0))).setCell ⟨A, 1, none⟩ (.int .i64 (stN x (n + 1) 1))).setCell ⟨A, 2, none⟩ (.int .i64 (stN x (n + 1) 2))).setCell ⟨A, 3, none⟩ (.int .i64 (stN x (n + 1) 3))).setCell ⟨A, 4, none⟩ (.int .i64 (stN x (n + 1) 4))).setCell ⟨A, 5, none⟩ (.int .i64 (stN x (n + 1) 5))).setCell ⟨A, 6, none⟩ (.int .i64 (stN x (n + 1) 6))).setCell ⟨A, 7, none⟩ (.int .i64 (stN x (n + 1) 7))).setCell ⟨A, 8, none⟩ (.int .i64 (stN x (n + 1) 8))).setCell ⟨A, 9, none⟩ (.int .i64 (stN x (n + 1) 9))) S A (.slice ca c ccap) x k m c (n + 1)) := fun W h => h.next hPA hA2 (n + 1)
              obtain ⟨z0, z1, z2, z3, z4, z5, z6, z7, z8, z9⟩ := hI7.box.ten
              rw [← es1] at hal HNx
              rw [← es0] at hal z0 z1 z2 z3 z4 z5 z6 z7 z8 z9
              have HI : Hid (InQ w2.heap.size w2 P w7 S A (.slice ca c ccap) x k m c n) := hI7
              have HU : Hid (RoundIn (fun b => wr.heap.size ≤ b) w7 (.slice ua x[n].length ucap) x[n]) := hU7
              clear es0 es1 hI7 hU7
              go_wp2_with fail
              refine hal.mono ?_
              clear hal z0 z1 z2 z3 z4 z5 z6 z7 z8 z9
              rintro e w8 ⟨⟨G, rfl⟩, hb8⟩
              have hI8 := HI.out.later hzA hb8
              have hU8 := HU.out.later hb8
              have hz8 : w2.heap.size ≤ w8.heap.size := hI8.bel.size
              have hzw8 : wr.heap.size ≤ w8.heap.size := Nat.le_trans hzrA hb8.size
              clear HI HU hb8
              go_upto_region 21 with fail
              obtain ⟨W9, e9⟩ : ∃ W9, W9 = w8.alloc (.cells #[.int .i64 (s1 0), .int .i64 (s1 1), .int .i64 (s1 2), .int .i64 (s1 3), .int .i64 (s1 4), .int .i64 (s1 5), .int .i64 (s1 6), .int .i64 (s1 7), .int .i64 (s1 8), .int .i64 (s1 9)] 71) := ⟨_, rfl⟩
              have hb9 : Below w8.heap.size w8 W9 := by rw [e9]; exact (Below.refl _ _).alloc (Nat.le_refl _) _
              have y0 : W9.cell? ⟨w8.heap.size, 0, none⟩ = some (.int .i64 (s1 0)) := by rw [e9]; go_simp
              have y1 : W9.cell? ⟨w8.heap.size, 1, none⟩ = some (.int .i64 (s1 1)) := by rw [e9]; go_simp
              have y2 : W9.cell? ⟨w8.heap.size, 2, none⟩ = some (.int .i64 (s1 2)) := by rw [e9]; go_simp
              have y3 : W9.cell? ⟨w8.heap.size, 3, none⟩ = some (.int .i64 (s1 3)) := by rw [e9]; go_simp
              have y4 : W9.cell? ⟨w8.heap.size, 4, none⟩ = some (.int .i64 (s1 4)) := by rw [e9]; go_simp
              have y5 : W9.cell? ⟨w8.heap.size, 5, none⟩ = some (.int .i64 (s1 5)) := by rw [e9]; go_simp
              have y6 : W9.cell? ⟨w8.heap.size, 6, none⟩ = some (.int .i64 (s1 6)) := by rw [e9]; go_simp
              have y7 : W9.cell? ⟨w8.heap.size, 7, none⟩ = some (.int .i64 (s1 7)) := by rw [e9]; go_simp
              have y8 : W9.cell? ⟨w8.heap.size, 8, none⟩ = some (.int .i64 (s1 8)) := by rw [e9]; go_simp
              have y9 : W9.cell? ⟨w8.heap.size, 9, none⟩ = some (.int .i64 (s1 9)) := by rw [e9]; go_simp
              have hI9 := hI8.later hz8 hb9
              have hU9 := hU8.later hb9
              obtain ⟨z0, z1, z2, z3, z4, z5, z6, z7, z8, z9⟩ := hI9.box.ten
              have fr := hI9.fr
              have hAlt : A < W9.heap.size := box_lt hI9.box
              have hAne : ¬ A = w8.heap.size := by omega
              have hzw9 : wr.heap.size ≤ W9.heap.size := Nat.le_trans hzw8 hb9.size
              obtain ⟨W10, e10⟩ : ∃ W10, W10 = ((((((((((W9.setCell ⟨A, 0, none⟩ (.int .i64 (s1 0))).setCell ⟨A, 1, none⟩ (.int .i64 (s1 1))).setCell ⟨A, 2, none⟩ (.int .i64 (s1 2))).setCell ⟨A, 3, none⟩ (.int .i64 (s1 3))).setCell ⟨A, 4, none⟩ (.int .i64 (s1 4))).setCell ⟨A, 5, none⟩ (.int .i64 (s1 5))).setCell ⟨A, 6, none⟩ (.int .i64 (s1 6))).setCell ⟨A, 7, none⟩ (.int .i64 (s1 7))).setCell ⟨A, 8, none⟩ (.int .i64 (s1 8))).setCell ⟨A, 9, none⟩ (.int .i64 (s1 9))) := ⟨_, rfl⟩
              have hI10 : InQ w2.heap.size w2 P W10 S A (.slice ca c ccap) x k m c (n + 1) := by rw [e10]; exact HNx.out W9 hI9
              have hG10 : Grew (fun b => b = A) W9 W10 := by
                rw [e10]
                exact (((((((((grew_cellC W9 A 0 _).trans (grew_cellC _ A 1 _)).trans (grew_cellC _ A 2 _)).trans (grew_cellC _ A 3 _)).trans (grew_cellC _ A 4 _)).trans (grew_cellC _ A 5 _)).trans (grew_cellC _ A 6 _)).trans (grew_cellC _ A 7 _)).trans (grew_cellC _ A 8 _)).trans (grew_cellC _ A 9 _)
              have hU10 := hU9.grew hG10 fun b hb e => by omega
              have hzw10 : wr.heap.size ≤ W10.heap.size := Nat.le_trans hzw9 hG10.size
              have HW10 : Hid (((((((((((W9.setCell ⟨A, 0, none⟩ (.int .i64 (s1 0))).setCell ⟨A, 1, none⟩ (.int .i64 (s1 1))).setCell ⟨A, 2, none⟩ (.int .i64 (s1 2))).setCell ⟨A, 3, none⟩ (.int .i64 (s1 3))).setCell ⟨A, 4, none⟩ (.int .i64 (s1 4))).setCell ⟨A, 5, none⟩ (.int .i64 (s1 5))).setCell ⟨A, 6, none⟩ (.int .i64 (s1 6))).setCell ⟨A, 7, none⟩ (.int .i64 (s1 7))).setCell ⟨A, 8, none⟩ (.int .i64 (s1 8))).setCell ⟨A, 9, none⟩ (.int .i64 (s1 9))) = W10) := e10.symm
              rw [← e9]
              clear e9 e10 hI8 hU8 hb9 hI9 hU9 HNx hG10
              go_upto_region 22 with fail
              rw [HW10.out]
              clear HW10 z0 z1 z2 z3 z4 z5 z6 z7 z8 z9 y0 y1 y2 y3 y4 y5 y6 y7 y8 y9 fr hAlt
              clear hU10
              go_wp2_with fail
              go_roundg (m - (n + 1))
              case measure => omega
              case rel => exact ⟨n + 1, c, by omega, rfl, by go_num, .inl ⟨by omega, rfl⟩, by omega, hI10⟩
            · obtain rfl : c = n := by omega
              have hnc : ¬ (c : Int) < (c : Int) := by omega
              have hzrA := hzr6
              have hzA : w2.heap.size ≤ w6.heap.size := hI6.bel.size
              have hal := sal_good (.slice ua x[c].length ucap) x[c] (stN x c) w6 hU6.at hfits hgood.1 (hL2.later hI6.bel)
              rw [← stN_succ hnl] at hal
              simp only [stV] at hal
              obtain ⟨s1, es1⟩ : ∃ s1, s1 = stN x (c + 1) := ⟨_, rfl⟩
              obtain ⟨s0, es0⟩ : ∃ s0, s0 = stN x c := ⟨_, rfl⟩
              have HNx : Hid (∀ W, InQ w2.heap.size w2 P W S A (.slice ca c ccap) x k m c c → InQ w2.heap.size w2 P ((((((((((W.setCell ⟨A, 0, none⟩ (.int .i64 (stN x (c + 1) 0))).setCell ⟨A, 1, none⟩ (.int .i64 (stN x (c + 1) 1))).setCell ⟨A, 2, none⟩ (.int .i64 (stN x (c + 1) 2))).setCell ⟨A, 3, none⟩ (.int .i64 (stN x (c + 1) 3))).setCell ⟨A, 4, none⟩ (.int .i64 (stN x (c + 1) 4))).setCell ⟨A, 5, none⟩ (.int .i64 (stN x (c + 1) 5))).setCell ⟨A, 6, none⟩ (.int .i64 (stN x (c + 1) 6))).setCell ⟨A, 7, none⟩ (.int .i64 (stN x (c + 1) 7))).setCell ⟨A, 8, none⟩ (.int .i64 (stN x (c + 1) 8))).setCell ⟨A, 9, none⟩ (.int .i64 (stN x (c + 1) 9))) S A (.slice ca c ccap) x k m c (c + 1)) := fun W h => h.next hPA hA2 (c + 1)
              obtain ⟨z0, z1, z2, z3, z4, z5, z6, z7, z8, z9⟩ := hI6.box.ten
              rw [← es1] at hal HNx
              rw [← es0] at hal z0 z1 z2 z3 z4 z5 z6 z7 z8 z9
              have HI : Hid (InQ w2.heap.size w2 P w6 S A (.slice ca c ccap) x k m c c) := hI6
              have HU : Hid (RoundIn (fun b => wr.heap.size ≤ b) w6 (.slice ua x[c].length ucap) x[c]) := hU6
              clear es0 es1 hI6 hU6
              go_wp2_with fail
              refine hal.mono ?_
              clear hal z0 z1 z2 z3 z4 z5 z6 z7 z8 z9
              rintro e w8 ⟨⟨G, rfl⟩, hb8⟩
              have hI8 := HI.out.later hzA hb8
              have hU8 := HU.out.later hb8
              have hz8 : w2.heap.size ≤ w8.heap.size := hI8.bel.size
              have hzw8 : wr.heap.size ≤ w8.heap.size := Nat.le_trans hzrA hb8.size
              clear HI HU hb8
              go_upto_region 21 with fail
              obtain ⟨W9, e9⟩ : ∃ W9, W9 = w8.alloc (.cells #[.int .i64 (s1 0), .int .i64 (s1 1), .int .i64 (s1 2), .int .i64 (s1 3), .int .i64 (s1 4), .int .i64 (s1 5), .int .i64 (s1 6), .int .i64 (s1 7), .int .i64 (s1 8), .int .i64 (s1 9)] 71) := ⟨_, rfl⟩
              have hb9 : Below w8.heap.size w8 W9 := by rw [e9]; exact (Below.refl _ _).alloc (Nat.le_refl _) _
              have y0 : W9.cell? ⟨w8.heap.size, 0, none⟩ = some (.int .i64 (s1 0)) := by rw [e9]; go_simp
              have y1 : W9.cell? ⟨w8.heap.size, 1, none⟩ = some (.int .i64 (s1 1)) := by rw [e9]; go_simp
              have y2 : W9.cell? ⟨w8.heap.size, 2, none⟩ = some (.int .i64 (s1 2)) := by rw [e9]; go_simp
              have y3 : W9.cell? ⟨w8.heap.size, 3, none⟩ = some (.int .i64 (s1 3)) := by rw [e9]; go_simp
              have y4 : W9.cell? ⟨w8.heap.size, 4, none⟩ = some (.int .i64 (s1 4)) := by rw [e9]; go_simp
              have y5 : W9.cell? ⟨w8.heap.size, 5, none⟩ = some (.int .i64 (s1 5)) := by rw [e9]; go_simp
              have y6 : W9.cell? ⟨w8.heap.size, 6, none⟩ = some (.int .i64 (s1 6)) := by rw [e9]; go_simp
              have y7 : W9.cell? ⟨w8.heap.size, 7, none⟩ = some (.int .i64 (s1 7)) := by rw [e9]; go_simp
              have y8 : W9.cell? ⟨w8.heap.size, 8, none⟩ = some (.int .i64 (s1 8)) := by rw [e9]; go_simp
              have y9 : W9.cell? ⟨w8.heap.size, 9, none⟩ = some (.int .i64 (s1 9)) := by rw [e9]; go_simp
              have hI9 := hI8.later hz8 hb9
              have hU9 := hU8.later hb9
              obtain ⟨z0, z1, z2, z3, z4, z5, z6, z7, z8, z9⟩ := hI9.box.ten
              have fr := hI9.fr
              have hAlt : A < W9.heap.size := box_lt hI9.box
              have hAne : ¬ A = w8.heap.size := by omega
              have hzw9 : wr.heap.size ≤ W9.heap.size := Nat.le_trans hzw8 hb9.size
              obtain ⟨W10, e10⟩ : ∃ W10, W10 = ((((((((((W9.setCell ⟨A, 0, none⟩ (.int .i64 (s1 0))).setCell ⟨A, 1, none⟩ (.int .i64 (s1 1))).setCell ⟨A, 2, none⟩ (.int .i64 (s1 2))).setCell ⟨A, 3, none⟩ (.int .i64 (s1 3))).setCell ⟨A, 4, none⟩ (.int .i64 (s1 4))).setCell ⟨A, 5, none⟩ (.int .i64 (s1 5))).setCell ⟨A, 6, none⟩ (.int .i64 (s1 6))).setCell ⟨A, 7, none⟩ (.int .i64 (s1 7))).setCell ⟨A, 8, none⟩ (.int .i64 (s1 8))).setCell ⟨A, 9, none⟩ (.int .i64 (s1 9))) := ⟨_, rfl⟩
              have hI10 : InQ w2.heap.size w2 P W10 S A (.slice ca c ccap) x k m c (c + 1) := by rw [e10]; exact HNx.out W9 hI9
              have hG10 : Grew (fun b => b = A) W9 W10 := by
                rw [e10]
                exact (((((((((grew_cellC W9 A 0 _).trans (grew_cellC _ A 1 _)).trans (grew_cellC _ A 2 _)).trans (grew_cellC _ A 3 _)).trans (grew_cellC _ A 4 _)).trans (grew_cellC _ A 5 _)).trans (grew_cellC _ A 6 _)).trans (grew_cellC _ A 7 _)).trans (grew_cellC _ A 8 _)).trans (grew_cellC _ A 9 _)
              have hU10 := hU9.grew hG10 fun b hb e => by omega
              have hzw10 : wr.heap.size ≤ W10.heap.size := Nat.le_trans hzw9 hG10.size
              have HW10 : Hid (((((((((((W9.setCell ⟨A, 0, none⟩ (.int .i64 (s1 0))).setCell ⟨A, 1, none⟩ (.int .i64 (s1 1))).setCell ⟨A, 2, none⟩ (.int .i64 (s1 2))).setCell ⟨A, 3, none⟩ (.int .i64 (s1 3))).setCell ⟨A, 4, none⟩ (.int .i64 (s1 4))).setCell ⟨A, 5, none⟩ (.int .i64 (s1 5))).setCell ⟨A, 6, none⟩ (.int .i64 (s1 6))).setCell ⟨A, 7, none⟩ (.int .i64 (s1 7))).setCell ⟨A, 8, none⟩ (.int .i64 (s1 8))).setCell ⟨A, 9, none⟩ (.int .i64 (s1 9))) = W10) := e10.symm
              rw [← e9]
              clear e9 e10 hI8 hU8 hb9 hI9 hU9 HNx hG10
              go_upto_region 22 with fail
              rw [HW10.out]
              clear HW10 z0 z1 z2 z3 z4 z5 z6 z7 z8 z9 y0 y1 y2 y3 y4 y5 y6 y7 y8 y9 fr hAlt
              have hl14 : ∀ i (h : i < x[c].length), x[c][i].length ≤ 14 := fun i hi => checkF_len ((roundF_zero.1 hgood.1).2 _ (List.getElem_mem hi))
              have h8 := (roundF_zero.1 hgood.1).1
              have hown := ownL_any (.slice ua x[c].length ucap) x[c] W10 hU10.at (by omega) (fun i hi => by have := hl14 i hi; omega)
              have hz10 : w2.heap.size ≤ W10.heap.size := hI10.bel.size
              have hA10 : A < W10.heap.size := by omega
              clear hU10
              go_wp2_with fail
              refine hown.mono ?_
              clear hown
              rintro e w11 ⟨uo, Dd, rfl, hO11, hb11⟩
              have hR11 : RoundIn (fun b => W10.heap.size ≤ b ∧ b < w11.heap.size) w11 uo x[c] := hO11.round.mono fun b hb hp => ⟨hp, hb⟩
              obtain ⟨ona, oncap, rfl, -⟩ := id hR11
              have hb12 : Below w11.heap.size w11 (w11.alloc (.cells #[.slice ona x[c].length oncap] 23)) := (Below.refl _ _).alloc (Nat.le_refl _) _
              have hcaB : ∀ b, (Value.slice ca c ccap).ownBlock = some b → b < W10.heap.size := by
                obtain ⟨Q, ⟨xs, hraw⟩, -⟩ := hI10.was
                exact fun b e => (owns_lt hraw.row e).2
              have hI11 := hI10.later hz10 hb11
              have hI12 := hI11.later hI11.bel.size hb12
              have hR12 := hR11.later hb12
              have hz11 := hb11.size
              have cN : (w11.alloc (.cells #[.slice ona x[c].length oncap] 23)).cell? ⟨w11.heap.size, 0, none⟩ = some (.slice ona x[c].length oncap) := by go_simp
              obtain ⟨W12, e12⟩ : ∃ W12, W12 = w11.alloc (.cells #[.slice ona x[c].length oncap] 23) := ⟨_, rfl⟩
              have hz12 : w11.heap.size ≤ W12.heap.size := by rw [e12]; simp
              have HW12 : Hid (w11.alloc (.cells #[.slice ona x[c].length oncap] 23) = W12) := e12.symm
              rw [← e12] at hI12 hR12 cN
              clear e12 hb12 hI11 hR11 hO11 hb11 hI10
              obtain ⟨Q, ⟨xs, hraw⟩, hQ⟩ := hI12.was
              have hxl := hraw.len
              have HRow : Hid (RowL W12 (.slice ca c ccap) xs) := .inl (by rw [hraw.len]; exact hraw.row)
              have HFin : Hid (∀ w13 v13, w13.ownsRow 0 23 1 v13 (xs.length + 1) (xs ++ [.slice ona x[c].length oncap]) → W12.grownBy w13 (Value.slice ca c ccap).ownBlock → (v13.ownBlock = (Value.slice ca c ccap).ownBlock ∨ v13.ownBlock = some W12.heap.size) → A < w13.heap.size ∧ InQ w2.heap.size w2 P w13 S A v13 x k m (c + 1) (c + 1)) := fun w13 v13 ho13 hg13 hat13 => by
                have hG : Grew (fun b => (Value.slice ca c ccap).ownBlock = some b) W12 w13 := ⟨hg13.os, hg13.tape, hg13.output, hg13.size, fun k hk hn => hg13.block k hk (fun e => hn e.symm)⟩
                have hput := hraw.put hg13 ho13 hat13 (M := W10.heap.size) (by omega) (by
                  rw [getD_at hnl]
                  exact hR12.mono fun b hb hp => ⟨hp.1, hb, fun e => by have := hcaB b e; have := hp.1; omega⟩)
                have hAQ : ∀ b, (Value.slice ca c ccap).ownBlock = some b → b ≠ A ∧ ¬ P b := fun b e => (hQ b (hraw.qr b e)).2.2
                have hs13 := hG.size
                refine ⟨by omega, hI12.st.grew hG fun b hp e => (hAQ b e).2 hp, ⟨fun b => (Q b ∨ W10.heap.size ≤ b) ∧ b < w13.heap.size, hput.mono fun b hb hq => ⟨hq, hb⟩, fun b hq => ⟨?_, hq.2, ?_, ?_⟩⟩, fun i hi => hG.cell (hI12.box i hi) (fun e => (hAQ A e).1 rfl), fun o => by rw [hG.frozen (p := ⟨A, o, none⟩) (box_lt hI12.box) (fun e => (hAQ A e).1 rfl)]; exact hI12.fr o, hG.below hI12.bel (by omega) fun b e => (hQ b (hraw.qr b e)).1⟩
                · rcases hq.1 with hq | hq
                  · exact (hQ b hq).1
                  · omega
                · rcases hq.1 with hq | hq
                  · exact (hQ b hq).2.2.1
                  · omega
                · rcases hq.1 with hq | hq
                  · exact (hQ b hq).2.2.2
                  · intro hp; have := (hP b hp).2; omega
              have hx25 : xs.length ≤ 1000 := by omega
              clear hraw hQ hI12 hR12
              go_wp2_with (at_builtin; rw [HW12.out]; refine wpList_append_rowL rfl (.tmp 76) (.tmp 79) rfl rfl HRow.out rfl w11.heap.size 1 rfl cN hx25 ?_; intro v13 w13 ho13 hg13 hat13; obtain ⟨hA13, hI13⟩ := HFin.out w13 v13 ho13 hg13 hat13; obtain ⟨ca13, ccap13, rfl, -⟩ := owns_slice ho13)
              go_roundg (m - (c + 1))
              case measure => omega
              case rel => exact ⟨c + 1, c + 1, by omega, rfl, by go_num, .inr ⟨by omega, rfl⟩, hA13, by rw [hxl] at hI13; exact hI13⟩
          · obtain rfl : n = m := by omega
            obtain rfl : c = n := by omega
            obtain ⟨C, vl, hR⟩ := id hI.st
            have c0 := hR.c0
            have hsu := hR.sure_any
            have hdn2 : ∀ w', Below wr.heap.size wr w' → Calls Tryd.prog 38 #[.pointer (some ⟨S, 0, none⟩)] w' fun e w'' => e = .returned (.int .i64 (c : Int)) ∧ Below w'.heap.size w' w'' := fun w' hb => below_of_sameS (stDone_any (hI.st.later hb))
            obtain ⟨s, es⟩ : ∃ s, s = stN x c := ⟨_, rfl⟩
            have hst : ∀ w', Below wr.heap.size wr w' → Calls Tryd.prog 39 #[.pointer (some ⟨S, 0, none⟩)] w' fun e w'' => e = .returned (stV s) ∧ Below w'.heap.size w' w'' := fun w' hb => by rw [es]; exact stState_any (hI.st.later hb)
            simp only [stV] at hst
            obtain ⟨y0, y1, y2, y3, y4, y5, y6, y7, y8, y9⟩ := hI.box.ten
            rw [← es] at y0 y1 y2 y3 y4 y5 y6 y7 y8 y9
            have hee := eq38 s
            have HI : Hid (InQ w2.heap.size w2 P wr S A (.slice ca c ccap) x k c c c) := hI
            have t1 : ¬ (k : Int) < (c : Int) := by omega
            have t2 : ¬ k < c := by omega
            clear hR es hI
            go_wp2_with fail
            refine hdn.mono ?_
            rintro e wd ⟨rfl, hwd⟩
            rw [hwd]
            clear hdn hwd
            go_wp2_with fail
            refine wp_region_till (S := fun w' => Below wr.heap.size wr w') (fun _ => false) (by kernel_rfl) ((Below.refl _ _).drew) (fun hS => ?_)
            refine anyT_take 0 [] (.pointer (some ⟨S, 0, none⟩)) rfl (by kernel_rfl) (by kernel_rfl) (by kernel_rfl) (by kernel_rfl) (by kernel_rfl) (fun _ _ _ h => h) (Or.inl ⟨by kernel_rfl, ?_⟩) hS ?_
            · intro w' _
              go_simp
            refine anyT_take 2 [] (.agg #[.int .i64 (s 0), .int .i64 (s 1), .int .i64 (s 2), .int .i64 (s 3), .int .i64 (s 4), .int .i64 (s 5), .int .i64 (s 6), .int .i64 (s 7), .int .i64 (s 8), .int .i64 (s 9)]) rfl (by kernel_rfl) (by kernel_rfl) (by kernel_rfl) (by kernel_rfl) (by kernel_rfl) (fun _ _ _ h => h) (Or.inl ⟨by kernel_rfl, ?_⟩) hS ?_
            · intro w' hb'
              have z0 := cell_later hb' y0
              have z1 := cell_later hb' y1
              have z2 := cell_later hb' y2
              have z3 := cell_later hb' y3
              have z4 := cell_later hb' y4
              have z5 := cell_later hb' y5
              have z6 := cell_later hb' y6
              have z7 := cell_later hb' y7
              have z8 := cell_later hb' y8
              have z9 := cell_later hb' y9
              go_simp
            refine anyT_ready [1] (by kernel_rfl) (by simp) ?_
            refine EachT.cons rfl (fun K hK => ?_) EachT.nil
            simp only [List.getElem_toArray, List.getElem_cons_zero, List.getElem_cons_succ]
            go_simp
            refine (hst _ hS).mono ?_
            rintro e w6 ⟨rfl, hb6'⟩
            have hb6 : Below wr.heap.size wr w6 := hS.trans (hb6'.mono hS.size)
            (try go_wp2_with fail)
            refine hK.out _ _ (fun _ => hb6) ?_
            clear hK K
            refine anyT_take 3 [] (.bool false) rfl (by kernel_rfl) (by kernel_rfl) (by kernel_rfl) (by kernel_rfl) (by kernel_rfl) (fun _ _ _ h => h) (Or.inl ⟨by kernel_rfl, ?_⟩) hb6 ?_
            · intro w' _
              go_simp
            refine anyT_take 4 [] (.bool false) rfl (by kernel_rfl) (by kernel_rfl) (by kernel_rfl) (by kernel_rfl) (by kernel_rfl) (fun _ _ _ h => h) (Or.inl ⟨by kernel_rfl, ?_⟩) hb6 ?_
            · intro w' _
              go_simp
            refine anyT_take 5 [] (.pointer (some ⟨S, 0, none⟩)) rfl (by kernel_rfl) (by kernel_rfl) (by kernel_rfl) (by kernel_rfl) (by kernel_rfl) (fun _ _ _ h => h) (Or.inl ⟨by kernel_rfl, ?_⟩) hb6 ?_
            · intro w' _
              go_simp
            refine anyT_take 7 [] (.slice ca c ccap) rfl (by kernel_rfl) (by kernel_rfl) (by kernel_rfl) (by kernel_rfl) (by kernel_rfl) (fun _ _ _ h => h) (Or.inl ⟨by kernel_rfl, ?_⟩) hb6 ?_
            · intro w' _
              go_simp
            refine anyT_take 8 [] (.int .i64 (c : Int)) rfl (by kernel_rfl) (by kernel_rfl) (by kernel_rfl) (by kernel_rfl) (by kernel_rfl) (fun _ _ _ h => h) (Or.inl ⟨by kernel_rfl, ?_⟩) hb6 ?_
            · intro w' _
              go_simp
            refine anyT_ready [6] (by kernel_rfl) (by simp) ?_
            refine EachT.cons rfl (fun K hK => ?_) EachT.nil
            simp only [List.getElem_toArray, List.getElem_cons_zero, List.getElem_cons_succ]
            go_simp
            refine (hdn2 _ hb6).mono ?_
            rintro e w7 ⟨rfl, hb7'⟩
            have hb7 : Below wr.heap.size wr w7 := hb6.trans (hb7'.mono hb6.size)
            (try go_wp2_with fail)
            refine hK.out _ _ (fun _ => hb7) ?_
            clear hK K
            refine anyT_take 9 [] (.bool false) rfl (by kernel_rfl) (by kernel_rfl) (by kernel_rfl) (by kernel_rfl) (by kernel_rfl) (fun _ _ _ h => h) (Or.inl ⟨by kernel_rfl, ?_⟩) hb7 ?_
            · intro w' _
              go_simp
            refine anyT_take 10 [] (.bool false) rfl (by kernel_rfl) (by kernel_rfl) (by kernel_rfl) (by kernel_rfl) (by kernel_rfl) (fun _ _ _ h => h) (Or.inl ⟨by kernel_rfl, ?_⟩) hb7 ?_
            · intro w' _
              go_simp
            refine anyT_take 11 [] (.bool false) rfl (by kernel_rfl) (by kernel_rfl) (by kernel_rfl) (by kernel_rfl) (by kernel_rfl) (fun _ _ _ h => h) (Or.inl ⟨by kernel_rfl, ?_⟩) hb7 ?_
            · intro w' _
              go_simp
            refine anyT_take 12 [] (.pointer (some ⟨S, 0, none⟩)) rfl (by kernel_rfl) (by kernel_rfl) (by kernel_rfl) (by kernel_rfl) (by kernel_rfl) (fun _ _ _ h => h) (Or.inl ⟨by kernel_rfl, ?_⟩) hb7 ?_
            · intro w' _
              go_simp
            refine anyT_take 14 [] (.pointer (some ⟨S, 0, none⟩)) rfl (by kernel_rfl) (by kernel_rfl) (by kernel_rfl) (by kernel_rfl) (by kernel_rfl) (fun _ _ _ h => h) (Or.inl ⟨by kernel_rfl, ?_⟩) hb7 ?_
            · intro w' _
              go_simp
            refine anyT_take 15 [] (.pointer (some ⟨S, 0, none⟩)) rfl (by kernel_rfl) (by kernel_rfl) (by kernel_rfl) (by kernel_rfl) (by kernel_rfl) (fun _ _ _ h => h) (Or.inl ⟨by kernel_rfl, ?_⟩) hb7 ?_
            · intro w' _
              go_simp
            refine anyT_take 16 [] (.pointer (some ⟨S, 0, none⟩)) rfl (by kernel_rfl) (by kernel_rfl) (by kernel_rfl) (by kernel_rfl) (by kernel_rfl) (fun _ _ _ h => h) (Or.inl ⟨by kernel_rfl, ?_⟩) hb7 ?_
            · intro w' _
              go_simp
            refine anyT_take 17 [] (.pointer (some ⟨C, 0, none⟩)) rfl (by kernel_rfl) (by kernel_rfl) (by kernel_rfl) (by kernel_rfl) (by kernel_rfl) (fun _ _ _ h => h) (Or.inl ⟨by kernel_rfl, ?_⟩) hb7 ?_
            · intro w' hb'
              have z0 := cell_later hb' c0
              go_simp
            refine anyT_ready [13] (by kernel_rfl) (by simp) ?_
            refine EachT.cons rfl (fun K hK => ?_) EachT.nil
            simp only [List.getElem_toArray, List.getElem_cons_zero, List.getElem_cons_succ]
            go_simp
            refine (hdn2 _ hb7).mono ?_
            rintro e w8 ⟨rfl, hb8'⟩
            have hb8 : Below wr.heap.size wr w8 := hb7.trans (hb8'.mono hb7.size)
            (try go_wp2_with fail)
            refine hK.out _ _ (fun _ => hb8) ?_
            clear hK K
            refine anyT_ready [18] (by kernel_rfl) (by simp) ?_
            refine EachT.cons rfl (fun K hK => ?_) EachT.nil
            simp only [List.getElem_toArray, List.getElem_cons_zero, List.getElem_cons_succ]
            go_simp
            refine (hsu _ hb8).mono ?_
            rintro e w9 ⟨rfl, hb9'⟩
            have hb9 : Below wr.heap.size wr w9 := hb8.trans (hb9'.mono hb8.size)
            (try go_wp2_with fail)
            refine hK.out _ _ (fun _ => hb9) ?_
            clear hK K
            refine anyT_take 19 [] (.bool false) rfl (by kernel_rfl) (by kernel_rfl) (by kernel_rfl) (by kernel_rfl) (by kernel_rfl) (fun _ _ _ h => h) (Or.inl ⟨by kernel_rfl, ?_⟩) hb9 ?_
            · intro w' _
              go_simp
            refine anyT_take 20 [] (.bool false) rfl (by kernel_rfl) (by kernel_rfl) (by kernel_rfl) (by kernel_rfl) (by kernel_rfl) (fun _ _ _ h => h) (Or.inl ⟨by kernel_rfl, ?_⟩) hb9 ?_
            · intro w' _
              go_simp
            refine anyT_done (by kernel_rfl) ?_
            have hIn := HI.out.later hzq hb9
            have hz9 := hb9.size
            clear hst hdn2 hsu HI c0 y0 y1 y2 y3 y4 y5 y6 y7 y8 y9
            obtain ⟨Q, hW, hQ⟩ := hIn.was
            go_wp2_with fail
            go_roundg (l.length - (j + 1))
            case measure => omega
            case rel => exact ⟨j + 1, x, k, c, P, Q, by omega, rfl, by go_num, hIn.st, hW, fun b hp => ⟨(hP b hp).1, by have := (hP b hp).2; omega⟩, fun b hq => ⟨(hQ b hq).1, (hQ b hq).2.1, (hQ b hq).2.2.2⟩, hIn.bel⟩
      · obtain rfl : j = l.length := by omega
        clear hs
        have hBw : Below w.heap.size w wr := hB2.trans (hB.mono hB2.size)
        clear hSt hWas
        go_wp2_with fail
        go_ret
        exact ⟨rfl, hBw⟩
end Go.Proofs.YtihfjmdjjeciiacDoor
