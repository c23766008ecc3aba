/-
  The walk of the law StoreRefuses.
-/
import Derived.Test.YtihfjmdjjeciiacDoorBegQJ
import Derived.Test.YtihfjmdjjeciiacDoorGrtQJ
import Derived.Test.YtihfjmdjjeciiacDoorJqSa
namespace Go.Proofs.YtihfjmdjjeciiacDoor
open Go.RowKit Go.Shelf

theorem below_of_same {f : FuncId} {args : Array Value} {w : World} {p : Ending → Prop} (h : Calls Tryd.prog f args w fun e w' => p e ∧ w' = w) : Calls Tryd.prog f args w fun e w' => p e ∧ Below w.heap.size w w' := h.mono fun _ w' ⟨h1, h2⟩ => ⟨h1, by rw [h2]; exact Below.refl _ _⟩
theorem Box.grew {S : Nat → Prop} {w w' : World} {B : Nat} {s : Nat → Int} (h : Box w B s) (hg : Grew S w w') (hn : ¬ S B) : Box w' B s := fun i hi => hg.cell (h i hi) hn

set_option maxRecDepth 100000 in
set_option maxHeartbeats 4000000 in
theorem storeRefusesLaw_any {v : Value} {l : List QStep} {w : World} (hl : StepsQ w v l) (hf : FitsQ l) (hL : Lim w) :
    Calls Tryd.prog 12 #[v] w fun e w' => e = .returned (.bool true) ∧ Below w.heap.size w w' := by
  have hm := hf.1
  go_enter Tryd.func12, Tryd.ntmps12
  go_wp2_with fail
  refine (begunQ_any w hL).mono ?_
  rintro e w1 ⟨rfl, hB1⟩
  have hl1 := hl.later hB1
  go_wp2_with fail
  refine (greatQ_any hl1 hf).mono ?_
  rintro e w2 ⟨⟨g, rfl⟩, hb2⟩
  have hB2 : Below w.heap.size w w2 := hB1.trans (hb2.mono hB1.size)
  have hl2 := hl1.later hb2
  clear hl1 hb2
  cases g with
  | true =>
    go_wp2_with fail
    go_ret
    exact ⟨rfl, hB2⟩
  | false =>
    have hL2 := hL.later hB2
    have hp2 := hL2.pos
    go_wp2_with fail
    refine (stNew_any w2).mono ?_
    rintro e w3 ⟨S, rfl, h3, hb3⟩
    obtain ⟨a, cap, rfl, hs⟩ := hl2
    go_wp2_with fail
    go_loopg [4] l.length (fun g i wr => ∃ (j : Nat) (x : List (List (List Op5))) (k m : Nat), j ≤ l.length ∧ g = l.length - j ∧ i = .int .i64 (j : Int) ∧ StAt (fun b => w2.heap.size ≤ b) wr S x k m ∧ Below w2.heap.size w2 wr)
    case atStart => exact ⟨0, _, _, _, by omega, by omega, rfl, h3, hb3⟩
    case round =>
      obtain ⟨j, x, k, m, hj, hg, rfl, hSt, hB⟩ := hrel
      clear h3 hb3
      have hz := hB.size
      by_cases hlt : j < l.length
      · have hlti : (j : Int) < (l.length : Int) := by omega
        have hSP : StAt (fun b => w2.heap.size ≤ b ∧ b < wr.heap.size) wr S x k m := hSt.mono fun b hb hp => ⟨hp, hb⟩
        have ho := hSt.ok
        have h8 := lastR_len ho.good m
        have hA1 := ho.all
        obtain ⟨C, vl, hR⟩ := id hSP
        have c0 := hR.c0
        have hby := logBytes_any hR.log
        clear hR hSt
        go_wp2_with fail
        refine hby.mono ?_
        rintro e w4 ⟨⟨u1, rfl, hU1⟩, hb4⟩
        clear hby c0
        have h4 := hSP.later hb4
        have hB4 : Below w2.heap.size w2 w4 := hB.trans (hb4.mono hz)
        have hz4 := hb4.size
        have hU4 : BytesIn (fun b => wr.heap.size ≤ b) w4 u1 (allB x) := hU1
        obtain ⟨ua, ucap, rfl, -⟩ := id hU1
        clear hU1 hb4 hSP
        have hdn := stDone_any h4
        go_wp2_with fail
        refine hdn.mono ?_
        rintro e w4' ⟨rfl, rfl⟩
        clear hdn
        have hst := stState_any h4
        simp only [stV] at hst
        go_wp2_with fail
        refine hst.mono ?_
        rintro e w5 ⟨rfl, hb5⟩
        clear hst
        have h5 := h4.later hb5
        have hU5 := hU4.later hb5
        have hB5 : Below w2.heap.size w2 w5 := hB4.trans (hb5.mono (by omega))
        have hz5 : wr.heap.size ≤ w5.heap.size := Nat.le_trans hz4 hb5.size
        clear h4 hU4 hB4 hb5
        have hla := stLast_any h5
        go_wp2_with fail
        refine hla.mono ?_
        rintro e w6 ⟨⟨ul, rfl, hUl⟩, hb6⟩
        clear hla
        have hbA : Below w6.heap.size w6 (w6.alloc (.cells #[.int .i64 (stN x m 0), .int .i64 (stN x m 1), .int .i64 (stN x m 2), .int .i64 (stN x m 3), .int .i64 (stN x m 4), .int .i64 (stN x m 5), .int .i64 (stN x m 6), .int .i64 (stN x m 7), .int .i64 (stN x m 8), .int .i64 (stN x m 9)] 71)) := (Below.refl _ _).alloc (Nat.le_refl _) _
        have hb7 := hb6.trans (hbA.mono hb6.size)
        have h7 := h5.later hb7
        have hU7 := hU5.later hb7
        have hB7 := hB5.trans (hb7.mono (by omega))
        have hB6 := hB5.trans (hb6.mono (by omega))
        have hz6 : wr.heap.size ≤ w6.heap.size := Nat.le_trans hz5 hb6.size
        have hUl7 := (hUl.mono (Q := fun b => wr.heap.size ≤ b) fun b _ _ hb => Nat.le_trans hz5 hb).later hbA
        have hX7 := box_new w6 (stN x m)
        obtain ⟨la, lcap, rfl, -⟩ := id hUl
        clear h5 hU5 hB5 hb6 hUl hb7 hbA
        obtain ⟨b, off, rfl, q0, ⟨rv, q1, hRd⟩, ⟨pv, q2, hNu⟩, q3⟩ := hs j hlt
        have HS : Hid (∀ i (h : i < l.length), ∃ b' off', some (⟨b, off, none⟩ : Addr) = some ⟨b', off', none⟩ ∧ w2.cell? ⟨b', off' + i * 4, none⟩ = some (.int .i64 l[i].k) ∧ (∃ rv, w2.cell? ⟨b', off' + i * 4 + 1, none⟩ = some rv ∧ RoundAt w2 rv l[i].r) ∧ (∃ pv, w2.cell? ⟨b', off' + i * 4 + 2, none⟩ = some pv ∧ NumsAt w2 pv l[i].p) ∧ w2.cell? ⟨b', off' + i * 4 + 3, none⟩ = some (.int .i64 l[i].keep)) := hs
        clear hs
        replace q0 := cell_later hB6 q0
        replace q1 := cell_later hB6 q1
        replace q2 := cell_later hB6 q2
        replace q3 := cell_later hB6 q3
        have hblt : b < w6.heap.size := World.block_lt_of_cell? w6 _ q0
        have hdo := stDo_any (x := l[j]) h7 (hRd.later hB7) (hf.2 j hlt).1 (hf.2 j hlt).2.1 (hNu.later hB7) (hL2.later hB7) (fun h0 => by have := h0.1; omega)
        obtain ⟨ra, rcap, rfl, -⟩ := hRd
        obtain ⟨pa, pcap, rfl, -⟩ := hNu
        have hcode : Hid ((stepQ x k m l[j]).c ≠ 0 → (stepQ x k m l[j]).l = x ∧ (stepQ x k m l[j]).k = k ∧ (stepQ x k m l[j]).m = m) := stepQ_code
        obtain ⟨cc, hcc⟩ : ∃ cc, cc = (stepQ x k m l[j]).c := ⟨_, rfl⟩
        rw [← hcc] at hdo hcode
        obtain ⟨W, eW⟩ : ∃ W, W = w6.alloc (.cells #[.int .i64 (stN x m 0), .int .i64 (stN x m 1), .int .i64 (stN x m 2), .int .i64 (stN x m 3), .int .i64 (stN x m 4), .int .i64 (stN x m 5), .int .i64 (stN x m 6), .int .i64 (stN x m 7), .int .i64 (stN x m 8), .int .i64 (stN x m 9)] 71) := ⟨_, rfl⟩
        have HW : Hid (w6.alloc (.cells #[.int .i64 (stN x m 0), .int .i64 (stN x m 1), .int .i64 (stN x m 2), .int .i64 (stN x m 3), .int .i64 (stN x m 4), .int .i64 (stN x m 5), .int .i64 (stN x m 6), .int .i64 (stN x m 7), .int .i64 (stN x m 8), .int .i64 (stN x m 9)] 71) = W) := eW.symm
        rw [← eW] at h7 hU7 hB7 hUl7 hX7 hdo
        clear hcc eW
        obtain ⟨s, es⟩ : ∃ s, s = stN x m := ⟨_, rfl⟩
        rw [← es] at HW hX7 ⊢
        have HES : Hid (s = stN x m) := es
        clear es
        generalize l[j] = y at *
        obtain ⟨yk, yr, yp, ykeep⟩ := y
        dsimp only at *
        go_wp2_with fail
        rw [HW.out]
        refine hdo.mono ?_
        rintro e w7 ⟨rfl, hSn, hG⟩
        clear hdo q0 q1 q2 q3
        have hBn : Below w2.heap.size w2 w7 := hG.below hB7 hB7.size fun b hb => hb.1
        have hzW := hB7.size
        by_cases hc0 : cc = 0
        · subst hc0
          have hSn' : StAt (fun b => w2.heap.size ≤ b) w7 S (stepQ x k m ⟨yk, yr, yp, ykeep⟩).l (stepQ x k m ⟨yk, yr, yp, ykeep⟩).k (stepQ x k m ⟨yk, yr, yp, ykeep⟩).m := hSn.mono fun b _ hb => hb.elim (fun h => h.1) fun h => by omega
          clear hSn hU7 hUl7 hX7 h7 hcode hG
          go_wp2_with fail
          go_roundg (l.length - (j + 1))
          case measure => omega
          case rel => exact ⟨j + 1, _, _, _, by omega, rfl, by go_num, hSn', hBn⟩
        · obtain ⟨e1, e2, e3⟩ := hcode.out hc0
          rw [e1, e2, e3] at hSn
          have hc1 : (cc == 0) = false := by simp [hc0]
          have hzW6 : wr.heap.size ≤ W.heap.size := by rw [← HW.out]; simp; omega
          have hSn' : StAt (fun b => w2.heap.size ≤ b) w7 S x k m := hSn.mono fun b _ hb => hb.elim (fun h => h.1) fun h => by omega
          have hU := hU7.grew hG fun b hb hp => by have := hp.2; omega
          have hUl := hUl7.grew hG fun b _ hb hp => by have := hp.2; omega
          have hX := hX7.grew hG (fun hp => by have := hp.2; omega)
          clear hSn hU7 hUl7 hX7 h7 hcode hG hc0 e1 e2 e3
          obtain ⟨C', vl', hR⟩ := id hSn'
          have c0 := hR.c0
          have hby := logBytes_any hR.log
          clear hR
          go_wp2_with fail
          refine hby.mono ?_
          rintro e w8 ⟨⟨u3, rfl, hU3⟩, hb8⟩
          clear hby c0
          have h8' := hSn'.later hb8
          have hB8 : Below w2.heap.size w2 w8 := hBn.trans (hb8.mono hBn.size)
          obtain ⟨y0, y1, y2, y3, y4, y5, y6, y7, y8, y9⟩ := (hX.later hb8).ten
          have hsb : ∀ w', Below w8.heap.size w8 w' → Calls Tryd.prog 26 #[.slice ua (allB x).length ucap, u3] w' fun e w'' => e = .returned (.bool true) ∧ Below w'.heap.size w' w'' := fun w' hb => by
            have := sameBytes_any ((hU.later hb8).later hb).at (hU3.later hb).at hA1 hA1
            rw [decide_eq_true rfl] at this
            exact below_of_same this
          have hdn : ∀ w', Below w8.heap.size w8 w' → Calls Tryd.prog 38 #[.pointer (some ⟨S, 0, none⟩)] w' fun e w'' => e = .returned (.int .i64 (m : Int)) ∧ Below w'.heap.size w' w'' := fun w' hb => below_of_same (stDone_any (h8'.later hb))
          have hst : ∀ w', Below w8.heap.size w8 w' → Calls Tryd.prog 39 #[.pointer (some ⟨S, 0, none⟩)] w' fun e w'' => e = .returned (stV s) ∧ Below w'.heap.size w' w'' := fun w' hb => by rw [HES.out]; exact stState_any (h8'.later hb)
          have hla : ∀ w', Below w8.heap.size w8 w' → Calls Tryd.prog 41 #[.pointer (some ⟨S, 0, none⟩)] w' fun e w'' => (∃ u, e = .returned u ∧ ResIn (fun b => w'.heap.size ≤ b) w'' u (lastR x m).length (lastC x m) (lastG x m)) ∧ Below w'.heap.size w' w'' := fun w' hb => stLast_any (h8'.later hb)
          have hsr : ∀ w' u, Below w8.heap.size w8 w' → ∀ {P : Nat → Prop}, ResIn P w' u (lastR x m).length (lastC x m) (lastG x m) → Calls Tryd.prog 40 #[.slice la (lastR x m).length lcap, u] w' fun e w'' => e = .returned (.bool true) ∧ Below w'.heap.size w' w'' := fun w' u hb P hu => sameResIn_any ((hUl.later hb8).later hb) hu h8
          have hee := eq38 s
          simp only [stV] at hst
          clear hU hUl hX hU3 hb8 hSn' hBn
          have HST : Hid (StAt (fun b => w2.heap.size ≤ b) w8 S x k m) := h8'
          clear h8'
          go_wp2_with fail
          refine wp_region_till (S := fun w' => Below w8.heap.size w8 w') (fun _ => false) (by kernel_rfl) ((Below.refl _ _).drew) (fun hS => ?_)
          refine anyT_take 0 [] (.slice ua (allB x).length ucap) rfl (by kernel_rfl) (by kernel_rfl) (by kernel_rfl) (by kernel_rfl) (by kernel_rfl) (fun _ _ _ h => h) (Or.inl ⟨by kernel_rfl, ?_⟩) hS ?_
          · intro w' _
            go_simp
          refine anyT_take 1 [] (u3) rfl (by kernel_rfl) (by kernel_rfl) (by kernel_rfl) (by kernel_rfl) (by kernel_rfl) (fun _ _ _ h => h) (Or.inl ⟨by kernel_rfl, ?_⟩) hS ?_
          · intro w' _
            go_simp
          refine anyT_ready [2] (by kernel_rfl) (by simp) ?_
          refine EachT.cons rfl (fun K hK => ?_) EachT.nil
          simp only [List.getElem_toArray, List.getElem_cons_zero, List.getElem_cons_succ]
          go_simp
          refine (hsb _ hS).mono ?_
          rintro e w9 ⟨rfl, hb9'⟩
          have hb9 : Below w8.heap.size w8 w9 := hS.trans (hb9'.mono hS.size)
          (try go_wp2_with fail)
          refine hK.out _ _ (fun _ => hb9) ?_
          clear hK K
          refine anyT_take 3 [] (.bool false) rfl (by kernel_rfl) (by kernel_rfl) (by kernel_rfl) (by kernel_rfl) (by kernel_rfl) (fun _ _ _ h => h) (Or.inl ⟨by kernel_rfl, ?_⟩) hb9 ?_
          · intro w' _
            go_simp
          refine anyT_take 4 [] (.bool false) rfl (by kernel_rfl) (by kernel_rfl) (by kernel_rfl) (by kernel_rfl) (by kernel_rfl) (fun _ _ _ h => h) (Or.inl ⟨by kernel_rfl, ?_⟩) hb9 ?_
          · intro w' _
            go_simp
          refine anyT_take 5 [] (.int .i64 (endB x k : Int)) rfl (by kernel_rfl) (by kernel_rfl) (by kernel_rfl) (by kernel_rfl) (by kernel_rfl) (fun _ _ _ h => h) (Or.inl ⟨by kernel_rfl, ?_⟩) hb9 ?_
          · intro w' _
            go_simp
          refine anyT_take 6 [] (.int .i64 (endB x k : Int)) rfl (by kernel_rfl) (by kernel_rfl) (by kernel_rfl) (by kernel_rfl) (by kernel_rfl) (fun _ _ _ h => h) (Or.inl ⟨by kernel_rfl, ?_⟩) hb9 ?_
          · intro w' _
            go_simp
          refine anyT_take 7 [] (.bool false) rfl (by kernel_rfl) (by kernel_rfl) (by kernel_rfl) (by kernel_rfl) (by kernel_rfl) (fun _ _ _ h => h) (Or.inl ⟨by kernel_rfl, ?_⟩) hb9 ?_
          · intro w' _
            go_simp
          refine anyT_take 8 [] (.bool false) rfl (by kernel_rfl) (by kernel_rfl) (by kernel_rfl) (by kernel_rfl) (by kernel_rfl) (fun _ _ _ h => h) (Or.inl ⟨by kernel_rfl, ?_⟩) hb9 ?_
          · intro w' _
            go_simp
          refine anyT_take 9 [] (.bool false) rfl (by kernel_rfl) (by kernel_rfl) (by kernel_rfl) (by kernel_rfl) (by kernel_rfl) (fun _ _ _ h => h) (Or.inl ⟨by kernel_rfl, ?_⟩) hb9 ?_
          · intro w' _
            go_simp
          refine anyT_take 10 [] (.int .i64 (m : Int)) rfl (by kernel_rfl) (by kernel_rfl) (by kernel_rfl) (by kernel_rfl) (by kernel_rfl) (fun _ _ _ h => h) (Or.inl ⟨by kernel_rfl, ?_⟩) hb9 ?_
          · intro w' _
            go_simp
          refine anyT_take 11 [] (.pointer (some ⟨S, 0, none⟩)) rfl (by kernel_rfl) (by kernel_rfl) (by kernel_rfl) (by kernel_rfl) (by kernel_rfl) (fun _ _ _ h => h) (Or.inl ⟨by kernel_rfl, ?_⟩) hb9 ?_
          · intro w' _
            go_simp
          refine anyT_ready [12] (by kernel_rfl) (by simp) ?_
          refine EachT.cons rfl (fun K hK => ?_) EachT.nil
          simp only [List.getElem_toArray, List.getElem_cons_zero, List.getElem_cons_succ]
          go_simp
          refine (hdn _ hb9).mono ?_
          rintro e w10 ⟨rfl, hb10'⟩
          have hb10 : Below w8.heap.size w8 w10 := hb9.trans (hb10'.mono hb9.size)
          (try go_wp2_with fail)
          refine hK.out _ _ (fun _ => hb10) ?_
          clear hK K
          refine anyT_take 13 [] (.bool false) rfl (by kernel_rfl) (by kernel_rfl) (by kernel_rfl) (by kernel_rfl) (by kernel_rfl) (fun _ _ _ h => h) (Or.inl ⟨by kernel_rfl, ?_⟩) hb10 ?_
          · intro w' _
            go_simp
          refine anyT_take 14 [] (.bool false) rfl (by kernel_rfl) (by kernel_rfl) (by kernel_rfl) (by kernel_rfl) (by kernel_rfl) (fun _ _ _ h => h) (Or.inl ⟨by kernel_rfl, ?_⟩) hb10 ?_
          · intro w' _
            go_simp
          refine anyT_take 15 [] (.bool false) rfl (by kernel_rfl) (by kernel_rfl) (by kernel_rfl) (by kernel_rfl) (by kernel_rfl) (fun _ _ _ h => h) (Or.inl ⟨by kernel_rfl, ?_⟩) hb10 ?_
          · intro w' _
            go_simp
          refine anyT_take 16 [] (.agg #[.int .i64 (s 0), .int .i64 (s 1), .int .i64 (s 2), .int .i64 (s 3), .int .i64 (s 4), .int .i64 (s 5), .int .i64 (s 6), .int .i64 (s 7), .int .i64 (s 8), .int .i64 (s 9)]) rfl (by kernel_rfl) (by kernel_rfl) (by kernel_rfl) (by kernel_rfl) (by kernel_rfl) (fun _ _ _ h => h) (Or.inl ⟨by kernel_rfl, ?_⟩) hb10 ?_
          · intro w' hb'
            have z0 := cell_later hb' y0
            have z1 := cell_later hb' y1
            have z2 := cell_later hb' y2
            have z3 := cell_later hb' y3
            have z4 := cell_later hb' y4
            have z5 := cell_later hb' y5
            have z6 := cell_later hb' y6
            have z7 := cell_later hb' y7
            have z8 := cell_later hb' y8
            have z9 := cell_later hb' y9
            go_simp
          refine anyT_take 17 [] (.pointer (some ⟨S, 0, none⟩)) rfl (by kernel_rfl) (by kernel_rfl) (by kernel_rfl) (by kernel_rfl) (by kernel_rfl) (fun _ _ _ h => h) (Or.inl ⟨by kernel_rfl, ?_⟩) hb10 ?_
          · intro w' _
            go_simp
          refine anyT_ready [18] (by kernel_rfl) (by simp) ?_
          refine EachT.cons rfl (fun K hK => ?_) EachT.nil
          simp only [List.getElem_toArray, List.getElem_cons_zero, List.getElem_cons_succ]
          go_simp
          refine (hst _ hb10).mono ?_
          rintro e w11 ⟨rfl, hb11'⟩
          have hb11 : Below w8.heap.size w8 w11 := hb10.trans (hb11'.mono hb10.size)
          (try go_wp2_with fail)
          refine hK.out _ _ (fun _ => hb11) ?_
          clear hK K
          refine anyT_take 19 [] (.bool false) rfl (by kernel_rfl) (by kernel_rfl) (by kernel_rfl) (by kernel_rfl) (by kernel_rfl) (fun _ _ _ h => h) (Or.inl ⟨by kernel_rfl, ?_⟩) hb11 ?_
          · intro w' _
            go_simp
          refine anyT_take 20 [] (.bool false) rfl (by kernel_rfl) (by kernel_rfl) (by kernel_rfl) (by kernel_rfl) (by kernel_rfl) (fun _ _ _ h => h) (Or.inl ⟨by kernel_rfl, ?_⟩) hb11 ?_
          · intro w' _
            go_simp
          refine anyT_take 21 [] (.bool false) rfl (by kernel_rfl) (by kernel_rfl) (by kernel_rfl) (by kernel_rfl) (by kernel_rfl) (fun _ _ _ h => h) (Or.inl ⟨by kernel_rfl, ?_⟩) hb11 ?_
          · intro w' _
            go_simp
          refine anyT_take 22 [] (.slice la (lastR x m).length lcap) rfl (by kernel_rfl) (by kernel_rfl) (by kernel_rfl) (by kernel_rfl) (by kernel_rfl) (fun _ _ _ h => h) (Or.inl ⟨by kernel_rfl, ?_⟩) hb11 ?_
          · intro w' _
            go_simp
          refine anyT_take 23 [] (.pointer (some ⟨S, 0, none⟩)) rfl (by kernel_rfl) (by kernel_rfl) (by kernel_rfl) (by kernel_rfl) (by kernel_rfl) (fun _ _ _ h => h) (Or.inl ⟨by kernel_rfl, ?_⟩) hb11 ?_
          · intro w' _
            go_simp
          refine anyT_ready [24] (by kernel_rfl) (by simp) ?_
          refine EachT.cons rfl (fun K hK => ?_) EachT.nil
          simp only [List.getElem_toArray, List.getElem_cons_zero, List.getElem_cons_succ]
          go_simp
          refine (hla _ hb11).mono ?_
          rintro e w12 ⟨⟨u5, rfl, hU5⟩, hb12'⟩
          have hb12 : Below w8.heap.size w8 w12 := hb11.trans (hb12'.mono hb11.size)
          (try go_wp2_with fail)
          refine hK.out _ _ (fun _ => hb12) ?_
          clear hK K
          refine anyT_ready [25] (by kernel_rfl) (by simp) ?_
          refine EachT.cons rfl (fun K hK => ?_) EachT.nil
          simp only [List.getElem_toArray, List.getElem_cons_zero, List.getElem_cons_succ]
          go_simp
          refine (hsr _ u5 hb12 hU5).mono ?_
          rintro e w13 ⟨rfl, hb13'⟩
          have hb13 : Below w8.heap.size w8 w13 := hb12.trans (hb13'.mono hb12.size)
          (try go_wp2_with fail)
          refine hK.out _ _ (fun _ => hb13) ?_
          clear hK K
          refine anyT_take 26 [] (.bool false) rfl (by kernel_rfl) (by kernel_rfl) (by kernel_rfl) (by kernel_rfl) (by kernel_rfl) (fun _ _ _ h => h) (Or.inl ⟨by kernel_rfl, ?_⟩) hb13 ?_
          · intro w' _
            go_simp
          refine anyT_take 27 [] (.bool false) rfl (by kernel_rfl) (by kernel_rfl) (by kernel_rfl) (by kernel_rfl) (by kernel_rfl) (fun _ _ _ h => h) (Or.inl ⟨by kernel_rfl, ?_⟩) hb13 ?_
          · intro w' _
            go_simp
          refine anyT_done (by kernel_rfl) ?_
          go_wp2_with fail
          go_roundg (l.length - (j + 1))
          case measure => omega
          case rel => exact ⟨j + 1, _, _, _, by omega, rfl, by go_num, StAt.later HST.out hb13, hB8.trans (hb13.mono hB8.size)⟩
      · obtain rfl : j = l.length := by omega
        clear hs
        have hBw : Below w.heap.size w wr := hB2.trans (hB.mono hB2.size)
        clear hSt
        go_wp2_with fail
        go_ret
        exact ⟨rfl, hBw⟩
end Go.Proofs.YtihfjmdjjeciiacDoor
