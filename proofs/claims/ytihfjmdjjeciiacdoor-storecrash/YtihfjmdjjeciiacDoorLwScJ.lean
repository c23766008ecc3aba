/-
  The walk of the law StoreCrash.
-/
import Derived.Test.YtihfjmdjjeciiacDoorBegQJ
import Derived.Test.YtihfjmdjjeciiacDoorGrtQJ
import Derived.Laws.OwnMore
namespace Go.Proofs.YtihfjmdjjeciiacDoor
open Go.RowKit Go.Shelf

/-- A state, cell by cell; the states behind the first rounds. -/
def tenV (s : Nat → Int) : List Value := [.int .i64 (s 0), .int .i64 (s 1), .int .i64 (s 2), .int .i64 (s 3), .int .i64 (s 4), .int .i64 (s 5), .int .i64 (s 6), .int .i64 (s 7), .int .i64 (s 8), .int .i64 (s 9)]
def stRow (x : List (List (List Op5))) : Nat → List Value
  | 0 => []
  | n + 1 => stRow x n ++ tenV (stN x n)
theorem tenV_at (s : Nat → Int) : ∀ i, i < 10 → (tenV s)[i]? = some (.int .i64 (s i)) := lt10 rfl rfl rfl rfl rfl rfl rfl rfl rfl rfl
theorem tenV_one (s : Nat → Int) : ∀ u ∈ tenV s, u.oneCell' = true := by
  intro u hu
  obtain ⟨i, hi, rfl⟩ := List.mem_iff_getElem.1 hu
  have hi' : i < 10 := by simpa [tenV] using hi
  have h := tenV_at s i hi'
  rw [List.getElem?_eq_getElem hi] at h
  rw [Option.some.inj h]; rfl
theorem stRow_length (x : List (List (List Op5))) (n : Nat) : (stRow x n).length = n * 10 := by
  induction n with
  | zero => rfl
  | succ n ih => simp only [stRow, List.length_append, ih, tenV, List.length_cons, List.length_nil]; omega
theorem stRow_at (x : List (List (List Op5))) : ∀ n i, i < n → ∀ c, c < 10 → (stRow x n)[i * 10 + c]? = some (.int .i64 (stN x i c))
  | 0, i, h, _, _ => absurd h (by omega)
  | n + 1, i, h, c, hc => by
    have hl := stRow_length x n
    simp only [stRow]
    by_cases e : i = n
    · subst e
      rw [List.getElem?_append_right (by omega), hl, show i * 10 + c - i * 10 = c by omega]
      exact tenV_at _ c hc
    · rw [List.getElem?_append_left (by omega)]
      exact stRow_at x n i (by omega) c hc
theorem infoSt : (Tryd.prog.info? 71).map (fun i => (i.zero, i.size, i.bytes)) = some (some (.agg #[.int .i64 0, .int .i64 0, .int .i64 0, .int .i64 0, .int .i64 0, .int .i64 0, .int .i64 0, .int .i64 0, .int .i64 0, .int .i64 0]), 10, 80) := by kernel_rfl
theorem stepQ_crash (x : List (List (List Op5))) (k m : Nat) (keep : Int) : stepQ x k m ⟨4, [], [], keep⟩ = ⟨0, x.take (wholeF x k (max keep 0)), wholeF x k (max keep 0), wholeF x k (max keep 0)⟩ := by simp [stepQ]
theorem stepQ_again {x : List (List (List Op5))} {n : Nat} (h : n ≤ x.length) : stepQ (x.take n) n n ⟨4, [], [], -1⟩ = ⟨0, x.take n, n, n⟩ := by
  have e : wholeF (x.take n) n (max (-1) 0) = n := whole_none (by simp; omega)
  rw [stepQ_crash, e, List.take_take, Nat.min_self]
theorem below_of_sameC {f : FuncId} {args : Array Value} {w : World} {p : Ending → Prop} (h : Calls Tryd.prog f args w fun e w' => p e ∧ w' = w) : Calls Tryd.prog f args w fun e w' => p e ∧ Below w.heap.size w w' := h.mono fun _ w' ⟨h1, h2⟩ => ⟨h1, by rw [h2]; exact Below.refl _ _⟩

set_option maxRecDepth 100000 in
set_option maxHeartbeats 4000000 in
theorem storeCrashLaw_any {v : Value} {l : List QStep} {w : World} (keep : Int) (hl : StepsQ w v l) (hf : FitsQ l) (hL : Lim w) :
    Calls Tryd.prog 11 #[v, .int .i64 keep] w fun e w' => e = .returned (.bool true) ∧ Below w.heap.size w w' := by
  obtain ⟨i0, hi, hz0, hz1, hz2⟩ := info_parts infoSt
  have hm := hf.1
  go_enter Tryd.func11, Tryd.ntmps11
  go_wp2_with fail
  refine (begunQ_any w hL).mono ?_
  rintro e w1 ⟨rfl, hB1⟩
  have hl1 := hl.later hB1
  go_wp2_with fail
  refine (greatQ_any hl1 hf).mono ?_
  rintro e w2 ⟨⟨g, rfl⟩, hb2⟩
  have hB2 : Below w.heap.size w w2 := hB1.trans (hb2.mono hB1.size)
  have hl2 := hl1.later hb2
  clear hl1 hb2
  cases g with
  | true =>
    go_wp2_with fail
    go_ret
    exact ⟨rfl, hB2⟩
  | false =>
    have hL2 := hL.later hB2
    have hp2 := hL2.pos
    go_wp2_with fail
    refine (stNew_any w2).mono ?_
    rintro e w3 ⟨S, rfl, h3, hb3⟩
    obtain ⟨a, cap, rfl, hs⟩ := hl2
    go_wp2_with fail
    go_loopg [6] l.length (fun g i wr => ∃ (j : Nat) (x : List (List (List Op5))) (k m : Nat), j ≤ l.length ∧ g = l.length - j ∧ i = .int .i64 (j : Int) ∧ StAt (fun b => w2.heap.size ≤ b) wr S x k m ∧ Below w2.heap.size w2 wr)
    case atStart => exact ⟨0, _, _, _, by omega, by omega, rfl, h3, hb3⟩
    case round =>
      obtain ⟨j, x, k, m, hj, hg, rfl, hSt, hB⟩ := hrel
      clear h3 hb3
      have hz := hB.size
      by_cases hlt : j < l.length
      · have hlti : (j : Int) < (l.length : Int) := by omega
        obtain ⟨b, off, rfl, q0, ⟨rv, q1, hRd⟩, ⟨pv, q2, hNu⟩, q3⟩ := hs j hlt
        have HS : Hid (∀ i (h : i < l.length), ∃ b' off', some (⟨b, off, none⟩ : Addr) = some ⟨b', off', none⟩ ∧ w2.cell? ⟨b', off' + i * 4, none⟩ = some (.int .i64 l[i].k) ∧ (∃ rv, w2.cell? ⟨b', off' + i * 4 + 1, none⟩ = some rv ∧ RoundAt w2 rv l[i].r) ∧ (∃ pv, w2.cell? ⟨b', off' + i * 4 + 2, none⟩ = some pv ∧ NumsAt w2 pv l[i].p) ∧ w2.cell? ⟨b', off' + i * 4 + 3, none⟩ = some (.int .i64 l[i].keep)) := hs
        clear hs
        replace q0 := cell_later hB q0
        replace q1 := cell_later hB q1
        replace q2 := cell_later hB q2
        replace q3 := cell_later hB q3
        have hdo := stDo_any (x := l[j]) hSt (hRd.later hB) (hf.2 j hlt).1 (hf.2 j hlt).2.1 (hNu.later hB) (hL2.later hB) (fun h0 => by omega)
        obtain ⟨ra, rcap, rfl, -⟩ := hRd
        obtain ⟨pa, pcap, rfl, -⟩ := hNu
        clear hSt
        generalize l[j] = y at *
        obtain ⟨yk, yr, yp, ykeep⟩ := y
        dsimp only at *
        go_wp2_with fail
        refine hdo.mono ?_
        rintro e w4 ⟨rfl, hSn, hG⟩
        clear hdo q0 q1 q2 q3
        have hBn : Below w2.heap.size w2 w4 := hG.below hB hz fun b hb => hb
        have hSn' : StAt (fun b => w2.heap.size ≤ b) w4 S (stepQ x k m ⟨yk, yr, yp, ykeep⟩).l (stepQ x k m ⟨yk, yr, yp, ykeep⟩).k (stepQ x k m ⟨yk, yr, yp, ykeep⟩).m := hSn.mono fun b _ hb => hb.elim id fun h => by omega
        clear hSn hG
        go_wp2_with fail
        go_roundg (l.length - (j + 1))
        case measure => omega
        case rel => exact ⟨j + 1, _, _, _, by omega, rfl, by go_num, hSn', hBn⟩
      · obtain rfl : j = l.length := by omega
        clear hs
        have hSP : StAt (fun b => w2.heap.size ≤ b ∧ b < wr.heap.size) wr S x k m := hSt.mono fun b hb hp => ⟨hp, hb⟩
        have ho := hSt.ok
        have hfx := ho.few
        have hks := ho.sure
        obtain ⟨C, vl, hR⟩ := id hSP
        have c0 := hR.c0
        have hsu := hR.sure_any
        have hln : ∀ w', Below wr.heap.size wr w' → Calls Tryd.prog 22 #[.pointer (some ⟨C, 0, none⟩)] w' fun e w'' => e = .returned (.int .i64 (x.length : Int)) ∧ Below w'.heap.size w' w'' := fun w' hb => below_of_sameC (logLen_any (hR.log.later hb))
        clear hR hSt
        go_wp2_with fail
        refine wp_region_till (S := fun w' => Below wr.heap.size wr w') (fun _ => false) (by kernel_rfl) ((Below.refl _ _).drew) (fun hS => ?_)
        refine anyT_take 0 [] (.pointer (some ⟨S, 0, none⟩)) rfl (by kernel_rfl) (by kernel_rfl) (by kernel_rfl) (by kernel_rfl) (by kernel_rfl) (fun _ _ _ h => h) (Or.inl ⟨by kernel_rfl, ?_⟩) hS ?_
        · intro w' _
          go_simp
        refine anyT_take 1 [] (.pointer (some ⟨S, 0, none⟩)) rfl (by kernel_rfl) (by kernel_rfl) (by kernel_rfl) (by kernel_rfl) (by kernel_rfl) (fun _ _ _ h => h) (Or.inl ⟨by kernel_rfl, ?_⟩) hS ?_
        · intro w' _
          go_simp
        refine anyT_take 2 [] (.pointer (some ⟨S, 0, none⟩)) rfl (by kernel_rfl) (by kernel_rfl) (by kernel_rfl) (by kernel_rfl) (by kernel_rfl) (fun _ _ _ h => h) (Or.inl ⟨by kernel_rfl, ?_⟩) hS ?_
        · intro w' _
          go_simp
        refine anyT_take 3 [] (.pointer (some ⟨C, 0, none⟩)) rfl (by kernel_rfl) (by kernel_rfl) (by kernel_rfl) (by kernel_rfl) (by kernel_rfl) (fun _ _ _ h => h) (Or.inl ⟨by kernel_rfl, ?_⟩) hS ?_
        · intro w' hb'
          have z0 := cell_later hb' c0
          go_simp
        refine anyT_take 5 [] (.pointer (some ⟨S, 0, none⟩)) rfl (by kernel_rfl) (by kernel_rfl) (by kernel_rfl) (by kernel_rfl) (by kernel_rfl) (fun _ _ _ h => h) (Or.inl ⟨by kernel_rfl, ?_⟩) hS ?_
        · intro w' _
          go_simp
        refine anyT_take 6 [] (.pointer (some ⟨S, 0, none⟩)) rfl (by kernel_rfl) (by kernel_rfl) (by kernel_rfl) (by kernel_rfl) (by kernel_rfl) (fun _ _ _ h => h) (Or.inl ⟨by kernel_rfl, ?_⟩) hS ?_
        · intro w' _
          go_simp
        refine anyT_take 7 [] (.pointer (some ⟨S, 0, none⟩)) rfl (by kernel_rfl) (by kernel_rfl) (by kernel_rfl) (by kernel_rfl) (by kernel_rfl) (fun _ _ _ h => h) (Or.inl ⟨by kernel_rfl, ?_⟩) hS ?_
        · intro w' _
          go_simp
        refine anyT_take 8 [] (.pointer (some ⟨C, 0, none⟩)) rfl (by kernel_rfl) (by kernel_rfl) (by kernel_rfl) (by kernel_rfl) (by kernel_rfl) (fun _ _ _ h => h) (Or.inl ⟨by kernel_rfl, ?_⟩) hS ?_
        · intro w' hb'
          have z0 := cell_later hb' c0
          go_simp
        refine anyT_ready [4] (by kernel_rfl) (by simp) ?_
        refine EachT.cons rfl (fun K hK => ?_) EachT.nil
        simp only [List.getElem_toArray, List.getElem_cons_zero, List.getElem_cons_succ]
        go_simp
        refine (hsu _ hS).mono ?_
        rintro e w4 ⟨rfl, hb4'⟩
        have hb4 : Below wr.heap.size wr w4 := hS.trans (hb4'.mono hS.size)
        (try go_wp2_with fail)
        refine hK.out _ _ (fun _ => hb4) ?_
        clear hK K
        refine anyT_ready [9] (by kernel_rfl) (by simp) ?_
        refine EachT.cons rfl (fun K hK => ?_) EachT.nil
        simp only [List.getElem_toArray, List.getElem_cons_zero, List.getElem_cons_succ]
        go_simp
        refine (hln _ hb4).mono ?_
        rintro e w5 ⟨rfl, hb5'⟩
        have hb5 : Below wr.heap.size wr w5 := hb4.trans (hb5'.mono hb4.size)
        (try go_wp2_with fail)
        refine hK.out _ _ (fun _ => hb5) ?_
        clear hK K
        refine anyT_take 10 [] (.int .i64 (k : Int)) rfl (by kernel_rfl) (by kernel_rfl) (by kernel_rfl) (by kernel_rfl) (by kernel_rfl) (fun _ _ _ h => h) (Or.inl ⟨by kernel_rfl, ?_⟩) hb5 ?_
        · intro w' _
          go_simp
        refine anyT_take 11 [] (.int .i64 (x.length : Int)) rfl (by kernel_rfl) (by kernel_rfl) (by kernel_rfl) (by kernel_rfl) (by kernel_rfl) (fun _ _ _ h => h) (Or.inl ⟨by kernel_rfl, ?_⟩) hb5 ?_
        · intro w' _
          go_simp
        refine anyT_done (by kernel_rfl) ?_
        clear hsu hln c0
        have h5 := hSP.later hb5
        have hB5 : Below w2.heap.size w2 w5 := hB.trans (hb5.mono hz)
        have hz5 := hb5.size
        have hz25 := hB5.size
        clear hSP hb5 hB
        obtain ⟨N1, eN1⟩ : ∃ N1, N1 = wr.heap.size := ⟨_, rfl⟩
        rw [← eN1] at h5 hz5
        clear eN1
        go_wp2_with fail
        go_loopg [9, 10] (x.length + 1) (fun g v i wq => ∃ n : Nat, n ≤ x.length + 1 ∧ g = x.length + 1 - n ∧ i = .int .i64 (n : Int) ∧ wq.ownsRow w5.heap.size 71 10 v n (stRow x n) ∧ Below w5.heap.size w5 wq)
        case atStart => exact ⟨0, by omega, by omega, rfl, World.ownsRow_nil _ _ _ _, Below.refl _ _⟩
        case round =>
          obtain ⟨n, hn, hgn, rfl, hO, hBq⟩ := hrel
          have hzq := hBq.size
          by_cases hnl : n ≤ x.length
          · have hni : (n : Int) ≤ (x.length : Int) := by omega
            have hth := stThen_any (n := n) (h5.later hBq) hnl (hL2.later (hB5.trans (hBq.mono (by omega))))
            simp only [stV] at hth
            obtain ⟨s, es⟩ : ∃ s, s = stN x n := ⟨_, rfl⟩
            rw [← es] at hth
            have HR : Hid (stRow x (n + 1) = stRow x n ++ tenV s) := by show _ = _; rw [es]; rfl
            obtain ⟨va, vcap, rfl, -⟩ := owns_slice hO
            clear es
            go_wp2_with fail
            refine hth.mono ?_
            rintro e w6 ⟨rfl, hb6⟩
            clear hth
            have hbA : Below w6.heap.size w6 ((w6.alloc (.cells #[.int .i64 (s 0), .int .i64 (s 1), .int .i64 (s 2), .int .i64 (s 3), .int .i64 (s 4), .int .i64 (s 5), .int .i64 (s 6), .int .i64 (s 7), .int .i64 (s 8), .int .i64 (s 9)] 71)).alloc (.cells #[.int .i64 (s 0), .int .i64 (s 1), .int .i64 (s 2), .int .i64 (s 3), .int .i64 (s 4), .int .i64 (s 5), .int .i64 (s 6), .int .i64 (s 7), .int .i64 (s 8), .int .i64 (s 9)] 71)) := ((Below.refl _ _).alloc (Nat.le_refl _) _).alloc (by simp) _
            have hbq := hb6.trans (hbA.mono hb6.size)
            have hO6 := owns_below hO hbq
            have hB6 := hBq.trans (hbq.mono hzq)
            have HN : Hid (∀ j u, (tenV s)[j]? = some u → ((w6.alloc (.cells #[.int .i64 (s 0), .int .i64 (s 1), .int .i64 (s 2), .int .i64 (s 3), .int .i64 (s 4), .int .i64 (s 5), .int .i64 (s 6), .int .i64 (s 7), .int .i64 (s 8), .int .i64 (s 9)] 71)).alloc (.cells #[.int .i64 (s 0), .int .i64 (s 1), .int .i64 (s 2), .int .i64 (s 3), .int .i64 (s 4), .int .i64 (s 5), .int .i64 (s 6), .int .i64 (s 7), .int .i64 (s 8), .int .i64 (s 9)] 71)).cell? ((⟨w6.heap.size + 1, 0, none⟩ : Addr).add j) = some u) := fun j u hj => by
              have hj' : j < 10 := by have := (List.getElem?_eq_some_iff.1 hj).1; simpa [tenV] using this
              rw [addr_add, Nat.zero_add]
              have hb := box_new (w6.alloc (.cells #[.int .i64 (s 0), .int .i64 (s 1), .int .i64 (s 2), .int .i64 (s 3), .int .i64 (s 4), .int .i64 (s 5), .int .i64 (s 6), .int .i64 (s 7), .int .i64 (s 8), .int .i64 (s 9)] 71)) s j hj'
              rw [tenV_at s j hj'] at hj
              rw [← hj]
              simpa using hb
            clear hO hb6 hbA hbq
            go_wp2_with (at_builtin; refine wpList_append_own _ rfl _ _ 91 rfl w5.heap.size 71 i0 (.agg #[.int .i64 0, .int .i64 0, .int .i64 0, .int .i64 0, .int .i64 0, .int .i64 0, .int .i64 0, .int .i64 0, .int .i64 0, .int .i64 0]) 10 80 Tryd.underlying91 hi hz0 hz1 hz2 rfl (by decide) _ n (stRow x n) rfl hO6 ⟨w6.heap.size + 1, 0, none⟩ 1 1 (tenV s) rfl rfl HN.out (tenV_one _) (by unfold maxLen; omega) (by omega) hB6.size ?_; intro v7 w7 hO7 hgrow7 hnil7; have hB7 := hB6.grown hgrow7 hB6.size (fun k hk => (owns_lt hO6 hk).1); clear hO6 hgrow7 hnil7; obtain ⟨va7, vcap7, rfl, -⟩ := owns_slice hO7)
            go_roundg (x.length + 1 - (n + 1))
            case measure => omega
            case rel => exact ⟨n + 1, by omega, rfl, by go_num, by rw [HR.out]; exact hO7, hB7⟩
          · obtain rfl : n = x.length + 1 := by omega
            have hB6 : Below w2.heap.size w2 wr := hB5.trans (hBq.mono (by omega))
            have h6 := h5.later hBq
            have hni : ¬ ((x.length + 1 : Nat) : Int) ≤ (x.length : Int) := by omega
            obtain ⟨g, vcap, rfl, hcell⟩ := owns_cells hO (by omega)
            have hgl := owns_lt hO (g := g) rfl
            have hz6 := hB6.size
            have hgP : ¬ ((w2.heap.size ≤ g ∧ g < N1) ∨ wr.heap.size ≤ g) := by omega
            have hdo := stDo_any (x := ⟨4, [], [], keep⟩) h6 (round_zero _) fitsQ0 r64Q0 (nums_zero _) (hL2.later hB6) (fun h0 => by have := h0.1; omega)
            rw [stepQ_crash] at hdo
            dsimp only at hdo
            have hw := whole_ge (l := x) (k := k) (m := max keep 0) hks (by omega)
            have hwl := whole_le x k (max keep 0)
            have HAg : Hid (stepQ (x.take (wholeF x k (max keep 0))) (wholeF x k (max keep 0)) (wholeF x k (max keep 0)) ⟨4, [], [], -1⟩ = ⟨0, x.take (wholeF x k (max keep 0)), wholeF x k (max keep 0), wholeF x k (max keep 0)⟩) := stepQ_again hwl
            generalize wholeF x k (max keep 0) = n at *
            have HC : Hid (∀ c, c < 10 → wr.cell? ⟨g, n * 10 + c, none⟩ = some (.int .i64 (stN x n c))) := fun c hc => hcell _ _ (stRow_at x (x.length + 1) n (by omega) c hc)
            have HES : Hid (stN (x.take n) n = stN x n) := (alike_take (Nat.le_refl _)).st
            have hlen : (x.take n).length = n := by simp; omega
            clear hcell hO h5
            go_wp2_with fail
            refine hdo.mono ?_
            rintro e w7 ⟨rfl, h7, hG7⟩
            clear hdo h6
            have hB7 : Below w2.heap.size w2 w7 := hG7.below hB6 hz6 fun b hb => hb.1
            have hdn := stDone_any h7
            obtain ⟨s, es⟩ : ∃ s, s = stN x n := ⟨_, rfl⟩
            have HX : Hid (∀ c, c < 10 → w7.cell? ⟨g, n * 10 + c, none⟩ = some (.int .i64 (s c))) := fun c hc => by rw [es]; exact hG7.cell (HC.out c hc) (fun hp => hgP (.inl hp))
            obtain ⟨C', vl', hR⟩ := id h7
            have c0 := hR.c0
            have hsu := hR.sure_any
            have hln : ∀ w', Below w7.heap.size w7 w' → Calls Tryd.prog 22 #[.pointer (some ⟨C', 0, none⟩)] w' fun e w'' => e = .returned (.int .i64 (n : Int)) ∧ Below w'.heap.size w' w'' := fun w' hb => by
              have := below_of_sameC (logLen_any (hR.log.later hb))
              rw [hlen] at this
              exact this
            have hst : ∀ w', Below w7.heap.size w7 w' → Calls Tryd.prog 39 #[.pointer (some ⟨S, 0, none⟩)] w' fun e w'' => e = .returned (stV s) ∧ Below w'.heap.size w' w'' := fun w' hb => by
              have := stState_any (h7.later hb)
              rw [HES.out, ← es] at this
              exact this
            simp only [stV] at hst
            have hee := eq38 s
            have HE : Hid (s = stN x n) := es
            have y0 : w7.cell? ⟨g, n * 10, none⟩ = some (.int .i64 (s 0)) := HX.out 0 (by omega)
            have y1 := HX.out 1 (by omega)
            have y2 := HX.out 2 (by omega)
            have y3 := HX.out 3 (by omega)
            have y4 := HX.out 4 (by omega)
            have y5 := HX.out 5 (by omega)
            have y6 := HX.out 6 (by omega)
            have y7 := HX.out 7 (by omega)
            have y8 := HX.out 8 (by omega)
            have y9 := HX.out 9 (by omega)
            have HST : Hid (StAt (fun b => (w2.heap.size ≤ b ∧ b < N1) ∨ wr.heap.size ≤ b) w7 S (x.take n) n n) := h7
            clear hR h7 es HC hG7
            go_wp2_with fail
            refine hdn.mono ?_
            rintro e w7' ⟨rfl, hw7⟩
            rw [hw7]
            clear hdn hw7
            have t1 : ¬ (n : Int) < (k : Int) := by omega
            have t2 : ¬ (x.length : Int) < (n : Int) := by omega
            have t3 : (n : Int) < ((x.length + 1 : Nat) : Int) := by omega
            have t4 : ¬ n < k := by omega
            have t5 : ¬ x.length < n := by omega
            go_wp2_with fail
            refine wp_region_till (S := fun w' => Below w7.heap.size w7 w') (fun _ => false) (by kernel_rfl) ((Below.refl _ _).drew) (fun hS => ?_)
            refine anyT_take 0 [] (.int .i64 (n : Int)) rfl (by kernel_rfl) (by kernel_rfl) (by kernel_rfl) (by kernel_rfl) (by kernel_rfl) (fun _ _ _ h => h) (Or.inl ⟨by kernel_rfl, ?_⟩) hS ?_
            · intro w' _
              go_simp
            refine anyT_take 1 [] (.int .i64 (k : Int)) rfl (by kernel_rfl) (by kernel_rfl) (by kernel_rfl) (by kernel_rfl) (by kernel_rfl) (fun _ _ _ h => h) (Or.inl ⟨by kernel_rfl, ?_⟩) hS ?_
            · intro w' _
              go_simp
            refine anyT_take 2 [] (.bool false) rfl (by kernel_rfl) (by kernel_rfl) (by kernel_rfl) (by kernel_rfl) (by kernel_rfl) (fun _ _ _ h => h) (Or.inl ⟨by kernel_rfl, ?_⟩) hS ?_
            · intro w' _
              go_simp
            refine anyT_take 3 [] (.bool false) rfl (by kernel_rfl) (by kernel_rfl) (by kernel_rfl) (by kernel_rfl) (by kernel_rfl) (fun _ _ _ h => h) (Or.inl ⟨by kernel_rfl, ?_⟩) hS ?_
            · intro w' _
              go_simp
            refine anyT_take 4 [] (.int .i64 (n : Int)) rfl (by kernel_rfl) (by kernel_rfl) (by kernel_rfl) (by kernel_rfl) (by kernel_rfl) (fun _ _ _ h => h) (Or.inl ⟨by kernel_rfl, ?_⟩) hS ?_
            · intro w' _
              go_simp
            refine anyT_take 5 [] (.int .i64 (x.length : Int)) rfl (by kernel_rfl) (by kernel_rfl) (by kernel_rfl) (by kernel_rfl) (by kernel_rfl) (fun _ _ _ h => h) (Or.inl ⟨by kernel_rfl, ?_⟩) hS ?_
            · intro w' _
              go_simp
            refine anyT_take 6 [] (.bool false) rfl (by kernel_rfl) (by kernel_rfl) (by kernel_rfl) (by kernel_rfl) (by kernel_rfl) (fun _ _ _ h => h) (Or.inl ⟨by kernel_rfl, ?_⟩) hS ?_
            · intro w' _
              go_simp
            refine anyT_take 7 [] (.bool false) rfl (by kernel_rfl) (by kernel_rfl) (by kernel_rfl) (by kernel_rfl) (by kernel_rfl) (fun _ _ _ h => h) (Or.inl ⟨by kernel_rfl, ?_⟩) hS ?_
            · intro w' _
              go_simp
            refine anyT_take 8 [] (.bool false) rfl (by kernel_rfl) (by kernel_rfl) (by kernel_rfl) (by kernel_rfl) (by kernel_rfl) (fun _ _ _ h => h) (Or.inl ⟨by kernel_rfl, ?_⟩) hS ?_
            · intro w' _
              go_simp
            refine anyT_take 9 [] (.pointer (some ⟨S, 0, none⟩)) rfl (by kernel_rfl) (by kernel_rfl) (by kernel_rfl) (by kernel_rfl) (by kernel_rfl) (fun _ _ _ h => h) (Or.inl ⟨by kernel_rfl, ?_⟩) hS ?_
            · intro w' _
              go_simp
            refine anyT_take 11 [] (.slice (some ⟨g, 0, none⟩) (x.length + 1) vcap) rfl (by kernel_rfl) (by kernel_rfl) (by kernel_rfl) (by kernel_rfl) (by kernel_rfl) (fun _ _ _ h => h) (Or.inl ⟨by kernel_rfl, ?_⟩) hS ?_
            · intro w' _
              go_simp
            refine anyT_take 12 [] (.int .i64 (n : Int)) rfl (by kernel_rfl) (by kernel_rfl) (by kernel_rfl) (by kernel_rfl) (by kernel_rfl) (fun _ _ _ h => h) (Or.inl ⟨by kernel_rfl, ?_⟩) hS ?_
            · intro w' _
              go_simp
            refine anyT_take 13 [] (.pointer (some ⟨g, n * 10, none⟩)) rfl (by kernel_rfl) (by kernel_rfl) (by kernel_rfl) (by kernel_rfl) (by kernel_rfl) (fun _ _ _ h => h) (Or.inl ⟨by kernel_rfl, ?_⟩) hS ?_
            · intro w' _
              go_simp
              exact fun h => absurd h (by omega)
            refine anyT_take 14 [] (.agg #[.int .i64 (s 0), .int .i64 (s 1), .int .i64 (s 2), .int .i64 (s 3), .int .i64 (s 4), .int .i64 (s 5), .int .i64 (s 6), .int .i64 (s 7), .int .i64 (s 8), .int .i64 (s 9)]) rfl (by kernel_rfl) (by kernel_rfl) (by kernel_rfl) (by kernel_rfl) (by kernel_rfl) (fun _ _ _ h => h) (Or.inl ⟨by kernel_rfl, ?_⟩) hS ?_
            · intro w' hb'
              have z0 := cell_later hb' y0
              have z1 := cell_later hb' y1
              have z2 := cell_later hb' y2
              have z3 := cell_later hb' y3
              have z4 := cell_later hb' y4
              have z5 := cell_later hb' y5
              have z6 := cell_later hb' y6
              have z7 := cell_later hb' y7
              have z8 := cell_later hb' y8
              have z9 := cell_later hb' y9
              go_simp
            refine anyT_ready [10] (by kernel_rfl) (by simp) ?_
            refine EachT.cons rfl (fun K hK => ?_) EachT.nil
            simp only [List.getElem_toArray, List.getElem_cons_zero, List.getElem_cons_succ]
            go_simp
            refine (hst _ hS).mono ?_
            rintro e w8 ⟨rfl, hb8'⟩
            have hb8 : Below w7.heap.size w7 w8 := hS.trans (hb8'.mono hS.size)
            (try go_wp2_with fail)
            refine hK.out _ _ (fun _ => hb8) ?_
            clear hK K
            refine anyT_take 15 [] (.bool false) rfl (by kernel_rfl) (by kernel_rfl) (by kernel_rfl) (by kernel_rfl) (by kernel_rfl) (fun _ _ _ h => h) (Or.inl ⟨by kernel_rfl, ?_⟩) hb8 ?_
            · intro w' _
              go_simp
            refine anyT_take 16 [] (.bool false) rfl (by kernel_rfl) (by kernel_rfl) (by kernel_rfl) (by kernel_rfl) (by kernel_rfl) (fun _ _ _ h => h) (Or.inl ⟨by kernel_rfl, ?_⟩) hb8 ?_
            · intro w' _
              go_simp
            refine anyT_take 17 [] (.bool false) rfl (by kernel_rfl) (by kernel_rfl) (by kernel_rfl) (by kernel_rfl) (by kernel_rfl) (fun _ _ _ h => h) (Or.inl ⟨by kernel_rfl, ?_⟩) hb8 ?_
            · intro w' _
              go_simp
            refine anyT_take 18 [] (.pointer (some ⟨S, 0, none⟩)) rfl (by kernel_rfl) (by kernel_rfl) (by kernel_rfl) (by kernel_rfl) (by kernel_rfl) (fun _ _ _ h => h) (Or.inl ⟨by kernel_rfl, ?_⟩) hb8 ?_
            · intro w' _
              go_simp
            refine anyT_take 19 [] (.pointer (some ⟨S, 0, none⟩)) rfl (by kernel_rfl) (by kernel_rfl) (by kernel_rfl) (by kernel_rfl) (by kernel_rfl) (fun _ _ _ h => h) (Or.inl ⟨by kernel_rfl, ?_⟩) hb8 ?_
            · intro w' _
              go_simp
            refine anyT_take 20 [] (.pointer (some ⟨S, 0, none⟩)) rfl (by kernel_rfl) (by kernel_rfl) (by kernel_rfl) (by kernel_rfl) (by kernel_rfl) (fun _ _ _ h => h) (Or.inl ⟨by kernel_rfl, ?_⟩) hb8 ?_
            · intro w' _
              go_simp
            refine anyT_take 21 [] (.pointer (some ⟨C', 0, none⟩)) rfl (by kernel_rfl) (by kernel_rfl) (by kernel_rfl) (by kernel_rfl) (by kernel_rfl) (fun _ _ _ h => h) (Or.inl ⟨by kernel_rfl, ?_⟩) hb8 ?_
            · intro w' hb'
              have z0 := cell_later hb' c0
              go_simp
            refine anyT_take 23 [] (.int .i64 (n : Int)) rfl (by kernel_rfl) (by kernel_rfl) (by kernel_rfl) (by kernel_rfl) (by kernel_rfl) (fun _ _ _ h => h) (Or.inl ⟨by kernel_rfl, ?_⟩) hb8 ?_
            · intro w' _
              go_simp
            refine anyT_ready [22] (by kernel_rfl) (by simp) ?_
            refine EachT.cons rfl (fun K hK => ?_) EachT.nil
            simp only [List.getElem_toArray, List.getElem_cons_zero, List.getElem_cons_succ]
            go_simp
            refine (hln _ hb8).mono ?_
            rintro e w9 ⟨rfl, hb9'⟩
            have hb9 : Below w7.heap.size w7 w9 := hb8.trans (hb9'.mono hb8.size)
            (try go_wp2_with fail)
            refine hK.out _ _ (fun _ => hb9) ?_
            clear hK K
            refine anyT_take 24 [] (.bool false) rfl (by kernel_rfl) (by kernel_rfl) (by kernel_rfl) (by kernel_rfl) (by kernel_rfl) (fun _ _ _ h => h) (Or.inl ⟨by kernel_rfl, ?_⟩) hb9 ?_
            · intro w' _
              go_simp
            refine anyT_take 25 [] (.bool false) rfl (by kernel_rfl) (by kernel_rfl) (by kernel_rfl) (by kernel_rfl) (by kernel_rfl) (fun _ _ _ h => h) (Or.inl ⟨by kernel_rfl, ?_⟩) hb9 ?_
            · intro w' _
              go_simp
            refine anyT_take 26 [] (.bool false) rfl (by kernel_rfl) (by kernel_rfl) (by kernel_rfl) (by kernel_rfl) (by kernel_rfl) (fun _ _ _ h => h) (Or.inl ⟨by kernel_rfl, ?_⟩) hb9 ?_
            · intro w' _
              go_simp
            refine anyT_take 27 [] (.pointer (some ⟨S, 0, none⟩)) rfl (by kernel_rfl) (by kernel_rfl) (by kernel_rfl) (by kernel_rfl) (by kernel_rfl) (fun _ _ _ h => h) (Or.inl ⟨by kernel_rfl, ?_⟩) hb9 ?_
            · intro w' _
              go_simp
            refine anyT_take 28 [] (.pointer (some ⟨S, 0, none⟩)) rfl (by kernel_rfl) (by kernel_rfl) (by kernel_rfl) (by kernel_rfl) (by kernel_rfl) (fun _ _ _ h => h) (Or.inl ⟨by kernel_rfl, ?_⟩) hb9 ?_
            · intro w' _
              go_simp
            refine anyT_take 29 [] (.pointer (some ⟨S, 0, none⟩)) rfl (by kernel_rfl) (by kernel_rfl) (by kernel_rfl) (by kernel_rfl) (by kernel_rfl) (fun _ _ _ h => h) (Or.inl ⟨by kernel_rfl, ?_⟩) hb9 ?_
            · intro w' _
              go_simp
            refine anyT_take 30 [] (.pointer (some ⟨C', 0, none⟩)) rfl (by kernel_rfl) (by kernel_rfl) (by kernel_rfl) (by kernel_rfl) (by kernel_rfl) (fun _ _ _ h => h) (Or.inl ⟨by kernel_rfl, ?_⟩) hb9 ?_
            · intro w' hb'
              have z0 := cell_later hb' c0
              go_simp
            refine anyT_take 32 [] (.int .i64 (n : Int)) rfl (by kernel_rfl) (by kernel_rfl) (by kernel_rfl) (by kernel_rfl) (by kernel_rfl) (fun _ _ _ h => h) (Or.inl ⟨by kernel_rfl, ?_⟩) hb9 ?_
            · intro w' _
              go_simp
            refine anyT_ready [31] (by kernel_rfl) (by simp) ?_
            refine EachT.cons rfl (fun K hK => ?_) EachT.nil
            simp only [List.getElem_toArray, List.getElem_cons_zero, List.getElem_cons_succ]
            go_simp
            refine (hsu _ hb9).mono ?_
            rintro e w10 ⟨rfl, hb10'⟩
            have hb10 : Below w7.heap.size w7 w10 := hb9.trans (hb10'.mono hb9.size)
            (try go_wp2_with fail)
            refine hK.out _ _ (fun _ => hb10) ?_
            clear hK K
            refine anyT_take 33 [] (.bool false) rfl (by kernel_rfl) (by kernel_rfl) (by kernel_rfl) (by kernel_rfl) (by kernel_rfl) (fun _ _ _ h => h) (Or.inl ⟨by kernel_rfl, ?_⟩) hb10 ?_
            · intro w' _
              go_simp
            refine anyT_take 34 [] (.bool false) rfl (by kernel_rfl) (by kernel_rfl) (by kernel_rfl) (by kernel_rfl) (by kernel_rfl) (fun _ _ _ h => h) (Or.inl ⟨by kernel_rfl, ?_⟩) hb10 ?_
            · intro w' _
              go_simp
            refine anyT_done (by kernel_rfl) ?_
            clear hsu hln hst c0 y0 y1 y2 y3 y4 y5 y6 y7 y8 y9 t1 t2 t4 t5
            have hdo := stDo_any (x := ⟨4, [], [], -1⟩) (StAt.later HST.out hb10) (round_zero _) fitsQ0 r64Q0 (nums_zero _) (hL2.later (hB7.trans (hb10.mono hB7.size))) (fun h0 => by rcases h0 with h0 | h0 <;> omega)
            rw [HAg.out] at hdo
            dsimp only at hdo
            go_wp2_with fail
            refine hdo.mono ?_
            rintro e w11 ⟨rfl, h11, hG11⟩
            clear hdo
            have hB10 := hB7.trans (hb10.mono hB7.size)
            have hB11 : Below w2.heap.size w2 w11 := hG11.below hB10 hB10.size fun b hb => by rcases hb with hb | hb <;> omega
            have HX11 : Hid (∀ c, c < 10 → w11.cell? ⟨g, n * 10 + c, none⟩ = some (.int .i64 (s c))) := fun c hc => hG11.cell (cell_later hb10 (HX.out c hc)) (fun hp => hgP hp)
            have y0 : w11.cell? ⟨g, n * 10, none⟩ = some (.int .i64 (s 0)) := HX11.out 0 (by omega)
            have y1 := HX11.out 1 (by omega)
            have y2 := HX11.out 2 (by omega)
            have y3 := HX11.out 3 (by omega)
            have y4 := HX11.out 4 (by omega)
            have y5 := HX11.out 5 (by omega)
            have y6 := HX11.out 6 (by omega)
            have y7 := HX11.out 7 (by omega)
            have y8 := HX11.out 8 (by omega)
            have y9 := HX11.out 9 (by omega)
            have hst : ∀ w', Below w11.heap.size w11 w' → Calls Tryd.prog 39 #[.pointer (some ⟨S, 0, none⟩)] w' fun e w'' => e = .returned (stV s) ∧ Below w'.heap.size w' w'' := fun w' hb => by
              have := stState_any (h11.later hb)
              rw [HES.out, ← HE.out] at this
              exact this
            have hdn : ∀ w', Below w11.heap.size w11 w' → Calls Tryd.prog 38 #[.pointer (some ⟨S, 0, none⟩)] w' fun e w'' => e = .returned (.int .i64 (n : Int)) ∧ Below w'.heap.size w' w'' := fun w' hb => below_of_sameC (stDone_any (h11.later hb))
            simp only [stV] at hst
            clear h11 hG11
            go_wp2_with fail
            refine wp_region_till (S := fun w' => Below w11.heap.size w11 w') (fun _ => false) (by kernel_rfl) ((Below.refl _ _).drew) (fun hS => ?_)
            refine anyT_take 0 [] (.pointer (some ⟨S, 0, none⟩)) rfl (by kernel_rfl) (by kernel_rfl) (by kernel_rfl) (by kernel_rfl) (by kernel_rfl) (fun _ _ _ h => h) (Or.inl ⟨by kernel_rfl, ?_⟩) hS ?_
            · intro w' _
              go_simp
            refine anyT_take 2 [] (.int .i64 (n : Int)) rfl (by kernel_rfl) (by kernel_rfl) (by kernel_rfl) (by kernel_rfl) (by kernel_rfl) (fun _ _ _ h => h) (Or.inl ⟨by kernel_rfl, ?_⟩) hS ?_
            · intro w' _
              go_simp
            refine anyT_ready [1] (by kernel_rfl) (by simp) ?_
            refine EachT.cons rfl (fun K hK => ?_) EachT.nil
            simp only [List.getElem_toArray, List.getElem_cons_zero, List.getElem_cons_succ]
            go_simp
            refine (hdn _ hS).mono ?_
            rintro e w12 ⟨rfl, hb12'⟩
            have hb12 : Below w11.heap.size w11 w12 := hS.trans (hb12'.mono hS.size)
            (try go_wp2_with fail)
            refine hK.out _ _ (fun _ => hb12) ?_
            clear hK K
            refine anyT_take 3 [] (.bool true) rfl (by kernel_rfl) (by kernel_rfl) (by kernel_rfl) (by kernel_rfl) (by kernel_rfl) (fun _ _ _ h => h) (Or.inl ⟨by kernel_rfl, ?_⟩) hb12 ?_
            · intro w' _
              go_simp
            refine anyT_take 4 [] (.bool true) rfl (by kernel_rfl) (by kernel_rfl) (by kernel_rfl) (by kernel_rfl) (by kernel_rfl) (fun _ _ _ h => h) (Or.inl ⟨by kernel_rfl, ?_⟩) hb12 ?_
            · intro w' _
              go_simp
            refine anyT_take 5 [] (.pointer (some ⟨S, 0, none⟩)) rfl (by kernel_rfl) (by kernel_rfl) (by kernel_rfl) (by kernel_rfl) (by kernel_rfl) (fun _ _ _ h => h) (Or.inl ⟨by kernel_rfl, ?_⟩) hb12 ?_
            · intro w' _
              go_simp
            refine anyT_take 7 [] (.slice (some ⟨g, 0, none⟩) (x.length + 1) vcap) rfl (by kernel_rfl) (by kernel_rfl) (by kernel_rfl) (by kernel_rfl) (by kernel_rfl) (fun _ _ _ h => h) (Or.inl ⟨by kernel_rfl, ?_⟩) hb12 ?_
            · intro w' _
              go_simp
            refine anyT_take 8 [] (.int .i64 (n : Int)) rfl (by kernel_rfl) (by kernel_rfl) (by kernel_rfl) (by kernel_rfl) (by kernel_rfl) (fun _ _ _ h => h) (Or.inl ⟨by kernel_rfl, ?_⟩) hb12 ?_
            · intro w' _
              go_simp
            refine anyT_take 9 [] (.pointer (some ⟨g, n * 10, none⟩)) rfl (by kernel_rfl) (by kernel_rfl) (by kernel_rfl) (by kernel_rfl) (by kernel_rfl) (fun _ _ _ h => h) (Or.inl ⟨by kernel_rfl, ?_⟩) hb12 ?_
            · intro w' _
              go_simp
              exact fun h => absurd h (by omega)
            refine anyT_take 10 [] (.agg #[.int .i64 (s 0), .int .i64 (s 1), .int .i64 (s 2), .int .i64 (s 3), .int .i64 (s 4), .int .i64 (s 5), .int .i64 (s 6), .int .i64 (s 7), .int .i64 (s 8), .int .i64 (s 9)]) rfl (by kernel_rfl) (by kernel_rfl) (by kernel_rfl) (by kernel_rfl) (by kernel_rfl) (fun _ _ _ h => h) (Or.inl ⟨by kernel_rfl, ?_⟩) hb12 ?_
            · intro w' hb'
              have z0 := cell_later hb' y0
              have z1 := cell_later hb' y1
              have z2 := cell_later hb' y2
              have z3 := cell_later hb' y3
              have z4 := cell_later hb' y4
              have z5 := cell_later hb' y5
              have z6 := cell_later hb' y6
              have z7 := cell_later hb' y7
              have z8 := cell_later hb' y8
              have z9 := cell_later hb' y9
              go_simp
            refine anyT_ready [6] (by kernel_rfl) (by simp) ?_
            refine EachT.cons rfl (fun K hK => ?_) EachT.nil
            simp only [List.getElem_toArray, List.getElem_cons_zero, List.getElem_cons_succ]
            go_simp
            refine (hst _ hb12).mono ?_
            rintro e w13 ⟨rfl, hb13'⟩
            have hb13 : Below w11.heap.size w11 w13 := hb12.trans (hb13'.mono hb12.size)
            (try go_wp2_with fail)
            refine hK.out _ _ (fun _ => hb13) ?_
            clear hK K
            refine anyT_take 11 [] (.bool true) rfl (by kernel_rfl) (by kernel_rfl) (by kernel_rfl) (by kernel_rfl) (by kernel_rfl) (fun _ _ _ h => h) (Or.inl ⟨by kernel_rfl, ?_⟩) hb13 ?_
            · intro w' _
              go_simp
            refine anyT_take 12 [] (.bool true) rfl (by kernel_rfl) (by kernel_rfl) (by kernel_rfl) (by kernel_rfl) (by kernel_rfl) (fun _ _ _ h => h) (Or.inl ⟨by kernel_rfl, ?_⟩) hb13 ?_
            · intro w' _
              go_simp
            refine anyT_take 13 [] (.bool true) rfl (by kernel_rfl) (by kernel_rfl) (by kernel_rfl) (by kernel_rfl) (by kernel_rfl) (fun _ _ _ h => h) (Or.inl ⟨by kernel_rfl, ?_⟩) hb13 ?_
            · intro w' _
              go_simp
            refine anyT_done (by kernel_rfl) ?_
            go_wp2_with fail
            go_ret
            exact ⟨rfl, hB2.trans ((hB11.trans (hb13.mono hB11.size)).mono hB2.size)⟩
end Go.Proofs.YtihfjmdjjeciiacDoor
