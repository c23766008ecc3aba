/-
  The walk of the law WorkerAlone.
-/
import Derived.Test.YtjkffknipbddoabDoorLawP
import Derived.Test.YtjkffknipbddoabDoorMathA
import Derived.Test.YtjkffknipbddoabDoorSerE
import Derived.Test.YtjkffknipbddoabDoorEqA
import Derived.Deep.RegionHeld3
namespace Go.Proofs.YtjkffknipbddoabDoor
open Go.RowKit Go.Shelf

theorem alone_over (s : Nat → Int) (d : List Op5) (x : Wk) : overF (endTo (newF s [d]) x 0 (keysF d)) = true := by
  rw [overF_true]
  intro k hk
  rw [alone_table x hk, lastF_none]
  intro t ht
  rcases List.mem_cons.1 ht with rfl | ht
  · rfl
  · split at ht
    · rw [List.mem_singleton] at ht
      rw [ht]; exact (endOf_b x 0 k).2
    · simp at ht
theorem alone_known (s : Nat → Int) (d : List Op5) (x : Wk) : ∀ k, k < 10 → lastF knownP (endTo (newF s [d]) x 0 (keysF d) k) ≠ none := fun k hk h => by
  rw [alone_table x hk] at h
  have := lastF_none.1 h ⟨-1, false, false, s k⟩ (by simp)
  simp [knownP] at this
theorem alone_val {s : Nat → Int} {d : List Op5} {x : Wk} (hw : WellW d x) {k : Nat} (hk : k < 10) : valF (endTo (newF s [d]) x 0 (keysF d) k) = ovl s x k := by
  rw [alone_table x hk]
  unfold ovl
  by_cases h : storesF d k = true
  · rw [if_pos h]
    cases hi : x.is k with
    | true =>
      have e : endOf x 0 k = ⟨0, false, false, x.n k⟩ := by unfold endOf; rw [if_pos hi]
      rw [e, if_pos rfl]; rfl
    | false =>
      have e : endOf x 0 k = ⟨0, false, true, 0⟩ := by unfold endOf; rw [if_neg (by simp [hi])]
      rw [e, if_neg (by simp)]; rfl
  · rw [if_neg h]
    have hi : x.is k = false := by
      cases e : x.is k with
      | false => rfl
      | true => exact absurd (hw.stores e) h
    rw [hi, if_neg (by simp)]; rfl

theorem Box.range {w : World} {A : Nat} {s : Nat → Int} (h : Box w A s) : w.rangeAt A 0 [.int .i64 (s 0), .int .i64 (s 1), .int .i64 (s 2), .int .i64 (s 3), .int .i64 (s 4), .int .i64 (s 5), .int .i64 (s 6), .int .i64 (s 7), .int .i64 (s 8), .int .i64 (s 9)] := fun j v hv => by
  have hj : j < 10 := by have := (List.getElem?_eq_some_iff.1 hv).1; simpa using this
  rw [Nat.zero_add, h j hj]
  exact (lt10 (P := fun j => [Value.int .i64 (s 0), .int .i64 (s 1), .int .i64 (s 2), .int .i64 (s 3), .int .i64 (s 4), .int .i64 (s 5), .int .i64 (s 6), .int .i64 (s 7), .int .i64 (s 8), .int .i64 (s 9)][j]? = some (.int .i64 (s j))) rfl rfl rfl rfl rfl rfl rfl rfl rfl rfl j hj).symm.trans hv

theorem roundF_one {d : List Op5} (h : (checkF d).1 = 0) : roundF [d] = 0 := roundF_zero.2 ⟨by simp, fun x hx => by rw [List.mem_singleton.1 hx]; exact h⟩
theorem fits_one {d : List Op5} (h : d.length ≤ 14) : Fits [d] := ⟨by simp, fun i hi => by
  obtain rfl : i = 0 := by simp at hi; omega
  simp only [List.getElem_cons_zero]; omega⟩

set_option maxRecDepth 100000 in
set_option maxHeartbeats 4000000 in
theorem lone_bad (a : Option Addr) (cap : Nat) (d : List Op5) (s : Nat → Int) (w : World) (hd : DeedAt w (.slice a d.length cap) d) (hmax : d.length ≤ 9223372036854775807) (hlong : 200 < d.length ∨ ¬ (checkF d).1 = 0) (hL : Lim w) :
    Calls Tryd.prog 4 #[stV s, .slice a d.length cap] w fun e w' => e = .returned (.bool true) ∧ Below w.heap.size w w' := by
  have hdo := fun w' (hd' : DeedAt w' (.slice a d.length cap) d) (hL' : Lim w') (h0 : ¬ (checkF d).1 = 0) => do_bad (.slice a d.length cap) d s w' hd' hmax h0 hL'
  have hnone := fun w' (hd' : DeedAt w' (.slice a d.length cap) d) (hL' : Lim w') (h0 : ¬ (checkF d).1 = 0) => worker_none (.slice a d.length cap) d 0 w' hd' hmax hL' (.inl h0)
  obtain ⟨c, hc⟩ : ∃ c, c = (checkF d).1 := ⟨_, rfl⟩
  rw [← hc] at hlong hdo hnone
  clear hc
  show Calls Tryd.prog 4 #[.agg #[.int .i64 (s 0), .int .i64 (s 1), .int .i64 (s 2), .int .i64 (s 3), .int .i64 (s 4), .int .i64 (s 5), .int .i64 (s 6), .int .i64 (s 7), .int .i64 (s 8), .int .i64 (s 9)], _] w _
  have hB0 : Below w.heap.size w (w.alloc (.cells #[.int .i64 (s 0), .int .i64 (s 1), .int .i64 (s 2), .int .i64 (s 3), .int .i64 (s 4), .int .i64 (s 5), .int .i64 (s 6), .int .i64 (s 7), .int .i64 (s 8), .int .i64 (s 9)] 23)) := (Below.refl _ _).alloc (Nat.le_refl _) _
  have hX0 := box_new w s
  go_enter Tryd.func4, Tryd.ntmps4
  go_wp2_with fail
  refine (begunW_any _ (hL.later hB0)).mono ?_
  rintro e w1 ⟨rfl, hb1⟩
  have hB1 : Below w.heap.size w w1 := hB0.trans (hb1.mono (by simp))
  have hX1 := hX0.later hb1
  clear hB0 hb1 hX0
  by_cases h200 : 200 < d.length
  · have h2i : (200 : Int) < (d.length : Int) := by omega
    clear hlong hdo hnone
    go_wp2_with fail
    go_ret
    exact ⟨rfl, hB1⟩
  · have h2i : ¬ (200 : Int) < (d.length : Int) := by omega
    have h0 : ¬ c = 0 := by rcases hlong with h | h; exact absurd h h200; exact h
    have t0 : (c != 0) = true := by simp [h0]
    obtain ⟨k0, k1, k2, k3, k4, k5, k6, k7, k8, k9⟩ := hX1.ten
    have H0 : Hid (¬ c = 0) := h0
    clear hlong h0
    go_wp2_with fail
    refine (hdo _ (hd.later hB1) (hL.later hB1) H0.out).mono ?_
    clear hdo
    rintro e w2 ⟨he, hb2⟩
    simp only [stV, resV] at he
    subst he
    have hB2 : Below w.heap.size w w2 := hB1.trans (hb2.mono hB1.size)
    clear hb2 hB1 k0 k1 k2 k3 k4 k5 k6 k7 k8 k9 hX1
    have hB3 := (hB2.alloc hB2.size (.cells #[.int .i64 0, .int .i64 0, .int .i64 0, .int .i64 0, .int .i64 0, .int .i64 0, .int .i64 0, .int .i64 0, .int .i64 0, .int .i64 0] 23)).alloc (by have := hB2.size; simp; omega) (.cells #[.int .i64 0, .int .i64 0, .int .i64 0, .int .i64 0, .int .i64 0] 36)
    go_wp2_with fail
    refine (hnone _ (hd.later hB3) (hL.later hB3) H0.out).mono ?_
    clear hnone
    rintro e w3 ⟨rfl, hb3⟩
    go_wp2_with fail
    go_ret
    exact ⟨rfl, hB3.trans (hb3.mono hB3.size)⟩

set_option maxRecDepth 100000 in
set_option maxHeartbeats 4000000 in
theorem lone_good (a : Option Addr) (cap : Nat) (d : List Op5) (s : Nat → Int) (w : World) (hd : DeedAt w (.slice a d.length cap) d) (h0 : (checkF d).1 = 0) (hL : Lim w) :
    Calls Tryd.prog 4 #[stV s, .slice a d.length cap] w fun e w' => e = .returned (.bool true) ∧ Below w.heap.size w w' := by
  have hlen := check_len h0
  have H0 : Hid ((checkF d).1 = 0) := h0
  have hdo := fun w' (hd' : DeedAt w' (.slice a d.length cap) d) (hL' : Lim w') => do_good (.slice a d.length cap) d s w' hd' h0 hL'
  obtain ⟨o, ho⟩ : ∃ o, o = doF s d := ⟨_, rfl⟩
  rw [← ho] at hdo
  have HO : Hid (o = doF s d) := ho
  clear ho h0
  show Calls Tryd.prog 4 #[.agg #[.int .i64 (s 0), .int .i64 (s 1), .int .i64 (s 2), .int .i64 (s 3), .int .i64 (s 4), .int .i64 (s 5), .int .i64 (s 6), .int .i64 (s 7), .int .i64 (s 8), .int .i64 (s 9)], _] w _
  have hB0 : Below w.heap.size w (w.alloc (.cells #[.int .i64 (s 0), .int .i64 (s 1), .int .i64 (s 2), .int .i64 (s 3), .int .i64 (s 4), .int .i64 (s 5), .int .i64 (s 6), .int .i64 (s 7), .int .i64 (s 8), .int .i64 (s 9)] 23)) := (Below.refl _ _).alloc (Nat.le_refl _) _
  have hX0 := box_new w s
  go_enter Tryd.func4, Tryd.ntmps4
  go_wp2_with fail
  refine (begunW_any _ (hL.later hB0)).mono ?_
  rintro e w1 ⟨rfl, hb1⟩
  have hB1 : Below w.heap.size w w1 := hB0.trans (hb1.mono (by simp))
  have hX1 := hX0.later hb1
  clear hB0 hb1 hX0
  have h2i : ¬ (200 : Int) < (d.length : Int) := by omega
  obtain ⟨k0, k1, k2, k3, k4, k5, k6, k7, k8, k9⟩ := hX1.ten
  go_wp2_with fail
  refine (hdo _ (hd.later hB1) (hL.later hB1)).mono ?_
  clear hdo
  rintro e w2 ⟨he, hb2⟩
  simp only [stV, resV] at he
  subst he
  have hB2 : Below w.heap.size w w2 := hB1.trans (hb2.mono hB1.size)
  have hX2 := hX1.later hb2
  have hz2 : w.heap.size < w2.heap.size := World.block_lt_of_cell? w2 _ (hX2 0 (by omega))
  clear hb2 hB1 k0 k1 k2 k3 k4 k5 k6 k7 k8 k9 hX1
  obtain ⟨k0, k1, k2, k3, k4, k5, k6, k7, k8, k9⟩ := hX2.ten
  go_wp2_with fail
  obtain ⟨W, eW⟩ : ∃ W, W = ((w2.alloc (.cells #[.int .i64 (o.st 0), .int .i64 (o.st 1), .int .i64 (o.st 2), .int .i64 (o.st 3), .int .i64 (o.st 4), .int .i64 (o.st 5), .int .i64 (o.st 6), .int .i64 (o.st 7), .int .i64 (o.st 8), .int .i64 (o.st 9)] 23)).alloc (.cells #[.int .i64 o.code, .int .i64 (o.regs 0), .int .i64 (o.regs 1), .int .i64 (o.regs 2), .int .i64 (o.regs 3)] 36)).alloc (.cells #[.slice a d.length cap] 50) := ⟨_, rfl⟩
  have hBW : Below w.heap.size w W := by rw [eW]; exact ((hB2.alloc hB2.size _).alloc (by have := hB2.size; simp; omega) _).alloc (by have := hB2.size; simp; omega) _
  have hSt : Box W w2.heap.size o.st := by rw [eW]; exact lt10 (by go_simp) (by go_simp) (by go_simp) (by go_simp) (by go_simp) (by go_simp) (by go_simp) (by go_simp) (by go_simp) (by go_simp)
  have r0 : W.cell? ⟨w2.heap.size + 1, 0, none⟩ = some (.int .i64 o.code) := by rw [eW]; go_simp
  have r1 : W.cell? ⟨w2.heap.size + 1, 1, none⟩ = some (.int .i64 (o.regs 0)) := by rw [eW]; go_simp
  have r2 : W.cell? ⟨w2.heap.size + 1, 2, none⟩ = some (.int .i64 (o.regs 1)) := by rw [eW]; go_simp
  have r3 : W.cell? ⟨w2.heap.size + 1, 3, none⟩ = some (.int .i64 (o.regs 2)) := by rw [eW]; go_simp
  have r4 : W.cell? ⟨w2.heap.size + 1, 4, none⟩ = some (.int .i64 (o.regs 3)) := by rw [eW]; go_simp
  have hdc : W.cell? ⟨w2.heap.size + 1 + 1, 0, none⟩ = some (.slice a d.length cap) := by rw [eW]; go_simp
  have hRd : RoundAt W (.slice (some ⟨w2.heap.size + 1 + 1, 0, none⟩) 1 1) [d] := ⟨_, 1, rfl, fun i hi => by
    obtain rfl : i = 0 := by simp at hi; omega
    exact ⟨_, 0, rfl, _, hdc, hd.later hBW⟩⟩
  have hcn := crew_new _ [d] s W hRd (fits_one hlen) (roundF_one H0.out) (hL.later hBW)
  simp only [stV, List.length_cons, List.length_nil, Nat.zero_add] at hcn
  obtain ⟨A, eA⟩ : ∃ A, A = w2.heap.size := ⟨_, rfl⟩
  rw [← eW]
  rw [← eA] at hSt r0 r1 r2 r3 r4 hcn ⊢
  clear eW eA hRd hdc hX2 k0 k1 k2 k3 k4 k5 k6 k7 k8 k9 hB2 hz2
  refine hcn.mono ?_
  clear hcn
  rintro e w4 ⟨c, E, B, D, NB, vW, vH, C, U, H, V, Vb, rfl, hcr0, hb4⟩
  have hcr := hcr0.crew
  have hB4 : Below w.heap.size w w4 := hBW.trans (hb4.mono hBW.size)
  have hN : w.heap.size ≤ W.heap.size := hBW.size
  have hlow : ∀ b, b < W.heap.size → c b = 0 := hcr0.low
  have hHid : Hid (∀ b, b < W.heap.size → c b = 0) := hlow
  obtain ⟨gw, gcap, rfl, -⟩ := hcr.row (by omega)
  clear hcr0 hlow hB4
  go_wp2_with fail
  go_loopg [9] (d.length + 1) (fun g i wr => ∃ (j : Nat) (X : Nat → Wk), j ≤ d.length ∧ g = d.length + 1 - j ∧ i = .int .i64 j ∧ CrewAt wr c W.heap.size E B (.slice (some ⟨gw, 0, none⟩) 1 gcap) C U 1 [d] X (newF s [d]) ∧ Hid ((X 0).over = false ∧ j ≤ (X 0).nx ∧ WellW d (X 0) ∧ runF s d (asRun s (X 0)) = doF s d) ∧ Below W.heap.size W wr)
  case atStart => exact ⟨0, fun _ => wk0, by omega, by omega, rfl, hcr, ⟨rfl, Nat.zero_le _, wk0_well d, rfl⟩, hb4⟩
  case round =>
    clear hcr hb4
    obtain ⟨j, X, hj, hg, rfl, hcr, hx, hBl⟩ := hrel
    obtain ⟨gw', gcap', e', hptr⟩ := hcr.row (by omega)
    cases e'
    have q1 := hcr.ft
    have q2 := hcr.fw
    have q3 := hptr 0 (by omega)
    have hji : (j : Int) ≤ (d.length : Int) := by omega
    have HST : Hid (∀ w', Below wr.heap.size wr w' → Calls Tryd.prog 11 #[.pointer (some ⟨C 0, 0, none⟩), .pointer (some ⟨B, 0, none⟩)] w' fun e w'' => e = .returned (.tuple #[.int .i64 (stepW (newF s [d]) d 0 (X 0)).what, .int .i64 (stepW (newF s [d]) d 0 (X 0)).who]) ∧ CrewAt w'' c W.heap.size E B (.slice (some ⟨gw, 0, none⟩) 1 gcap) C U 1 [d] (putW X 0 (stepW (newF s [d]) d 0 (X 0)).x) (stepW (newF s [d]) d 0 (X 0)).T ∧ Below W.heap.size W w'') := fun w' hb => by
      have hcr' := hcr.later (by omega) hb
      refine (hcr'.step (i := 0) (by omega) (by simp) H0.out hx.out.2.2.1).mono ?_
      rintro e w'' ⟨he, hx', hT, hg⟩
      have hBb : Below W.heap.size W w' := hBl.trans (hb.mono hBl.size)
      exact ⟨he, hcr'.stepped (by omega) (by omega) hx' hT hg, hcr'.below (by omega) hg hBb (Nat.le_refl _) hBb.size⟩
    clear hptr hcr hBl
    rcases alone_cases hx.out.1 H0.out hx.out.2.2.1 hx.out.2.2.2 with ⟨cc, hst, hdo⟩ | ⟨y, hst, hy0, hy1, hy2, hy3⟩
    · rw [hst] at HST
      dsimp only at HST
      have ho : o = ⟨ovl s (X 0), cc, (X 0).regs⟩ := HO.out.trans hdo
      have hT1 := alone_over s d (X 0)
      have hT2 := alone_known s d (X 0)
      have hT3 : ∀ i, i < 10 → valF (endTo (newF s [d]) (X 0) 0 (keysF d) i) = o.st i := fun i hi => by rw [alone_val hx.out.2.2.1 hi, ho]
      generalize endTo (newF s [d]) (X 0) 0 (keysF d) = T' at *
      have e1 : (overW (X 0) cc).code = o.code := by rw [ho]; rfl
      have e2 : (overW (X 0) cc).regs = o.regs := by rw [ho]; rfl
      have e3 : (overW (X 0) cc).over = true := rfl
      generalize overW (X 0) cc = y at *
      have E1 : Hid (y.code = o.code ∧ y.regs = o.regs ∧ y.over = true) := ⟨e1, e2, e3⟩
      have HT1 : Hid (overF T' = true) := hT1
      have HT2 : Hid (∀ k, k < 10 → lastF knownP (T' k) ≠ none) := hT2
      have HT3 : Hid (∀ i, i < 10 → valF (T' i) = o.st i) := hT3
      have h36 := eq43 o.code (o.regs 0) (o.regs 1) (o.regs 2) (o.regs 3)
      have h38 := eq38 o.st
      clear hst hdo ho e1 e2 e3 hT1 hT2 hT3 hx HO
      go_wp2_with fail
      go_cut [10, 11] from 37 to 60 (fun c1 c2 wc => c1 = .int .i64 3 ∧ c2 = .int .i64 (-1) ∧ CrewAt wc c W.heap.size E B (.slice (some ⟨gw, 0, none⟩) 1 gcap) C U 1 [d] (putW X 0 y) T' ∧ Below W.heap.size W wc)
      case first =>
        go_region_with (go_at_call 11; refine (HST.out _ (by first | exact (Below.refl _ _).drew | exact Below.refl _ _)).mono ?_; rintro e w5 ⟨rfl, hcr5, hB5⟩)
        all_goals go_wp2_with fail
        all_goals go_meet
        all_goals exact ⟨rfl, rfl, hcr5, hB5⟩
      case rest =>
        obtain ⟨rfl, rfl, hcr5, hB5⟩ := hcut
        clear HST q1 q2 q3
        obtain ⟨gw', gcap', e', hptr⟩ := hcr5.row (by omega)
        cases e'
        have q2 := hcr5.fw
        have q3 := hptr 0 (by omega)
        have hres := result_over (C 0) (U 0) 0 y wc (hcr5.ws.wk 0 (by omega)) E1.out.2.2
        rw [E1.out.1, E1.out.2.1] at hres
        simp only [resV] at hres
        clear hptr
        go_wp2_with fail
        refine hres.mono ?_
        clear hres
        rintro e w6 ⟨rfl, hb6⟩
        obtain ⟨W7, e7⟩ : ∃ W7, W7 = w6.alloc (.cells #[.int .i64 o.code, .int .i64 (o.regs 0), .int .i64 (o.regs 1), .int .i64 (o.regs 2), .int .i64 (o.regs 3)] 36) := ⟨_, rfl⟩
        have hb7 : Below wc.heap.size wc W7 := by rw [e7]; exact hb6.alloc hb6.size _
        have hcr7 := hcr5.later (by omega) hb7
        have hB7 : Below W.heap.size W W7 := hB5.trans (hb7.mono hB5.size)
        have hBw : Below w.heap.size w W7 := hBW.trans (hB7.mono hBW.size)
        have n0 : W7.cell? ⟨w6.heap.size, 0, none⟩ = some (.int .i64 o.code) := by rw [e7]; go_simp
        have n1 : W7.cell? ⟨w6.heap.size, 1, none⟩ = some (.int .i64 (o.regs 0)) := by rw [e7]; go_simp
        have n2 : W7.cell? ⟨w6.heap.size, 2, none⟩ = some (.int .i64 (o.regs 1)) := by rw [e7]; go_simp
        have n3 : W7.cell? ⟨w6.heap.size, 3, none⟩ = some (.int .i64 (o.regs 2)) := by rw [e7]; go_simp
        have n4 : W7.cell? ⟨w6.heap.size, 4, none⟩ = some (.int .i64 (o.regs 3)) := by rw [e7]; go_simp
        replace r0 := cell_later hB7 r0
        replace r1 := cell_later hB7 r1
        replace r2 := cell_later hB7 r2
        replace r3 := cell_later hB7 r3
        replace r4 := cell_later hB7 r4
        replace hSt := hSt.later hB7
        have q1 := hcr7.ft
        have HS : Hid (∀ w', Below W7.heap.size W7 w' → Calls Tryd.prog 14 #[.pointer (some ⟨B, 0, none⟩)] w' fun e w'' => e = .returned (.agg #[.int .i64 (o.st 0), .int .i64 (o.st 1), .int .i64 (o.st 2), .int .i64 (o.st 3), .int .i64 (o.st 4), .int .i64 (o.st 5), .int .i64 (o.st 6), .int .i64 (o.st 7), .int .i64 (o.st 8), .int .i64 (o.st 9)]) ∧ Below W7.heap.size W7 w'') := fun w' hb => by
          refine (state_any B T' w' (hcr7.tab.later hb) HT2.out).mono ?_
          rintro e w'' ⟨he, hb'⟩
          rw [ret_st HT3.out] at he
          exact ⟨he, hb.trans (hb'.mono hb.size)⟩
        have HV : Hid (∀ w', Below W7.heap.size W7 w' → Calls Tryd.prog 15 #[.pointer (some ⟨B, 0, none⟩)] w' fun e w'' => e = .returned (.bool true) ∧ Below W7.heap.size W7 w'') := fun w' hb => by
          refine (over_any B T' w' (hcr7.tab.later hb)).mono ?_
          rintro e w'' ⟨he, hb'⟩
          rw [HT1.out] at he
          exact ⟨he, hb.trans (hb'.mono hb.size)⟩
        go_wp2_with fail
        rw [← e7]
        clear e7 hcr5 hB5 hcr7 hB7 hb6 hb7 q2 q3
        have HKP : Hid (∀ w', Below W7.heap.size W7 w' → Below W7.heap.size W7 w' ∧ w'.rangeAt A 0 [Value.int .i64 (o.st 0), .int .i64 (o.st 1), .int .i64 (o.st 2), .int .i64 (o.st 3), .int .i64 (o.st 4), .int .i64 (o.st 5), .int .i64 (o.st 6), .int .i64 (o.st 7), .int .i64 (o.st 8), .int .i64 (o.st 9)] ∧ w'.cell? ⟨A + 1, 0, none⟩ = some (.int .i64 o.code) ∧ w'.cell? ⟨A + 1, 1, none⟩ = some (.int .i64 (o.regs 0)) ∧ w'.cell? ⟨A + 1, 2, none⟩ = some (.int .i64 (o.regs 1)) ∧ w'.cell? ⟨A + 1, 3, none⟩ = some (.int .i64 (o.regs 2)) ∧ w'.cell? ⟨A + 1, 4, none⟩ = some (.int .i64 (o.regs 3)) ∧ w'.cell? ⟨w6.heap.size, 0, none⟩ = some (.int .i64 o.code) ∧ w'.cell? ⟨w6.heap.size, 1, none⟩ = some (.int .i64 (o.regs 0)) ∧ w'.cell? ⟨w6.heap.size, 2, none⟩ = some (.int .i64 (o.regs 1)) ∧ w'.cell? ⟨w6.heap.size, 3, none⟩ = some (.int .i64 (o.regs 2)) ∧ w'.cell? ⟨w6.heap.size, 4, none⟩ = some (.int .i64 (o.regs 3)) ∧ w'.cell? ⟨E, 0, none⟩ = some (.pointer (some ⟨B, 0, none⟩))) := fun w' hb => ⟨hb, (hSt.later hb).range, cell_later hb r0, cell_later hb r1, cell_later hb r2, cell_later hb r3, cell_later hb r4, cell_later hb n0, cell_later hb n1, cell_later hb n2, cell_later hb n3, cell_later hb n4, cell_later hb q1⟩
        have u1 : Tryd.prog.underlying 23 = some (.array 10 2) := Tryd.underlying23
        have u2 : (Tryd.prog.info? 23).map (·.size) = some [Value.int .i64 (o.st 0), .int .i64 (o.st 1), .int .i64 (o.st 2), .int .i64 (o.st 3), .int .i64 (o.st 4), .int .i64 (o.st 5), .int .i64 (o.st 6), .int .i64 (o.st 7), .int .i64 (o.st 8), .int .i64 (o.st 9)].length := by kernel_rfl
        clear r0 r1 r2 r3 r4 n0 n1 n2 n3 n4 q1 hSt hd hL H0 hHid HT1 HT2 HT3 E1
        generalize Value.agg #[.int .i64 (s 0), .int .i64 (s 1), .int .i64 (s 2), .int .i64 (s 3), .int .i64 (s 4), .int .i64 (s 5), .int .i64 (s 6), .int .i64 (s 7), .int .i64 (s 8), .int .i64 (s 9)] = vs
        go_region_held3 (fun w' => Below W7.heap.size W7 w' ∧ w'.rangeAt A 0 [Value.int .i64 (o.st 0), .int .i64 (o.st 1), .int .i64 (o.st 2), .int .i64 (o.st 3), .int .i64 (o.st 4), .int .i64 (o.st 5), .int .i64 (o.st 6), .int .i64 (o.st 7), .int .i64 (o.st 8), .int .i64 (o.st 9)] ∧ w'.cell? ⟨A + 1, 0, none⟩ = some (.int .i64 o.code) ∧ w'.cell? ⟨A + 1, 1, none⟩ = some (.int .i64 (o.regs 0)) ∧ w'.cell? ⟨A + 1, 2, none⟩ = some (.int .i64 (o.regs 1)) ∧ w'.cell? ⟨A + 1, 3, none⟩ = some (.int .i64 (o.regs 2)) ∧ w'.cell? ⟨A + 1, 4, none⟩ = some (.int .i64 (o.regs 3)) ∧ w'.cell? ⟨w6.heap.size, 0, none⟩ = some (.int .i64 o.code) ∧ w'.cell? ⟨w6.heap.size, 1, none⟩ = some (.int .i64 (o.regs 0)) ∧ w'.cell? ⟨w6.heap.size, 2, none⟩ = some (.int .i64 (o.regs 1)) ∧ w'.cell? ⟨w6.heap.size, 3, none⟩ = some (.int .i64 (o.regs 2)) ∧ w'.cell? ⟨w6.heap.size, 4, none⟩ = some (.int .i64 (o.regs 3)) ∧ w'.cell? ⟨E, 0, none⟩ = some (.pointer (some ⟨B, 0, none⟩))) (first | exact HKP.out _ (Below.refl _ _).drew | exact HKP.out _ hb9 | exact HKP.out _ hb8)
          (first | (go_at_call 14; refine (HS.out _ (by first | exact (Below.refl _ _).drew | exact Below.refl _ _)).mono ?_; rintro e w8 ⟨rfl, hb8⟩) | (go_at_call 15; refine (HV.out _ hb8).mono ?_; rintro e w9 ⟨rfl, hb9⟩))
        all_goals go_wp2_with fail
        all_goals go_ret
        all_goals exact ⟨rfl, hBw.trans (hb9.mono hBw.size)⟩
    · rw [hst] at HST
      dsimp only at HST
      have hx' : Hid (y.over = false ∧ j + 1 ≤ y.nx ∧ WellW d y ∧ runF s d (asRun s y) = doF s d) := ⟨hy0, by have := hx.out.2.1; omega, hy3, hy1⟩
      have hjd : j + 1 ≤ d.length := by have := hx'.out.2.1; have := hy3.nx; omega
      clear hst hy0 hy1 hy2 hy3 hx
      go_wp2_with fail
      go_cut [10, 11] from 37 to 60 (fun c1 c2 wc => c1 = .int .i64 1 ∧ c2 = .int .i64 (-1) ∧ CrewAt wc c W.heap.size E B (.slice (some ⟨gw, 0, none⟩) 1 gcap) C U 1 [d] (putW X 0 y) (newF s [d]) ∧ Below W.heap.size W wc)
      case first =>
        go_region_with (go_at_call 11; refine (HST.out _ (by first | exact (Below.refl _ _).drew | exact Below.refl _ _)).mono ?_; rintro e w5 ⟨rfl, hcr5, hB5⟩)
        all_goals go_wp2_with fail
        all_goals go_meet
        all_goals exact ⟨rfl, rfl, hcr5, hB5⟩
      case rest =>
        obtain ⟨rfl, rfl, hcr5, hB5⟩ := hcut
        clear HST q1 q2 q3
        go_wp2_with fail
        go_roundg (d.length + 1 - (j + 1))
        case measure => omega
        case rel => exact ⟨j + 1, putW X 0 y, hjd, rfl, by go_num, hcr5, hx', hB5⟩

theorem lone_any (a : Option Addr) (cap : Nat) (d : List Op5) (s : Nat → Int) (w : World) (hd : DeedAt w (.slice a d.length cap) d) (hmax : d.length ≤ 9223372036854775807) (hL : Lim w) :
    Calls Tryd.prog 4 #[stV s, .slice a d.length cap] w fun e w' => e = .returned (.bool true) ∧ Below w.heap.size w w' := by
  by_cases h0 : (checkF d).1 = 0
  · exact lone_good a cap d s w hd h0 hL
  · exact lone_bad a cap d s w hd hmax (.inr h0) hL
end Go.Proofs.YtjkffknipbddoabDoor
