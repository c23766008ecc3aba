/-
  The walks of Hand.Step, of operations that load.
-/
import Derived.Test.YthlhbmldfjkagaaDoorHdC
namespace Go.Proofs.YthlhbmldfjkagaaDoor
open Go.RowKit Go.Shelf

section
variable {w : World} {N NB G D : Nat} {dv : Value} {b : Nat} {d : List Op5} {V : Nat → Value} {x : Wk} {vs : Value} {st : List Op5} {T : Nat → List Slot4}

set_option maxRecDepth 100000 in
set_option maxHeartbeats 2000000 in
theorem hs_own (h : HB w N NB G D dv b d V x vs st T) (ho : x.over = false) (hn : x.nx < d.length) (hk : d[x.nx].k = 2) (hi : x.is d[x.nx].b.toNat = true) (hck : (checkF d).1 = 0) :
    Calls Tryd.prog 51 #[.pointer (some ⟨G, 0, none⟩), .pointer (some ⟨D, 0, none⟩)] w (HStep w N NB G D dv b d V vs (stepW T d (b : Int) x)) := by
  have q0 := h.hd.over
  rw [ho] at q0
  have q1 := h.hd.place
  have q2 := h.hd.deed
  have hd14 := check_len hck
  have hp := alone_parts (checkF_alone hck _ (List.getElem_mem hn))
  have hpl := check_places hck x.nx hn
  have hst : Hid (stepW T d (b : Int) x = ⟨1, -1, loadW d[x.nx] (x.n d[x.nx].b.toNat) x, T⟩) := stepW_own ho hn hk hi
  have h14 : st.length ≤ 14 := by have := h.sl; omega
  have HO : Hid (x.over = false) := ho
  obtain ⟨da, dcap, rfl, hdd⟩ := h.dd
  obtain ⟨sb, off, hsb, rfl, c0, c1, c2, c3, c4⟩ := hdd x.nx hn
  have hni : (x.nx : Int) < (d.length : Int) := by omega
  have hnl : ¬ (d.length : Int) ≤ (x.nx : Int) := by omega
  have hn14 : x.nx < 14 := by omega
  have HH : Hid (HB w N NB G D (.slice (some ⟨sb, off, none⟩) d.length dcap) b d V x vs st T) := h
  clear ho hdd h hck
  generalize d[x.nx] = o at *
  go_enter Tryd.func51, Tryd.ntmps51
  go_wp2_with fail
  go_quiet (fail)
  go_wp2_with fail
  obtain ⟨W1, e1⟩ : ∃ W1, W1 = w.drewN nq := ⟨_, rfl⟩
  have hb1 : Below w.heap.size w W1 := by rw [e1]; exact drewN_below (Below.refl _ _) _
  rw [← e1]
  clear e1
  replace q1 := cell_later hb1 q1
  replace q2 := cell_later hb1 q2
  replace c0 := cell_later hb1 c0
  replace c1 := cell_later hb1 c1
  replace c2 := cell_later hb1 c2
  replace c3 := cell_later hb1 c3
  replace c4 := cell_later hb1 c4
  clear q0
  have hGz : G < W1.heap.size := World.block_lt_of_cell? W1 _ q1
  have hsz : sb < W1.heap.size := World.block_lt_of_cell? W1 _ c0
  go_cut [6] from 29 (fun p6 wc => ∃ P, p6 = .pointer (some ⟨P, 0, none⟩) ∧ OpAt wc P o ∧ W1.heap.size ≤ P ∧ Below W1.heap.size W1 wc)
  case first =>
    go_region
    all_goals go_wp2_with fail
    all_goals go_meet
    all_goals exact ⟨_, rfl, ⟨by go_simp, by go_simp, by go_simp, by go_simp, by go_simp⟩, Nat.le_refl _, ((Below.refl _ _).alloc (Nat.le_refl _) _).drew⟩
  case rest =>
    obtain ⟨P, rfl, hop, hP, hbc⟩ := hcut
    have hbw : Below w.heap.size w wc := hb1.trans (hbc.mono hb1.size)
    have h2 := HH.out.later hbw
    have hGw : Grew (handS G V vs) w wc := Grew.of_below hbw
    have hPG : ¬ P = G := by omega
    obtain ⟨o0, o1, o2, o3, o4⟩ := hop
    clear q1 q2 c0 c1 c2 c3 c4
    have q1 := h2.hd.place
    have hf := h2.hd.free
    have hPz : P < wc.heap.size := World.block_lt_of_cell? wc _ o0
    have hGc : G < wc.heap.size := h2.hd.lt
    have hbz : w.heap.size ≤ wc.heap.size := hbw.size
    clear hb1 hbc HH hbw
    obtain ⟨m, hm⟩ : ∃ m : Nat, o.a = (m : Int) := ⟨o.a.toNat, by omega⟩
    have hm4 : m < 4 := by omega
    have hmi : (m : Int) < 4 := by omega
    have g0 := h2.hd.reg m hm4
    obtain ⟨l, hl⟩ : ∃ l : Nat, o.b = (l : Int) := ⟨o.b.toNat, by omega⟩
    have hl10 : l < 10 := by omega
    have hli : (l : Int) < 10 := by omega
    have hpt := put_any G (l : Int) vs st wc h2.hd.sto (deedAt_owns h2.so) h14
    rw [h2.put l hl10] at hpt
    have hR : Hid (loadW o (x.n o.b.toNat) x = ⟨x.nx + 1, x.is, x.n, putAt x.regs m (x.n l), x.code, x.over⟩) := by show _ = _; unfold loadW; rw [hm, hl]; rfl
    rw [hl, Int.toNat_natCast] at hi
    rw [hi] at hpt
    simp only [if_true, Option.getD_some, Option.isSome_some] at hpt
    rw [hk] at o0
    rw [hm] at o1
    rw [hl] at o2
    clear hp hpl hi
    go_wp2_with fail
    refine hpt.mono ?_
    rintro e w3 ⟨rfl, hw3⟩
    rw [hw3]
    clear hpt hw3
    go_wp2_with fail
    go_region
    all_goals go_wp2_with fail
    all_goals rw [castN]
    all_goals exact bodyPost_ret (v := .tuple #[.int .i64 1, .int .i64 (-1)]) (by simp [results, Tryd.results51, go_sem]) rfl ⟨by rw [hst.out], ⟨vs, st, by rw [hst.out]; exact hR.out ▸ ((h2.reg HO.out hm4 _).place (x.nx + 1) (Nat.le_succ _)).later (Below.refl _ _).drew, .inl rfl⟩, (hGw.trans (Grew.of_grown (grown_trans (grown_setCell wc ⟨G, 3 + m, none⟩ _) (grown_setCell _ ⟨G, 2, none⟩ _)) (.inl rfl))).drew⟩

set_option maxRecDepth 100000 in
set_option maxHeartbeats 2000000 in
theorem hs_wait (h : HB w N NB G D dv b d V x vs st T) (ho : x.over = false) (hn : x.nx < d.length) (hk : d[x.nx].k = 2) (hi : x.is d[x.nx].b.toNat = false) (hw : 0 ≤ (beforeT T d[x.nx].b (b : Int)).2) (hck : (checkF d).1 = 0) :
    Calls Tryd.prog 51 #[.pointer (some ⟨G, 0, none⟩), .pointer (some ⟨D, 0, none⟩)] w (HStep w N NB G D dv b d V vs (stepW T d (b : Int) x)) := by
  have q0 := h.hd.over
  rw [ho] at q0
  have q1 := h.hd.place
  have q2 := h.hd.deed
  have hd14 := check_len hck
  have hp := alone_parts (checkF_alone hck _ (List.getElem_mem hn))
  have hpl := check_places hck x.nx hn
  have hst : Hid (stepW T d (b : Int) x = ⟨2, (beforeT T d[x.nx].b (b : Int)).2, x, T⟩) := stepW_waits ho hn hk hi hw
  have h14 : st.length ≤ 14 := by have := h.sl; omega
  have HO : Hid (x.over = false) := ho
  obtain ⟨da, dcap, rfl, hdd⟩ := h.dd
  obtain ⟨sb, off, hsb, rfl, c0, c1, c2, c3, c4⟩ := hdd x.nx hn
  have hni : (x.nx : Int) < (d.length : Int) := by omega
  have hnl : ¬ (d.length : Int) ≤ (x.nx : Int) := by omega
  have hn14 : x.nx < 14 := by omega
  have HH : Hid (HB w N NB G D (.slice (some ⟨sb, off, none⟩) d.length dcap) b d V x vs st T) := h
  clear ho hdd h hck
  generalize d[x.nx] = o at *
  go_enter Tryd.func51, Tryd.ntmps51
  go_wp2_with fail
  go_quiet (fail)
  go_wp2_with fail
  obtain ⟨W1, e1⟩ : ∃ W1, W1 = w.drewN nq := ⟨_, rfl⟩
  have hb1 : Below w.heap.size w W1 := by rw [e1]; exact drewN_below (Below.refl _ _) _
  rw [← e1]
  clear e1
  replace q1 := cell_later hb1 q1
  replace q2 := cell_later hb1 q2
  replace c0 := cell_later hb1 c0
  replace c1 := cell_later hb1 c1
  replace c2 := cell_later hb1 c2
  replace c3 := cell_later hb1 c3
  replace c4 := cell_later hb1 c4
  clear q0
  have hGz : G < W1.heap.size := World.block_lt_of_cell? W1 _ q1
  have hsz : sb < W1.heap.size := World.block_lt_of_cell? W1 _ c0
  go_cut [6] from 29 (fun p6 wc => ∃ P, p6 = .pointer (some ⟨P, 0, none⟩) ∧ OpAt wc P o ∧ W1.heap.size ≤ P ∧ Below W1.heap.size W1 wc)
  case first =>
    go_region
    all_goals go_wp2_with fail
    all_goals go_meet
    all_goals exact ⟨_, rfl, ⟨by go_simp, by go_simp, by go_simp, by go_simp, by go_simp⟩, Nat.le_refl _, ((Below.refl _ _).alloc (Nat.le_refl _) _).drew⟩
  case rest =>
    obtain ⟨P, rfl, hop, hP, hbc⟩ := hcut
    have hbw : Below w.heap.size w wc := hb1.trans (hbc.mono hb1.size)
    have h2 := HH.out.later hbw
    have hGw : Grew (handS G V vs) w wc := Grew.of_below hbw
    have hPG : ¬ P = G := by omega
    obtain ⟨o0, o1, o2, o3, o4⟩ := hop
    clear q1 q2 c0 c1 c2 c3 c4
    have q1 := h2.hd.place
    have hf := h2.hd.free
    have hPz : P < wc.heap.size := World.block_lt_of_cell? wc _ o0
    have hGc : G < wc.heap.size := h2.hd.lt
    have hbz : w.heap.size ≤ wc.heap.size := hbw.size
    clear hb1 hbc HH hbw
    obtain ⟨m, hm⟩ : ∃ m : Nat, o.a = (m : Int) := ⟨o.a.toNat, by omega⟩
    have hm4 : m < 4 := by omega
    have hmi : (m : Int) < 4 := by omega
    have g0 := h2.hd.reg m hm4
    obtain ⟨l, hl⟩ : ∃ l : Nat, o.b = (l : Int) := ⟨o.b.toNat, by omega⟩
    have hl10 : l < 10 := by omega
    have hli : (l : Int) < 10 := by omega
    have hpt := put_any G (l : Int) vs st wc h2.hd.sto (deedAt_owns h2.so) h14
    rw [h2.put l hl10] at hpt
    have hbf := beforeB_any NB D l hl10 (b : Int) T V
    have HBF : Hid (∀ w', Below wc.heap.size wc w' → Calls Tryd.prog 34 #[.pointer (some ⟨D, 0, none⟩), .int .i64 (l : Int), .int .i64 (b : Int)] w' fun e w'' => e = .returned (.tuple #[.int .i64 (beforeF (T l) (b : Int)).1, .int .i64 (beforeF (T l) (b : Int)).2]) ∧ Below wc.heap.size wc w'') := fun w' hb => by
      refine (beforeB_any NB D l hl10 (b : Int) T V w' (h2.bd.later hb) (h2.l9 l hl10)).mono ?_
      rintro e w'' ⟨he, hb'⟩
      exact ⟨he, hb.trans (hb'.mono hb.size)⟩
    have q3 := h2.hd.num
    clear hbf
    rw [hl, Int.toNat_natCast] at hi
    rw [hi] at hpt
    simp only [Bool.false_eq_true, if_false, Option.getD_none, Option.isSome_none] at hpt
    rw [hk] at o0
    rw [hm] at o1
    rw [hl] at o2
    have hbt : beforeT T (l : Int) (b : Int) = beforeF (T l) (b : Int) := by unfold beforeT; rw [if_pos ⟨by omega, by omega⟩, Int.toNat_natCast]
    rw [hl, hbt] at hw
    rw [hl, hbt] at hst
    clear hp hpl hi hbt g0
    obtain ⟨WW, hWW⟩ : ∃ WW, WW = wc := ⟨_, rfl⟩
    subst hWW
    generalize (beforeF (T l) (b : Int)).1 = p1 at *
    generalize (beforeF (T l) (b : Int)).2 = p2 at *
    go_wp2_with fail
    refine hpt.mono ?_
    rintro e w3 ⟨rfl, hw3⟩
    rw [hw3]
    clear hpt hw3
    go_wp2_with fail
    go_cut [10, 11] from 91 (fun c1 c2 wd => c1 = .int .i64 p1 ∧ c2 = .int .i64 p2 ∧ Below WW.heap.size WW wd)
    case first =>
      go_region_with (go_at_call 34; refine (HBF.out _ (by first | exact Below.refl _ _ | exact (Below.refl _ _).drew)).mono ?_; rintro e w4 ⟨rfl, hb4⟩)
      all_goals go_wp2_with fail
      all_goals go_meet
      all_goals exact ⟨rfl, rfl, hb4⟩
    case rest =>
      obtain ⟨rfl, rfl, hbd⟩ := hcut
      clear HBF o0 o1 o2 o3 o4 q1 q3 hf
      go_wp2_with fail
      exact bodyPost_ret (v := .tuple #[.int .i64 2, .int .i64 (p2)]) (by simp [results, Tryd.results51, go_sem]) rfl ⟨by rw [hst.out], ⟨vs, st, by rw [hst.out]; exact h2.later hbd, .inl rfl⟩, hGw.trans (Grew.of_below hbd)⟩

set_option maxRecDepth 100000 in
set_option maxHeartbeats 2000000 in
theorem hs_load (h : HB w N NB G D dv b d V x vs st T) (ho : x.over = false) (hn : x.nx < d.length) (hk : d[x.nx].k = 2) (hi : x.is d[x.nx].b.toNat = false) (hw : ¬ 0 ≤ (beforeT T d[x.nx].b (b : Int)).2) (hck : (checkF d).1 = 0) :
    Calls Tryd.prog 51 #[.pointer (some ⟨G, 0, none⟩), .pointer (some ⟨D, 0, none⟩)] w (HStep w N NB G D dv b d V vs (stepW T d (b : Int) x)) := by
  have q0 := h.hd.over
  rw [ho] at q0
  have q1 := h.hd.place
  have q2 := h.hd.deed
  have hd14 := check_len hck
  have hp := alone_parts (checkF_alone hck _ (List.getElem_mem hn))
  have hpl := check_places hck x.nx hn
  have hst : Hid (stepW T d (b : Int) x = ⟨1, -1, loadW d[x.nx] (beforeT T d[x.nx].b (b : Int)).1 x, T⟩) := stepW_load ho hn hk hi hw
  have h14 : st.length ≤ 14 := by have := h.sl; omega
  have HO : Hid (x.over = false) := ho
  obtain ⟨da, dcap, rfl, hdd⟩ := h.dd
  obtain ⟨sb, off, hsb, rfl, c0, c1, c2, c3, c4⟩ := hdd x.nx hn
  have hni : (x.nx : Int) < (d.length : Int) := by omega
  have hnl : ¬ (d.length : Int) ≤ (x.nx : Int) := by omega
  have hn14 : x.nx < 14 := by omega
  have HH : Hid (HB w N NB G D (.slice (some ⟨sb, off, none⟩) d.length dcap) b d V x vs st T) := h
  clear ho hdd h hck
  generalize d[x.nx] = o at *
  go_enter Tryd.func51, Tryd.ntmps51
  go_wp2_with fail
  go_quiet (fail)
  go_wp2_with fail
  obtain ⟨W1, e1⟩ : ∃ W1, W1 = w.drewN nq := ⟨_, rfl⟩
  have hb1 : Below w.heap.size w W1 := by rw [e1]; exact drewN_below (Below.refl _ _) _
  rw [← e1]
  clear e1
  replace q1 := cell_later hb1 q1
  replace q2 := cell_later hb1 q2
  replace c0 := cell_later hb1 c0
  replace c1 := cell_later hb1 c1
  replace c2 := cell_later hb1 c2
  replace c3 := cell_later hb1 c3
  replace c4 := cell_later hb1 c4
  clear q0
  have hGz : G < W1.heap.size := World.block_lt_of_cell? W1 _ q1
  have hsz : sb < W1.heap.size := World.block_lt_of_cell? W1 _ c0
  go_cut [6] from 29 (fun p6 wc => ∃ P, p6 = .pointer (some ⟨P, 0, none⟩) ∧ OpAt wc P o ∧ W1.heap.size ≤ P ∧ Below W1.heap.size W1 wc)
  case first =>
    go_region
    all_goals go_wp2_with fail
    all_goals go_meet
    all_goals exact ⟨_, rfl, ⟨by go_simp, by go_simp, by go_simp, by go_simp, by go_simp⟩, Nat.le_refl _, ((Below.refl _ _).alloc (Nat.le_refl _) _).drew⟩
  case rest =>
    obtain ⟨P, rfl, hop, hP, hbc⟩ := hcut
    have hbw : Below w.heap.size w wc := hb1.trans (hbc.mono hb1.size)
    have h2 := HH.out.later hbw
    have hGw : Grew (handS G V vs) w wc := Grew.of_below hbw
    have hPG : ¬ P = G := by omega
    obtain ⟨o0, o1, o2, o3, o4⟩ := hop
    clear q1 q2 c0 c1 c2 c3 c4
    have q1 := h2.hd.place
    have hf := h2.hd.free
    have hPz : P < wc.heap.size := World.block_lt_of_cell? wc _ o0
    have hGc : G < wc.heap.size := h2.hd.lt
    have hbz : w.heap.size ≤ wc.heap.size := hbw.size
    clear hb1 hbc HH hbw
    obtain ⟨m, hm⟩ : ∃ m : Nat, o.a = (m : Int) := ⟨o.a.toNat, by omega⟩
    have hm4 : m < 4 := by omega
    have hmi : (m : Int) < 4 := by omega
    have g0 := h2.hd.reg m hm4
    obtain ⟨l, hl⟩ : ∃ l : Nat, o.b = (l : Int) := ⟨o.b.toNat, by omega⟩
    have hl10 : l < 10 := by omega
    have hli : (l : Int) < 10 := by omega
    have hpt := put_any G (l : Int) vs st wc h2.hd.sto (deedAt_owns h2.so) h14
    rw [h2.put l hl10] at hpt
    have hbf := beforeB_any NB D l hl10 (b : Int) T V
    have HBF : Hid (∀ w', Below wc.heap.size wc w' → Calls Tryd.prog 34 #[.pointer (some ⟨D, 0, none⟩), .int .i64 (l : Int), .int .i64 (b : Int)] w' fun e w'' => e = .returned (.tuple #[.int .i64 (beforeF (T l) (b : Int)).1, .int .i64 (beforeF (T l) (b : Int)).2]) ∧ Below wc.heap.size wc w'') := fun w' hb => by
      refine (beforeB_any NB D l hl10 (b : Int) T V w' (h2.bd.later hb) (h2.l9 l hl10)).mono ?_
      rintro e w'' ⟨he, hb'⟩
      exact ⟨he, hb.trans (hb'.mono hb.size)⟩
    have q3 := h2.hd.num
    clear hbf
    rw [hl, Int.toNat_natCast] at hi
    rw [hi] at hpt
    simp only [Bool.false_eq_true, if_false, Option.getD_none, Option.isSome_none] at hpt
    rw [hk] at o0
    rw [hm] at o1
    rw [hl] at o2
    have hbt : beforeT T (l : Int) (b : Int) = beforeF (T l) (b : Int) := by unfold beforeT; rw [if_pos ⟨by omega, by omega⟩, Int.toNat_natCast]
    rw [hl, hbt] at hw
    rw [hl, hbt] at hst
    have hR : Hid (loadW o (beforeF (T l) (b : Int)).1 x = ⟨x.nx + 1, x.is, x.n, putAt x.regs m (beforeF (T l) (b : Int)).1, x.code, x.over⟩) := by show _ = _; unfold loadW; rw [hm]; rfl
    clear hp hpl hi hbt g0
    obtain ⟨WW, hWW⟩ : ∃ WW, WW = wc := ⟨_, rfl⟩
    subst hWW
    generalize (beforeF (T l) (b : Int)).1 = p1 at *
    generalize (beforeF (T l) (b : Int)).2 = p2 at *
    go_wp2_with fail
    refine hpt.mono ?_
    rintro e w3 ⟨rfl, hw3⟩
    rw [hw3]
    clear hpt hw3
    go_wp2_with fail
    go_cut [10, 11] from 91 (fun c1 c2 wd => c1 = .int .i64 p1 ∧ c2 = .int .i64 p2 ∧ Below WW.heap.size WW wd)
    case first =>
      go_region_with (go_at_call 34; refine (HBF.out _ (by first | exact Below.refl _ _ | exact (Below.refl _ _).drew)).mono ?_; rintro e w4 ⟨rfl, hb4⟩)
      all_goals go_wp2_with fail
      all_goals go_meet
      all_goals exact ⟨rfl, rfl, hb4⟩
    case rest =>
      obtain ⟨rfl, rfl, hbd⟩ := hcut
      clear HBF
      have h3 := h2.later hbd
      replace o1 := cell_later hbd o1
      have g0 := h3.hd.reg m hm4
      have q1' := h3.hd.place
      have hf' := h3.hd.free
      have hPz' : P < wc.heap.size := World.block_lt_of_cell? wc _ o1
      have hGc' := h3.hd.lt
      have hGw' := hGw.trans (Grew.of_below (S := handS G V vs) hbd)
      clear o0 o2 o3 o4 q1 q3 hf hGw hbd h2
      go_wp2_with fail
      go_region
      all_goals go_wp2_with fail
      all_goals rw [castN]
      all_goals exact bodyPost_ret (v := .tuple #[.int .i64 1, .int .i64 (-1)]) (by simp [results, Tryd.results51, go_sem]) rfl ⟨by rw [hst.out], ⟨vs, st, by rw [hst.out]; exact hR.out ▸ ((h3.reg HO.out hm4 _).place (x.nx + 1) (Nat.le_succ _)).later (Below.refl _ _).drew, .inl rfl⟩, (hGw'.trans (Grew.of_grown (grown_trans (grown_setCell wc ⟨G, 3 + m, none⟩ _) (grown_setCell _ ⟨G, 2, none⟩ _)) (.inl rfl))).drew⟩

end
end Go.Proofs.YthlhbmldfjkagaaDoor
