/-
  The walks of Hand.Step, of operations that reckon.
-/
import Derived.Test.YthlhbmldfjkagaaDoorHdC
namespace Go.Proofs.YthlhbmldfjkagaaDoor
open Go.RowKit Go.Shelf

section
variable {w : World} {N NB G D : Nat} {dv : Value} {b : Nat} {d : List Op5} {V : Nat → Value} {x : Wk} {vs : Value} {st : List Op5} {T : Nat → List Slot4}

set_option maxRecDepth 100000 in
set_option maxHeartbeats 2000000 in
theorem hs_ar3 (h : HB w N NB G D dv b d V x vs st T) (ho : x.over = false) (hn : x.nx < d.length) (hk : d[x.nx].k = 3) (hck : (checkF d).1 = 0) :
    Calls Tryd.prog 51 #[.pointer (some ⟨G, 0, none⟩), .pointer (some ⟨D, 0, none⟩)] w (HStep w N NB G D dv b d V vs (stepW T d (b : Int) x)) := by
  have q0 := h.hd.over
  rw [ho] at q0
  have q1 := h.hd.place
  have q2 := h.hd.deed
  have hd14 := check_len hck
  have hp := alone_parts (checkF_alone hck _ (List.getElem_mem hn))
  have hpl := check_places hck x.nx hn
  have hst : Hid (stepW T d (b : Int) x = ⟨1, -1, runW d[x.nx] x, T⟩) := stepW_run ho hn (by omega) (by omega)
  have h14 : st.length ≤ 14 := by have := h.sl; omega
  have HO : Hid (x.over = false) := ho
  obtain ⟨da, dcap, rfl, hdd⟩ := h.dd
  obtain ⟨sb, off, hsb, rfl, c0, c1, c2, c3, c4⟩ := hdd x.nx hn
  have hni : (x.nx : Int) < (d.length : Int) := by omega
  have hnl : ¬ (d.length : Int) ≤ (x.nx : Int) := by omega
  have hn14 : x.nx < 14 := by omega
  have HH : Hid (HB w N NB G D (.slice (some ⟨sb, off, none⟩) d.length dcap) b d V x vs st T) := h
  clear ho hdd h hck
  generalize d[x.nx] = o at *
  go_enter Tryd.func51, Tryd.ntmps51
  go_wp2_with fail
  go_quiet (fail)
  go_wp2_with fail
  obtain ⟨W1, e1⟩ : ∃ W1, W1 = w.drewN nq := ⟨_, rfl⟩
  have hb1 : Below w.heap.size w W1 := by rw [e1]; exact drewN_below (Below.refl _ _) _
  rw [← e1]
  clear e1
  replace q1 := cell_later hb1 q1
  replace q2 := cell_later hb1 q2
  replace c0 := cell_later hb1 c0
  replace c1 := cell_later hb1 c1
  replace c2 := cell_later hb1 c2
  replace c3 := cell_later hb1 c3
  replace c4 := cell_later hb1 c4
  clear q0
  have hGz : G < W1.heap.size := World.block_lt_of_cell? W1 _ q1
  have hsz : sb < W1.heap.size := World.block_lt_of_cell? W1 _ c0
  go_cut [6] from 29 (fun p6 wc => ∃ P, p6 = .pointer (some ⟨P, 0, none⟩) ∧ OpAt wc P o ∧ W1.heap.size ≤ P ∧ Below W1.heap.size W1 wc)
  case first =>
    go_region
    all_goals go_wp2_with fail
    all_goals go_meet
    all_goals exact ⟨_, rfl, ⟨by go_simp, by go_simp, by go_simp, by go_simp, by go_simp⟩, Nat.le_refl _, ((Below.refl _ _).alloc (Nat.le_refl _) _).drew⟩
  case rest =>
    obtain ⟨P, rfl, hop, hP, hbc⟩ := hcut
    have hbw : Below w.heap.size w wc := hb1.trans (hbc.mono hb1.size)
    have h2 := HH.out.later hbw
    have hGw : Grew (handS G V vs) w wc := Grew.of_below hbw
    have hPG : ¬ P = G := by omega
    obtain ⟨o0, o1, o2, o3, o4⟩ := hop
    clear q1 q2 c0 c1 c2 c3 c4
    have q1 := h2.hd.place
    have hf := h2.hd.free
    have hPz : P < wc.heap.size := World.block_lt_of_cell? wc _ o0
    have hGc : G < wc.heap.size := h2.hd.lt
    have hbz : w.heap.size ≤ wc.heap.size := hbw.size
    clear hb1 hbc HH hbw
    obtain ⟨m, hm⟩ : ∃ m : Nat, o.a = (m : Int) := ⟨o.a.toNat, by omega⟩
    have hm4 : m < 4 := by omega
    have hmi : (m : Int) < 4 := by omega
    have g0 := h2.hd.reg m hm4
    obtain ⟨l, hl⟩ : ∃ l : Nat, o.b = (l : Int) := ⟨o.b.toNat, by omega⟩
    obtain ⟨q, hq⟩ : ∃ q : Nat, o.c = (q : Int) := ⟨o.c.toNat, by omega⟩
    have hl4 : l < 4 := by omega
    have hq4 : q < 4 := by omega
    have hli : (l : Int) < 4 := by omega
    have hqi : (q : Int) < 4 := by omega
    have g1 := h2.hd.reg l hl4
    have g2 := h2.hd.reg q hq4
    have hR : Hid (runW o x = ⟨x.nx + 1, x.is, x.n, putAt x.regs m (arithF 3 (x.regs l) (x.regs q)), x.code, x.over⟩) := by show _ = _; unfold runW; rw [if_neg (by omega), if_neg (by omega), if_neg (by omega), if_pos (by omega), hm, hl, hq, hk]; rfl
    rw [hk] at o0
    rw [hm] at o1
    rw [hl] at o2
    rw [hq] at o3
    clear hp hpl
    go_wp2_with fail
    refine wp_region_still_tail 23 (by kernel_rfl) (by kernel_rfl) ?_
    simp only [List.take_succ_cons, List.take_zero, List.drop_succ_cons, List.drop_zero]
    repeat (first | still_step | still_call (reckon_any _ _ _ _))
    refine wpStill_nil ?_
    go_wp2_with fail
    rw [castN]
    exact bodyPost_ret (v := .tuple #[.int .i64 1, .int .i64 (-1)]) (by simp [results, Tryd.results51, go_sem]) rfl ⟨by rw [hst.out], ⟨vs, st, by rw [hst.out]; exact hR.out ▸ ((h2.reg HO.out hm4 _).place (x.nx + 1) (Nat.le_succ _)).later (Below.refl _ _).drew, .inl rfl⟩, (hGw.trans (Grew.of_grown (grown_trans (grown_setCell wc ⟨G, 3 + m, none⟩ _) (grown_setCell _ ⟨G, 2, none⟩ _)) (.inl rfl))).drew⟩

set_option maxRecDepth 100000 in
set_option maxHeartbeats 2000000 in
theorem hs_ar4 (h : HB w N NB G D dv b d V x vs st T) (ho : x.over = false) (hn : x.nx < d.length) (hk : d[x.nx].k = 4) (hck : (checkF d).1 = 0) :
    Calls Tryd.prog 51 #[.pointer (some ⟨G, 0, none⟩), .pointer (some ⟨D, 0, none⟩)] w (HStep w N NB G D dv b d V vs (stepW T d (b : Int) x)) := by
  have q0 := h.hd.over
  rw [ho] at q0
  have q1 := h.hd.place
  have q2 := h.hd.deed
  have hd14 := check_len hck
  have hp := alone_parts (checkF_alone hck _ (List.getElem_mem hn))
  have hpl := check_places hck x.nx hn
  have hst : Hid (stepW T d (b : Int) x = ⟨1, -1, runW d[x.nx] x, T⟩) := stepW_run ho hn (by omega) (by omega)
  have h14 : st.length ≤ 14 := by have := h.sl; omega
  have HO : Hid (x.over = false) := ho
  obtain ⟨da, dcap, rfl, hdd⟩ := h.dd
  obtain ⟨sb, off, hsb, rfl, c0, c1, c2, c3, c4⟩ := hdd x.nx hn
  have hni : (x.nx : Int) < (d.length : Int) := by omega
  have hnl : ¬ (d.length : Int) ≤ (x.nx : Int) := by omega
  have hn14 : x.nx < 14 := by omega
  have HH : Hid (HB w N NB G D (.slice (some ⟨sb, off, none⟩) d.length dcap) b d V x vs st T) := h
  clear ho hdd h hck
  generalize d[x.nx] = o at *
  go_enter Tryd.func51, Tryd.ntmps51
  go_wp2_with fail
  go_quiet (fail)
  go_wp2_with fail
  obtain ⟨W1, e1⟩ : ∃ W1, W1 = w.drewN nq := ⟨_, rfl⟩
  have hb1 : Below w.heap.size w W1 := by rw [e1]; exact drewN_below (Below.refl _ _) _
  rw [← e1]
  clear e1
  replace q1 := cell_later hb1 q1
  replace q2 := cell_later hb1 q2
  replace c0 := cell_later hb1 c0
  replace c1 := cell_later hb1 c1
  replace c2 := cell_later hb1 c2
  replace c3 := cell_later hb1 c3
  replace c4 := cell_later hb1 c4
  clear q0
  have hGz : G < W1.heap.size := World.block_lt_of_cell? W1 _ q1
  have hsz : sb < W1.heap.size := World.block_lt_of_cell? W1 _ c0
  go_cut [6] from 29 (fun p6 wc => ∃ P, p6 = .pointer (some ⟨P, 0, none⟩) ∧ OpAt wc P o ∧ W1.heap.size ≤ P ∧ Below W1.heap.size W1 wc)
  case first =>
    go_region
    all_goals go_wp2_with fail
    all_goals go_meet
    all_goals exact ⟨_, rfl, ⟨by go_simp, by go_simp, by go_simp, by go_simp, by go_simp⟩, Nat.le_refl _, ((Below.refl _ _).alloc (Nat.le_refl _) _).drew⟩
  case rest =>
    obtain ⟨P, rfl, hop, hP, hbc⟩ := hcut
    have hbw : Below w.heap.size w wc := hb1.trans (hbc.mono hb1.size)
    have h2 := HH.out.later hbw
    have hGw : Grew (handS G V vs) w wc := Grew.of_below hbw
    have hPG : ¬ P = G := by omega
    obtain ⟨o0, o1, o2, o3, o4⟩ := hop
    clear q1 q2 c0 c1 c2 c3 c4
    have q1 := h2.hd.place
    have hf := h2.hd.free
    have hPz : P < wc.heap.size := World.block_lt_of_cell? wc _ o0
    have hGc : G < wc.heap.size := h2.hd.lt
    have hbz : w.heap.size ≤ wc.heap.size := hbw.size
    clear hb1 hbc HH hbw
    obtain ⟨m, hm⟩ : ∃ m : Nat, o.a = (m : Int) := ⟨o.a.toNat, by omega⟩
    have hm4 : m < 4 := by omega
    have hmi : (m : Int) < 4 := by omega
    have g0 := h2.hd.reg m hm4
    obtain ⟨l, hl⟩ : ∃ l : Nat, o.b = (l : Int) := ⟨o.b.toNat, by omega⟩
    obtain ⟨q, hq⟩ : ∃ q : Nat, o.c = (q : Int) := ⟨o.c.toNat, by omega⟩
    have hl4 : l < 4 := by omega
    have hq4 : q < 4 := by omega
    have hli : (l : Int) < 4 := by omega
    have hqi : (q : Int) < 4 := by omega
    have g1 := h2.hd.reg l hl4
    have g2 := h2.hd.reg q hq4
    have hR : Hid (runW o x = ⟨x.nx + 1, x.is, x.n, putAt x.regs m (arithF 4 (x.regs l) (x.regs q)), x.code, x.over⟩) := by show _ = _; unfold runW; rw [if_neg (by omega), if_neg (by omega), if_neg (by omega), if_pos (by omega), hm, hl, hq, hk]; rfl
    rw [hk] at o0
    rw [hm] at o1
    rw [hl] at o2
    rw [hq] at o3
    clear hp hpl
    go_wp2_with fail
    refine wp_region_still_tail 23 (by kernel_rfl) (by kernel_rfl) ?_
    simp only [List.take_succ_cons, List.take_zero, List.drop_succ_cons, List.drop_zero]
    repeat (first | still_step | still_call (reckon_any _ _ _ _))
    refine wpStill_nil ?_
    go_wp2_with fail
    rw [castN]
    exact bodyPost_ret (v := .tuple #[.int .i64 1, .int .i64 (-1)]) (by simp [results, Tryd.results51, go_sem]) rfl ⟨by rw [hst.out], ⟨vs, st, by rw [hst.out]; exact hR.out ▸ ((h2.reg HO.out hm4 _).place (x.nx + 1) (Nat.le_succ _)).later (Below.refl _ _).drew, .inl rfl⟩, (hGw.trans (Grew.of_grown (grown_trans (grown_setCell wc ⟨G, 3 + m, none⟩ _) (grown_setCell _ ⟨G, 2, none⟩ _)) (.inl rfl))).drew⟩

set_option maxRecDepth 100000 in
set_option maxHeartbeats 2000000 in
theorem hs_ar5 (h : HB w N NB G D dv b d V x vs st T) (ho : x.over = false) (hn : x.nx < d.length) (hk : d[x.nx].k = 5) (hck : (checkF d).1 = 0) :
    Calls Tryd.prog 51 #[.pointer (some ⟨G, 0, none⟩), .pointer (some ⟨D, 0, none⟩)] w (HStep w N NB G D dv b d V vs (stepW T d (b : Int) x)) := by
  have q0 := h.hd.over
  rw [ho] at q0
  have q1 := h.hd.place
  have q2 := h.hd.deed
  have hd14 := check_len hck
  have hp := alone_parts (checkF_alone hck _ (List.getElem_mem hn))
  have hpl := check_places hck x.nx hn
  have hst : Hid (stepW T d (b : Int) x = ⟨1, -1, runW d[x.nx] x, T⟩) := stepW_run ho hn (by omega) (by omega)
  have h14 : st.length ≤ 14 := by have := h.sl; omega
  have HO : Hid (x.over = false) := ho
  obtain ⟨da, dcap, rfl, hdd⟩ := h.dd
  obtain ⟨sb, off, hsb, rfl, c0, c1, c2, c3, c4⟩ := hdd x.nx hn
  have hni : (x.nx : Int) < (d.length : Int) := by omega
  have hnl : ¬ (d.length : Int) ≤ (x.nx : Int) := by omega
  have hn14 : x.nx < 14 := by omega
  have HH : Hid (HB w N NB G D (.slice (some ⟨sb, off, none⟩) d.length dcap) b d V x vs st T) := h
  clear ho hdd h hck
  generalize d[x.nx] = o at *
  go_enter Tryd.func51, Tryd.ntmps51
  go_wp2_with fail
  go_quiet (fail)
  go_wp2_with fail
  obtain ⟨W1, e1⟩ : ∃ W1, W1 = w.drewN nq := ⟨_, rfl⟩
  have hb1 : Below w.heap.size w W1 := by rw [e1]; exact drewN_below (Below.refl _ _) _
  rw [← e1]
  clear e1
  replace q1 := cell_later hb1 q1
  replace q2 := cell_later hb1 q2
  replace c0 := cell_later hb1 c0
  replace c1 := cell_later hb1 c1
  replace c2 := cell_later hb1 c2
  replace c3 := cell_later hb1 c3
  replace c4 := cell_later hb1 c4
  clear q0
  have hGz : G < W1.heap.size := World.block_lt_of_cell? W1 _ q1
  have hsz : sb < W1.heap.size := World.block_lt_of_cell? W1 _ c0
  go_cut [6] from 29 (fun p6 wc => ∃ P, p6 = .pointer (some ⟨P, 0, none⟩) ∧ OpAt wc P o ∧ W1.heap.size ≤ P ∧ Below W1.heap.size W1 wc)
  case first =>
    go_region
    all_goals go_wp2_with fail
    all_goals go_meet
    all_goals exact ⟨_, rfl, ⟨by go_simp, by go_simp, by go_simp, by go_simp, by go_simp⟩, Nat.le_refl _, ((Below.refl _ _).alloc (Nat.le_refl _) _).drew⟩
  case rest =>
    obtain ⟨P, rfl, hop, hP, hbc⟩ := hcut
    have hbw : Below w.heap.size w wc := hb1.trans (hbc.mono hb1.size)
    have h2 := HH.out.later hbw
    have hGw : Grew (handS G V vs) w wc := Grew.of_below hbw
    have hPG : ¬ P = G := by omega
    obtain ⟨o0, o1, o2, o3, o4⟩ := hop
    clear q1 q2 c0 c1 c2 c3 c4
    have q1 := h2.hd.place
    have hf := h2.hd.free
    have hPz : P < wc.heap.size := World.block_lt_of_cell? wc _ o0
    have hGc : G < wc.heap.size := h2.hd.lt
    have hbz : w.heap.size ≤ wc.heap.size := hbw.size
    clear hb1 hbc HH hbw
    obtain ⟨m, hm⟩ : ∃ m : Nat, o.a = (m : Int) := ⟨o.a.toNat, by omega⟩
    have hm4 : m < 4 := by omega
    have hmi : (m : Int) < 4 := by omega
    have g0 := h2.hd.reg m hm4
    obtain ⟨l, hl⟩ : ∃ l : Nat, o.b = (l : Int) := ⟨o.b.toNat, by omega⟩
    obtain ⟨q, hq⟩ : ∃ q : Nat, o.c = (q : Int) := ⟨o.c.toNat, by omega⟩
    have hl4 : l < 4 := by omega
    have hq4 : q < 4 := by omega
    have hli : (l : Int) < 4 := by omega
    have hqi : (q : Int) < 4 := by omega
    have g1 := h2.hd.reg l hl4
    have g2 := h2.hd.reg q hq4
    have hR : Hid (runW o x = ⟨x.nx + 1, x.is, x.n, putAt x.regs m (arithF 5 (x.regs l) (x.regs q)), x.code, x.over⟩) := by show _ = _; unfold runW; rw [if_neg (by omega), if_neg (by omega), if_neg (by omega), if_pos (by omega), hm, hl, hq, hk]; rfl
    rw [hk] at o0
    rw [hm] at o1
    rw [hl] at o2
    rw [hq] at o3
    clear hp hpl
    go_wp2_with fail
    refine wp_region_still_tail 23 (by kernel_rfl) (by kernel_rfl) ?_
    simp only [List.take_succ_cons, List.take_zero, List.drop_succ_cons, List.drop_zero]
    repeat (first | still_step | still_call (reckon_any _ _ _ _))
    refine wpStill_nil ?_
    go_wp2_with fail
    rw [castN]
    exact bodyPost_ret (v := .tuple #[.int .i64 1, .int .i64 (-1)]) (by simp [results, Tryd.results51, go_sem]) rfl ⟨by rw [hst.out], ⟨vs, st, by rw [hst.out]; exact hR.out ▸ ((h2.reg HO.out hm4 _).place (x.nx + 1) (Nat.le_succ _)).later (Below.refl _ _).drew, .inl rfl⟩, (hGw.trans (Grew.of_grown (grown_trans (grown_setCell wc ⟨G, 3 + m, none⟩ _) (grown_setCell _ ⟨G, 2, none⟩ _)) (.inl rfl))).drew⟩

set_option maxRecDepth 100000 in
set_option maxHeartbeats 2000000 in
theorem hs_ar6 (h : HB w N NB G D dv b d V x vs st T) (ho : x.over = false) (hn : x.nx < d.length) (hk : d[x.nx].k = 6) (hck : (checkF d).1 = 0) :
    Calls Tryd.prog 51 #[.pointer (some ⟨G, 0, none⟩), .pointer (some ⟨D, 0, none⟩)] w (HStep w N NB G D dv b d V vs (stepW T d (b : Int) x)) := by
  have q0 := h.hd.over
  rw [ho] at q0
  have q1 := h.hd.place
  have q2 := h.hd.deed
  have hd14 := check_len hck
  have hp := alone_parts (checkF_alone hck _ (List.getElem_mem hn))
  have hpl := check_places hck x.nx hn
  have hst : Hid (stepW T d (b : Int) x = ⟨1, -1, runW d[x.nx] x, T⟩) := stepW_run ho hn (by omega) (by omega)
  have h14 : st.length ≤ 14 := by have := h.sl; omega
  have HO : Hid (x.over = false) := ho
  obtain ⟨da, dcap, rfl, hdd⟩ := h.dd
  obtain ⟨sb, off, hsb, rfl, c0, c1, c2, c3, c4⟩ := hdd x.nx hn
  have hni : (x.nx : Int) < (d.length : Int) := by omega
  have hnl : ¬ (d.length : Int) ≤ (x.nx : Int) := by omega
  have hn14 : x.nx < 14 := by omega
  have HH : Hid (HB w N NB G D (.slice (some ⟨sb, off, none⟩) d.length dcap) b d V x vs st T) := h
  clear ho hdd h hck
  generalize d[x.nx] = o at *
  go_enter Tryd.func51, Tryd.ntmps51
  go_wp2_with fail
  go_quiet (fail)
  go_wp2_with fail
  obtain ⟨W1, e1⟩ : ∃ W1, W1 = w.drewN nq := ⟨_, rfl⟩
  have hb1 : Below w.heap.size w W1 := by rw [e1]; exact drewN_below (Below.refl _ _) _
  rw [← e1]
  clear e1
  replace q1 := cell_later hb1 q1
  replace q2 := cell_later hb1 q2
  replace c0 := cell_later hb1 c0
  replace c1 := cell_later hb1 c1
  replace c2 := cell_later hb1 c2
  replace c3 := cell_later hb1 c3
  replace c4 := cell_later hb1 c4
  clear q0
  have hGz : G < W1.heap.size := World.block_lt_of_cell? W1 _ q1
  have hsz : sb < W1.heap.size := World.block_lt_of_cell? W1 _ c0
  go_cut [6] from 29 (fun p6 wc => ∃ P, p6 = .pointer (some ⟨P, 0, none⟩) ∧ OpAt wc P o ∧ W1.heap.size ≤ P ∧ Below W1.heap.size W1 wc)
  case first =>
    go_region
    all_goals go_wp2_with fail
    all_goals go_meet
    all_goals exact ⟨_, rfl, ⟨by go_simp, by go_simp, by go_simp, by go_simp, by go_simp⟩, Nat.le_refl _, ((Below.refl _ _).alloc (Nat.le_refl _) _).drew⟩
  case rest =>
    obtain ⟨P, rfl, hop, hP, hbc⟩ := hcut
    have hbw : Below w.heap.size w wc := hb1.trans (hbc.mono hb1.size)
    have h2 := HH.out.later hbw
    have hGw : Grew (handS G V vs) w wc := Grew.of_below hbw
    have hPG : ¬ P = G := by omega
    obtain ⟨o0, o1, o2, o3, o4⟩ := hop
    clear q1 q2 c0 c1 c2 c3 c4
    have q1 := h2.hd.place
    have hf := h2.hd.free
    have hPz : P < wc.heap.size := World.block_lt_of_cell? wc _ o0
    have hGc : G < wc.heap.size := h2.hd.lt
    have hbz : w.heap.size ≤ wc.heap.size := hbw.size
    clear hb1 hbc HH hbw
    obtain ⟨m, hm⟩ : ∃ m : Nat, o.a = (m : Int) := ⟨o.a.toNat, by omega⟩
    have hm4 : m < 4 := by omega
    have hmi : (m : Int) < 4 := by omega
    have g0 := h2.hd.reg m hm4
    obtain ⟨l, hl⟩ : ∃ l : Nat, o.b = (l : Int) := ⟨o.b.toNat, by omega⟩
    obtain ⟨q, hq⟩ : ∃ q : Nat, o.c = (q : Int) := ⟨o.c.toNat, by omega⟩
    have hl4 : l < 4 := by omega
    have hq4 : q < 4 := by omega
    have hli : (l : Int) < 4 := by omega
    have hqi : (q : Int) < 4 := by omega
    have g1 := h2.hd.reg l hl4
    have g2 := h2.hd.reg q hq4
    have hR : Hid (runW o x = ⟨x.nx + 1, x.is, x.n, putAt x.regs m (arithF 6 (x.regs l) (x.regs q)), x.code, x.over⟩) := by show _ = _; unfold runW; rw [if_neg (by omega), if_neg (by omega), if_neg (by omega), if_pos (by omega), hm, hl, hq, hk]; rfl
    rw [hk] at o0
    rw [hm] at o1
    rw [hl] at o2
    rw [hq] at o3
    clear hp hpl
    go_wp2_with fail
    refine wp_region_still_tail 23 (by kernel_rfl) (by kernel_rfl) ?_
    simp only [List.take_succ_cons, List.take_zero, List.drop_succ_cons, List.drop_zero]
    repeat (first | still_step | still_call (reckon_any _ _ _ _))
    refine wpStill_nil ?_
    go_wp2_with fail
    rw [castN]
    exact bodyPost_ret (v := .tuple #[.int .i64 1, .int .i64 (-1)]) (by simp [results, Tryd.results51, go_sem]) rfl ⟨by rw [hst.out], ⟨vs, st, by rw [hst.out]; exact hR.out ▸ ((h2.reg HO.out hm4 _).place (x.nx + 1) (Nat.le_succ _)).later (Below.refl _ _).drew, .inl rfl⟩, (hGw.trans (Grew.of_grown (grown_trans (grown_setCell wc ⟨G, 3 + m, none⟩ _) (grown_setCell _ ⟨G, 2, none⟩ _)) (.inl rfl))).drew⟩

end
end Go.Proofs.YthlhbmldfjkagaaDoor
