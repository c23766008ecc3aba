/-
  The walks of Hand.Step, kind by kind.
-/
import Derived.Test.YthlhbmldfjkagaaDoorHdB
import Derived.Test.YthlhbmldfjkagaaDoorWalkU
import Derived.Test.YthlhbmldfjkagaaDoorWorkB
import Derived.StillTailTactics
namespace Go.Proofs.YthlhbmldfjkagaaDoor
open Go.RowKit Go.Shelf

def HStep (w : World) (N NB G D : Nat) (dv : Value) (b : Nat) (d : List Op5) (V : Nat → Value) (vs : Value) (o : StepOut) (e : Ending) (w' : World) : Prop :=
  e = .returned (.tuple #[.int .i64 o.what, .int .i64 o.who]) ∧ (∃ vs' st', HB w' N NB G D dv b d V o.x vs' st' o.T ∧ (vs'.ownBlock = vs.ownBlock ∨ ∃ g, vs'.ownBlock = some g ∧ w.heap.size ≤ g)) ∧ Grew (handS G V vs) w w'

/-- An operation in a box. -/
structure OpAt (w : World) (P : Nat) (o : Op5) : Prop where
  k : w.cell? ⟨P, 0, none⟩ = some (.int .i64 o.k)
  a : w.cell? ⟨P, 1, none⟩ = some (.int .i64 o.a)
  b : w.cell? ⟨P, 2, none⟩ = some (.int .i64 o.b)
  c : w.cell? ⟨P, 3, none⟩ = some (.int .i64 o.c)
  n : w.cell? ⟨P, 4, none⟩ = some (.int .i64 o.n)

theorem OpAt.later {w w' : World} {P : Nat} {o : Op5} (h : OpAt w P o) (hb : Below w.heap.size w w') : OpAt w' P o := ⟨cell_later hb h.k, cell_later hb h.a, cell_later hb h.b, cell_later hb h.c, cell_later hb h.n⟩
theorem HandAt.setReg {w : World} {G : Nat} {dv : Value} {b : Nat} {x : Wk} {vs : Value} (h : HandAt w G dv b x vs) (ho : x.over = false) {m : Nat} (hm : m < 4) (n : Int) : HandAt (w.setCell ⟨G, 3 + m, none⟩ (.int .i64 n)) G dv b ⟨x.nx, x.is, x.n, putAt x.regs m n, x.code, x.over⟩ vs := by
  have hc := h.code
  have hr := h.res
  rw [ho] at hc hr
  refine ⟨by rw [cell_apart _ (by omega)]; exact h.deed, by rw [cell_apart _ (by omega)]; exact h.num, by rw [cell_apart _ (by omega)]; exact h.place, fun k hk => ?_, by rw [cell_apart _ (by omega)]; exact h.sto, by rw [cell_apart _ (by omega)]; exact h.over, ?_, fun k hk => ?_, fun o => by rw [World.frozen?_setCell]; exact h.free o⟩
  · by_cases e : k = m
    · subst e; rw [World.cell?_setCell_same _ _ _ (h.reg k hk)]; simp [putAt]
    · rw [cell_apart _ (by omega), h.reg k hk]; simp [putAt, e]
  · show _ = some (Value.int .i64 (if x.over then x.code else 0))
    rw [ho, cell_apart _ (by omega)]; exact hc
  · show _ = some (Value.int .i64 (if x.over then putAt x.regs m n k else 0))
    rw [ho, cell_apart _ (by omega)]; exact hr k hk
theorem HandAt.setPlace {w : World} {G : Nat} {dv : Value} {b : Nat} {x : Wk} {vs : Value} (h : HandAt w G dv b x vs) (n : Nat) : HandAt (w.setCell ⟨G, 2, none⟩ (.int .i64 (n : Int))) G dv b ⟨n, x.is, x.n, x.regs, x.code, x.over⟩ vs :=
  ⟨by rw [cell_apart _ (by omega)]; exact h.deed, by rw [cell_apart _ (by omega)]; exact h.num, World.cell?_setCell_same _ _ _ h.place, fun k hk => by rw [cell_apart _ (by omega)]; exact h.reg k hk, by rw [cell_apart _ (by omega)]; exact h.sto, by rw [cell_apart _ (by omega)]; exact h.over, by rw [cell_apart _ (by omega)]; exact h.code, fun k hk => by rw [cell_apart _ (by omega)]; exact h.res k hk, fun o => by rw [World.frozen?_setCell]; exact h.free o⟩
theorem HB.reg {w : World} {N NB G D : Nat} {dv : Value} {b : Nat} {d : List Op5} {V : Nat → Value} {x : Wk} {vs : Value} {st : List Op5} {T : Nat → List Slot4} (h : HB w N NB G D dv b d V x vs st T) (ho : x.over = false) {m : Nat} (hm : m < 4) (n : Int) : HB (w.setCell ⟨G, 3 + m, none⟩ (.int .i64 n)) N NB G D dv b d V ⟨x.nx, x.is, x.n, putAt x.regs m n, x.code, x.over⟩ vs st T :=
  h.hand (h.hd.setReg ho hm n) (grown_setCell w ⟨G, 3 + m, none⟩ _) h.put h.sl
theorem HB.place {w : World} {N NB G D : Nat} {dv : Value} {b : Nat} {d : List Op5} {V : Nat → Value} {x : Wk} {vs : Value} {st : List Op5} {T : Nat → List Slot4} (h : HB w N NB G D dv b d V x vs st T) (n : Nat) (hn : x.nx ≤ n) : HB (w.setCell ⟨G, 2, none⟩ (.int .i64 (n : Int))) N NB G D dv b d V ⟨n, x.is, x.n, x.regs, x.code, x.over⟩ vs st T :=
  h.hand (h.hd.setPlace n) (grown_setCell w ⟨G, 2, none⟩ _) h.put (Nat.le_trans h.sl hn)

section
variable {w : World} {N NB G D : Nat} {dv : Value} {b : Nat} {d : List Op5} {V : Nat → Value} {x : Wk} {vs : Value} {st : List Op5} {T : Nat → List Slot4}

set_option maxRecDepth 100000 in
set_option maxHeartbeats 1000000 in
theorem hs_over (h : HB w N NB G D dv b d V x vs st T) (ho : x.over = true) :
    Calls Tryd.prog 51 #[.pointer (some ⟨G, 0, none⟩), .pointer (some ⟨D, 0, none⟩)] w (HStep w N NB G D dv b d V vs (stepW T d (b : Int) x)) := by
  have q0 := h.hd.over
  rw [ho] at q0
  have hst : Hid (stepW T d (b : Int) x = ⟨3, -1, x, T⟩) := stepW_over ho
  clear ho
  have H : Hid _ := h
  clear h
  go_enter Tryd.func51, Tryd.ntmps51
  go_wp2_with fail
  exact bodyPost_ret (v := .tuple #[.int .i64 3, .int .i64 (-1)]) (by simp [results, Tryd.results51, go_sem]) rfl ⟨by rw [hst.out], ⟨vs, st, by rw [hst.out]; exact H.out, .inl rfl⟩, Grew.refl _ _⟩

set_option maxRecDepth 100000 in
set_option maxHeartbeats 1000000 in
theorem hs_end (h : HB w N NB G D dv b d V x vs st T) (ho : x.over = false) (hn : ¬ x.nx < d.length) (hd14 : d.length ≤ 14) (hx14 : x.nx ≤ 14) :
    Calls Tryd.prog 51 #[.pointer (some ⟨G, 0, none⟩), .pointer (some ⟨D, 0, none⟩)] w (HStep w N NB G D dv b d V vs (stepW T d (b : Int) x)) := by
  have q0 := h.hd.over
  rw [ho] at q0
  have q1 := h.hd.place
  have q2 := h.hd.deed
  have hst : Hid (stepW T d (b : Int) x = ⟨3, -1, overW x 0, endTo T x (b : Int) (keysF d)⟩) := stepW_end ho hn
  have HE : Hid (∀ n, Calls Tryd.prog 73 #[.pointer (some ⟨G, 0, none⟩), .pointer (some ⟨D, 0, none⟩), .int .i64 0] (w.drewN n) fun e w' => e = .returned (.tuple #[]) ∧ HB w' N NB G D dv b d V (overW x 0) vs st (endTo T x (b : Int) (keysF d)) ∧ Grew (handS G V vs) w w') := fun n => by
    refine (handEnd_any 0 (h.later (drewN_below (Below.refl _ _) n)) hd14 (by have := h.sl; omega) (.inl rfl)).mono ?_
    rintro e w' ⟨he, h1, hg⟩
    exact ⟨he, h1, (Grew.of_below (drewN_below (Below.refl _ _) n)).trans hg⟩
  obtain ⟨da, dcap, rfl, -⟩ := h.dd
  have hge : (d.length : Int) ≤ (x.nx : Int) := by omega
  clear ho h
  go_enter Tryd.func51, Tryd.ntmps51
  go_wp2_with fail
  go_quiet (fail)
  go_wp2_with fail
  refine (HE.out _).mono ?_
  rintro e w1 ⟨rfl, h1, hg⟩
  go_wp2_with fail
  exact bodyPost_ret (v := .tuple #[.int .i64 3, .int .i64 (-1)]) (by simp [results, Tryd.results51, go_sem]) rfl ⟨by rw [hst.out], ⟨vs, st, by rw [hst.out]; exact h1, .inl rfl⟩, hg⟩

set_option maxRecDepth 100000 in
set_option maxHeartbeats 2000000 in
theorem hs_num (h : HB w N NB G D dv b d V x vs st T) (ho : x.over = false) (hn : x.nx < d.length) (hk : d[x.nx].k = 1) (hck : (checkF d).1 = 0) :
    Calls Tryd.prog 51 #[.pointer (some ⟨G, 0, none⟩), .pointer (some ⟨D, 0, none⟩)] w (HStep w N NB G D dv b d V vs (stepW T d (b : Int) x)) := by
  have q0 := h.hd.over
  rw [ho] at q0
  have q1 := h.hd.place
  have q2 := h.hd.deed
  have hd14 := check_len hck
  have hp := alone_parts (checkF_alone hck _ (List.getElem_mem hn))
  have hpl := check_places hck x.nx hn
  have hst : Hid (stepW T d (b : Int) x = ⟨1, -1, runW d[x.nx] x, T⟩) := stepW_run ho hn (by omega) (by omega)
  have h14 : st.length ≤ 14 := by have := h.sl; omega
  have HO : Hid (x.over = false) := ho
  obtain ⟨da, dcap, rfl, hdd⟩ := h.dd
  obtain ⟨sb, off, hsb, rfl, c0, c1, c2, c3, c4⟩ := hdd x.nx hn
  have hni : (x.nx : Int) < (d.length : Int) := by omega
  have hnl : ¬ (d.length : Int) ≤ (x.nx : Int) := by omega
  have hn14 : x.nx < 14 := by omega
  have HH : Hid (HB w N NB G D (.slice (some ⟨sb, off, none⟩) d.length dcap) b d V x vs st T) := h
  clear ho hdd h hck
  generalize d[x.nx] = o at *
  go_enter Tryd.func51, Tryd.ntmps51
  go_wp2_with fail
  go_quiet (fail)
  go_wp2_with fail
  obtain ⟨W1, e1⟩ : ∃ W1, W1 = w.drewN nq := ⟨_, rfl⟩
  have hb1 : Below w.heap.size w W1 := by rw [e1]; exact drewN_below (Below.refl _ _) _
  rw [← e1]
  clear e1
  replace q1 := cell_later hb1 q1
  replace q2 := cell_later hb1 q2
  replace c0 := cell_later hb1 c0
  replace c1 := cell_later hb1 c1
  replace c2 := cell_later hb1 c2
  replace c3 := cell_later hb1 c3
  replace c4 := cell_later hb1 c4
  clear q0
  have hGz : G < W1.heap.size := World.block_lt_of_cell? W1 _ q1
  have hsz : sb < W1.heap.size := World.block_lt_of_cell? W1 _ c0
  go_cut [6] from 29 (fun p6 wc => ∃ P, p6 = .pointer (some ⟨P, 0, none⟩) ∧ OpAt wc P o ∧ W1.heap.size ≤ P ∧ Below W1.heap.size W1 wc)
  case first =>
    go_region
    all_goals go_wp2_with fail
    all_goals go_meet
    all_goals exact ⟨_, rfl, ⟨by go_simp, by go_simp, by go_simp, by go_simp, by go_simp⟩, Nat.le_refl _, ((Below.refl _ _).alloc (Nat.le_refl _) _).drew⟩
  case rest =>
    obtain ⟨P, rfl, hop, hP, hbc⟩ := hcut
    have hbw : Below w.heap.size w wc := hb1.trans (hbc.mono hb1.size)
    have h2 := HH.out.later hbw
    have hGw : Grew (handS G V vs) w wc := Grew.of_below hbw
    have hPG : ¬ P = G := by omega
    obtain ⟨o0, o1, o2, o3, o4⟩ := hop
    clear q1 q2 c0 c1 c2 c3 c4
    have q1 := h2.hd.place
    have hf := h2.hd.free
    have hPz : P < wc.heap.size := World.block_lt_of_cell? wc _ o0
    have hGc : G < wc.heap.size := h2.hd.lt
    have hbz : w.heap.size ≤ wc.heap.size := hbw.size
    clear hb1 hbc HH hbw
    obtain ⟨m, hm⟩ : ∃ m : Nat, o.a = (m : Int) := ⟨o.a.toNat, by omega⟩
    have hm4 : m < 4 := by omega
    have hmi : (m : Int) < 4 := by omega
    have g0 := h2.hd.reg m hm4
    have hR : Hid (runW o x = ⟨x.nx + 1, x.is, x.n, putAt x.regs m o.n, x.code, x.over⟩) := by show _ = _; unfold runW; rw [if_pos hk, hm]; rfl
    rw [hk] at o0
    rw [hm] at o1
    clear hp hpl
    go_wp2_with fail
    go_region
    all_goals go_wp2_with fail
    all_goals rw [castN]
    all_goals exact bodyPost_ret (v := .tuple #[.int .i64 1, .int .i64 (-1)]) (by simp [results, Tryd.results51, go_sem]) rfl ⟨by rw [hst.out], ⟨vs, st, by rw [hst.out]; exact hR.out ▸ ((h2.reg HO.out hm4 o.n).place (x.nx + 1) (Nat.le_succ _)).later (Below.refl _ _).drew, .inl rfl⟩, (hGw.trans (Grew.of_grown (grown_trans (grown_setCell wc ⟨G, 3 + m, none⟩ _) (grown_setCell _ ⟨G, 2, none⟩ _)) (.inl rfl))).drew⟩

set_option maxRecDepth 100000 in
set_option maxHeartbeats 2000000 in
theorem hs_skip0 (h : HB w N NB G D dv b d V x vs st T) (ho : x.over = false) (hn : x.nx < d.length) (hk : d[x.nx].k = 9) (hz : x.regs d[x.nx].a.toNat = 0) (hck : (checkF d).1 = 0) :
    Calls Tryd.prog 51 #[.pointer (some ⟨G, 0, none⟩), .pointer (some ⟨D, 0, none⟩)] w (HStep w N NB G D dv b d V vs (stepW T d (b : Int) x)) := by
  have q0 := h.hd.over
  rw [ho] at q0
  have q1 := h.hd.place
  have q2 := h.hd.deed
  have hd14 := check_len hck
  have hp := alone_parts (checkF_alone hck _ (List.getElem_mem hn))
  have hpl := check_places hck x.nx hn
  have hst : Hid (stepW T d (b : Int) x = ⟨1, -1, runW d[x.nx] x, T⟩) := stepW_run ho hn (by omega) (by omega)
  have h14 : st.length ≤ 14 := by have := h.sl; omega
  have HO : Hid (x.over = false) := ho
  obtain ⟨da, dcap, rfl, hdd⟩ := h.dd
  obtain ⟨sb, off, hsb, rfl, c0, c1, c2, c3, c4⟩ := hdd x.nx hn
  have hni : (x.nx : Int) < (d.length : Int) := by omega
  have hnl : ¬ (d.length : Int) ≤ (x.nx : Int) := by omega
  have hn14 : x.nx < 14 := by omega
  have HH : Hid (HB w N NB G D (.slice (some ⟨sb, off, none⟩) d.length dcap) b d V x vs st T) := h
  clear ho hdd h hck
  generalize d[x.nx] = o at *
  go_enter Tryd.func51, Tryd.ntmps51
  go_wp2_with fail
  go_quiet (fail)
  go_wp2_with fail
  obtain ⟨W1, e1⟩ : ∃ W1, W1 = w.drewN nq := ⟨_, rfl⟩
  have hb1 : Below w.heap.size w W1 := by rw [e1]; exact drewN_below (Below.refl _ _) _
  rw [← e1]
  clear e1
  replace q1 := cell_later hb1 q1
  replace q2 := cell_later hb1 q2
  replace c0 := cell_later hb1 c0
  replace c1 := cell_later hb1 c1
  replace c2 := cell_later hb1 c2
  replace c3 := cell_later hb1 c3
  replace c4 := cell_later hb1 c4
  clear q0
  have hGz : G < W1.heap.size := World.block_lt_of_cell? W1 _ q1
  have hsz : sb < W1.heap.size := World.block_lt_of_cell? W1 _ c0
  go_cut [6] from 29 (fun p6 wc => ∃ P, p6 = .pointer (some ⟨P, 0, none⟩) ∧ OpAt wc P o ∧ W1.heap.size ≤ P ∧ Below W1.heap.size W1 wc)
  case first =>
    go_region
    all_goals go_wp2_with fail
    all_goals go_meet
    all_goals exact ⟨_, rfl, ⟨by go_simp, by go_simp, by go_simp, by go_simp, by go_simp⟩, Nat.le_refl _, ((Below.refl _ _).alloc (Nat.le_refl _) _).drew⟩
  case rest =>
    obtain ⟨P, rfl, hop, hP, hbc⟩ := hcut
    have hbw : Below w.heap.size w wc := hb1.trans (hbc.mono hb1.size)
    have h2 := HH.out.later hbw
    have hGw : Grew (handS G V vs) w wc := Grew.of_below hbw
    have hPG : ¬ P = G := by omega
    obtain ⟨o0, o1, o2, o3, o4⟩ := hop
    clear q1 q2 c0 c1 c2 c3 c4
    have q1 := h2.hd.place
    have hf := h2.hd.free
    have hPz : P < wc.heap.size := World.block_lt_of_cell? wc _ o0
    have hGc : G < wc.heap.size := h2.hd.lt
    have hbz : w.heap.size ≤ wc.heap.size := hbw.size
    clear hb1 hbc HH hbw
    obtain ⟨m, hm⟩ : ∃ m : Nat, o.a = (m : Int) := ⟨o.a.toNat, by omega⟩
    have hm4 : m < 4 := by omega
    have hmi : (m : Int) < 4 := by omega
    have g0 := h2.hd.reg m hm4
    obtain ⟨l, hl⟩ : ∃ l : Nat, o.b = (l : Int) := ⟨o.b.toNat, by omega⟩
    have hl14 : l < 14 := by omega
    have hR : Hid (runW o x = ⟨x.nx + 1 + l, x.is, x.n, x.regs, x.code, x.over⟩) := by show _ = _; unfold runW; rw [if_neg (by omega), if_neg (by omega), if_pos hk, if_pos hz, hl]; rfl
    have hcs : Hid ((x.nx : Int) + 1 + (l : Int) = ((x.nx + 1 + l : Nat) : Int)) := by show _ = _; omega
    rw [hm, Int.toNat_natCast] at hz
    rw [hz] at g0
    rw [hk] at o0
    rw [hm] at o1
    rw [hl] at o2
    clear hp hpl hz
    go_wp2_with fail
    go_quiet (fail)
    go_wp2_with fail
    rw [hcs.out]
    exact bodyPost_ret (v := .tuple #[.int .i64 1, .int .i64 (-1)]) (by simp [results, Tryd.results51, go_sem]) rfl ⟨by rw [hst.out], ⟨vs, st, by rw [hst.out]; exact hR.out ▸ (h2.later (drewN_below (Below.refl _ _) _)).place (x.nx + 1 + l) (by omega), .inl rfl⟩, (hGw.trans (Grew.of_below (drewN_below (Below.refl _ _) _))).trans (Grew.of_grown (grown_setCell _ ⟨G, 2, none⟩ _) (.inl rfl))⟩

set_option maxRecDepth 100000 in
set_option maxHeartbeats 2000000 in
theorem hs_skip1 (h : HB w N NB G D dv b d V x vs st T) (ho : x.over = false) (hn : x.nx < d.length) (hk : d[x.nx].k = 9) (hz : ¬ x.regs d[x.nx].a.toNat = 0) (hck : (checkF d).1 = 0) :
    Calls Tryd.prog 51 #[.pointer (some ⟨G, 0, none⟩), .pointer (some ⟨D, 0, none⟩)] w (HStep w N NB G D dv b d V vs (stepW T d (b : Int) x)) := by
  have q0 := h.hd.over
  rw [ho] at q0
  have q1 := h.hd.place
  have q2 := h.hd.deed
  have hd14 := check_len hck
  have hp := alone_parts (checkF_alone hck _ (List.getElem_mem hn))
  have hpl := check_places hck x.nx hn
  have hst : Hid (stepW T d (b : Int) x = ⟨1, -1, runW d[x.nx] x, T⟩) := stepW_run ho hn (by omega) (by omega)
  have h14 : st.length ≤ 14 := by have := h.sl; omega
  have HO : Hid (x.over = false) := ho
  obtain ⟨da, dcap, rfl, hdd⟩ := h.dd
  obtain ⟨sb, off, hsb, rfl, c0, c1, c2, c3, c4⟩ := hdd x.nx hn
  have hni : (x.nx : Int) < (d.length : Int) := by omega
  have hnl : ¬ (d.length : Int) ≤ (x.nx : Int) := by omega
  have hn14 : x.nx < 14 := by omega
  have HH : Hid (HB w N NB G D (.slice (some ⟨sb, off, none⟩) d.length dcap) b d V x vs st T) := h
  clear ho hdd h hck
  generalize d[x.nx] = o at *
  go_enter Tryd.func51, Tryd.ntmps51
  go_wp2_with fail
  go_quiet (fail)
  go_wp2_with fail
  obtain ⟨W1, e1⟩ : ∃ W1, W1 = w.drewN nq := ⟨_, rfl⟩
  have hb1 : Below w.heap.size w W1 := by rw [e1]; exact drewN_below (Below.refl _ _) _
  rw [← e1]
  clear e1
  replace q1 := cell_later hb1 q1
  replace q2 := cell_later hb1 q2
  replace c0 := cell_later hb1 c0
  replace c1 := cell_later hb1 c1
  replace c2 := cell_later hb1 c2
  replace c3 := cell_later hb1 c3
  replace c4 := cell_later hb1 c4
  clear q0
  have hGz : G < W1.heap.size := World.block_lt_of_cell? W1 _ q1
  have hsz : sb < W1.heap.size := World.block_lt_of_cell? W1 _ c0
  go_cut [6] from 29 (fun p6 wc => ∃ P, p6 = .pointer (some ⟨P, 0, none⟩) ∧ OpAt wc P o ∧ W1.heap.size ≤ P ∧ Below W1.heap.size W1 wc)
  case first =>
    go_region
    all_goals go_wp2_with fail
    all_goals go_meet
    all_goals exact ⟨_, rfl, ⟨by go_simp, by go_simp, by go_simp, by go_simp, by go_simp⟩, Nat.le_refl _, ((Below.refl _ _).alloc (Nat.le_refl _) _).drew⟩
  case rest =>
    obtain ⟨P, rfl, hop, hP, hbc⟩ := hcut
    have hbw : Below w.heap.size w wc := hb1.trans (hbc.mono hb1.size)
    have h2 := HH.out.later hbw
    have hGw : Grew (handS G V vs) w wc := Grew.of_below hbw
    have hPG : ¬ P = G := by omega
    obtain ⟨o0, o1, o2, o3, o4⟩ := hop
    clear q1 q2 c0 c1 c2 c3 c4
    have q1 := h2.hd.place
    have hf := h2.hd.free
    have hPz : P < wc.heap.size := World.block_lt_of_cell? wc _ o0
    have hGc : G < wc.heap.size := h2.hd.lt
    have hbz : w.heap.size ≤ wc.heap.size := hbw.size
    clear hb1 hbc HH hbw
    obtain ⟨m, hm⟩ : ∃ m : Nat, o.a = (m : Int) := ⟨o.a.toNat, by omega⟩
    have hm4 : m < 4 := by omega
    have hmi : (m : Int) < 4 := by omega
    have g0 := h2.hd.reg m hm4
    have hR : Hid (runW o x = ⟨x.nx + 1, x.is, x.n, x.regs, x.code, x.over⟩) := by show _ = _; unfold runW; rw [if_neg (by omega), if_neg (by omega), if_pos hk, if_neg hz]
    rw [hm, Int.toNat_natCast] at hz
    have tz : (x.regs m == 0) = false := by simp [hz]
    rw [hk] at o0
    rw [hm] at o1
    clear hp hpl hz
    go_wp2_with fail
    go_quiet (fail)
    go_wp2_with fail
    rw [castN]
    exact bodyPost_ret (v := .tuple #[.int .i64 1, .int .i64 (-1)]) (by simp [results, Tryd.results51, go_sem]) rfl ⟨by rw [hst.out], ⟨vs, st, by rw [hst.out]; exact hR.out ▸ (h2.later (drewN_below (Below.refl _ _) _)).place (x.nx + 1) (Nat.le_succ _), .inl rfl⟩, (hGw.trans (Grew.of_below (drewN_below (Below.refl _ _) _))).trans (Grew.of_grown (grown_setCell _ ⟨G, 2, none⟩ _) (.inl rfl))⟩

set_option maxRecDepth 100000 in
set_option maxHeartbeats 2000000 in
theorem hs_stop0 (h : HB w N NB G D dv b d V x vs st T) (ho : x.over = false) (hn : x.nx < d.length) (hk : d[x.nx].k = 8) (hz : x.regs d[x.nx].a.toNat = 0) (hck : (checkF d).1 = 0) :
    Calls Tryd.prog 51 #[.pointer (some ⟨G, 0, none⟩), .pointer (some ⟨D, 0, none⟩)] w (HStep w N NB G D dv b d V vs (stepW T d (b : Int) x)) := by
  have q0 := h.hd.over
  rw [ho] at q0
  have q1 := h.hd.place
  have q2 := h.hd.deed
  have hd14 := check_len hck
  have hp := alone_parts (checkF_alone hck _ (List.getElem_mem hn))
  have hpl := check_places hck x.nx hn
  have hst : Hid (stepW T d (b : Int) x = ⟨1, -1, runW d[x.nx] x, T⟩) := stepW_run ho hn (fun h => h.2 hz) (by omega)
  have h14 : st.length ≤ 14 := by have := h.sl; omega
  have HO : Hid (x.over = false) := ho
  obtain ⟨da, dcap, rfl, hdd⟩ := h.dd
  obtain ⟨sb, off, hsb, rfl, c0, c1, c2, c3, c4⟩ := hdd x.nx hn
  have hni : (x.nx : Int) < (d.length : Int) := by omega
  have hnl : ¬ (d.length : Int) ≤ (x.nx : Int) := by omega
  have hn14 : x.nx < 14 := by omega
  have HH : Hid (HB w N NB G D (.slice (some ⟨sb, off, none⟩) d.length dcap) b d V x vs st T) := h
  clear ho hdd h hck
  generalize d[x.nx] = o at *
  go_enter Tryd.func51, Tryd.ntmps51
  go_wp2_with fail
  go_quiet (fail)
  go_wp2_with fail
  obtain ⟨W1, e1⟩ : ∃ W1, W1 = w.drewN nq := ⟨_, rfl⟩
  have hb1 : Below w.heap.size w W1 := by rw [e1]; exact drewN_below (Below.refl _ _) _
  rw [← e1]
  clear e1
  replace q1 := cell_later hb1 q1
  replace q2 := cell_later hb1 q2
  replace c0 := cell_later hb1 c0
  replace c1 := cell_later hb1 c1
  replace c2 := cell_later hb1 c2
  replace c3 := cell_later hb1 c3
  replace c4 := cell_later hb1 c4
  clear q0
  have hGz : G < W1.heap.size := World.block_lt_of_cell? W1 _ q1
  have hsz : sb < W1.heap.size := World.block_lt_of_cell? W1 _ c0
  go_cut [6] from 29 (fun p6 wc => ∃ P, p6 = .pointer (some ⟨P, 0, none⟩) ∧ OpAt wc P o ∧ W1.heap.size ≤ P ∧ Below W1.heap.size W1 wc)
  case first =>
    go_region
    all_goals go_wp2_with fail
    all_goals go_meet
    all_goals exact ⟨_, rfl, ⟨by go_simp, by go_simp, by go_simp, by go_simp, by go_simp⟩, Nat.le_refl _, ((Below.refl _ _).alloc (Nat.le_refl _) _).drew⟩
  case rest =>
    obtain ⟨P, rfl, hop, hP, hbc⟩ := hcut
    have hbw : Below w.heap.size w wc := hb1.trans (hbc.mono hb1.size)
    have h2 := HH.out.later hbw
    have hGw : Grew (handS G V vs) w wc := Grew.of_below hbw
    have hPG : ¬ P = G := by omega
    obtain ⟨o0, o1, o2, o3, o4⟩ := hop
    clear q1 q2 c0 c1 c2 c3 c4
    have q1 := h2.hd.place
    have hf := h2.hd.free
    have hPz : P < wc.heap.size := World.block_lt_of_cell? wc _ o0
    have hGc : G < wc.heap.size := h2.hd.lt
    have hbz : w.heap.size ≤ wc.heap.size := hbw.size
    clear hb1 hbc HH hbw
    obtain ⟨m, hm⟩ : ∃ m : Nat, o.a = (m : Int) := ⟨o.a.toNat, by omega⟩
    have hm4 : m < 4 := by omega
    have hmi : (m : Int) < 4 := by omega
    have g0 := h2.hd.reg m hm4
    have hR : Hid (runW o x = ⟨x.nx + 1, x.is, x.n, x.regs, x.code, x.over⟩) := by show _ = _; unfold runW; rw [if_neg (by omega), if_neg (by omega), if_neg (by omega), if_neg (by omega)]
    rw [hm, Int.toNat_natCast] at hz
    have tz : (x.regs m != 0) = false := by simp [hz]
    rw [hk] at o0
    rw [hm] at o1
    clear hp hpl hz
    go_wp2_with fail
    go_quiet (fail)
    go_wp2_with fail
    rw [castN]
    exact bodyPost_ret (v := .tuple #[.int .i64 1, .int .i64 (-1)]) (by simp [results, Tryd.results51, go_sem]) rfl ⟨by rw [hst.out], ⟨vs, st, by rw [hst.out]; exact hR.out ▸ (h2.later (drewN_below (Below.refl _ _) _)).place (x.nx + 1) (Nat.le_succ _), .inl rfl⟩, (hGw.trans (Grew.of_below (drewN_below (Below.refl _ _) _))).trans (Grew.of_grown (grown_setCell _ ⟨G, 2, none⟩ _) (.inl rfl))⟩

set_option maxRecDepth 100000 in
set_option maxHeartbeats 2000000 in
theorem hs_stop1 (h : HB w N NB G D dv b d V x vs st T) (ho : x.over = false) (hn : x.nx < d.length) (hk : d[x.nx].k = 8) (hz : ¬ x.regs d[x.nx].a.toNat = 0) (his : ∀ k, x.is k = false) (hck : (checkF d).1 = 0) :
    Calls Tryd.prog 51 #[.pointer (some ⟨G, 0, none⟩), .pointer (some ⟨D, 0, none⟩)] w (HStep w N NB G D dv b d V vs (stepW T d (b : Int) x)) := by
  have q0 := h.hd.over
  rw [ho] at q0
  have q1 := h.hd.place
  have q2 := h.hd.deed
  have hd14 := check_len hck
  have hp := alone_parts (checkF_alone hck _ (List.getElem_mem hn))
  have hpl := check_places hck x.nx hn
  have hst : Hid (stepW T d (b : Int) x = ⟨3, -1, overW x 9, endTo T x (b : Int) (keysF d)⟩) := stepW_stop ho hn hk hz
  have h14 : st.length ≤ 14 := by have := h.sl; omega
  have HO : Hid (x.over = false) := ho
  obtain ⟨da, dcap, rfl, hdd⟩ := h.dd
  obtain ⟨sb, off, hsb, rfl, c0, c1, c2, c3, c4⟩ := hdd x.nx hn
  have hni : (x.nx : Int) < (d.length : Int) := by omega
  have hnl : ¬ (d.length : Int) ≤ (x.nx : Int) := by omega
  have hn14 : x.nx < 14 := by omega
  have HH : Hid (HB w N NB G D (.slice (some ⟨sb, off, none⟩) d.length dcap) b d V x vs st T) := h
  clear ho hdd h hck
  generalize d[x.nx] = o at *
  go_enter Tryd.func51, Tryd.ntmps51
  go_wp2_with fail
  go_quiet (fail)
  go_wp2_with fail
  obtain ⟨W1, e1⟩ : ∃ W1, W1 = w.drewN nq := ⟨_, rfl⟩
  have hb1 : Below w.heap.size w W1 := by rw [e1]; exact drewN_below (Below.refl _ _) _
  rw [← e1]
  clear e1
  replace q1 := cell_later hb1 q1
  replace q2 := cell_later hb1 q2
  replace c0 := cell_later hb1 c0
  replace c1 := cell_later hb1 c1
  replace c2 := cell_later hb1 c2
  replace c3 := cell_later hb1 c3
  replace c4 := cell_later hb1 c4
  clear q0
  have hGz : G < W1.heap.size := World.block_lt_of_cell? W1 _ q1
  have hsz : sb < W1.heap.size := World.block_lt_of_cell? W1 _ c0
  go_cut [6] from 29 (fun p6 wc => ∃ P, p6 = .pointer (some ⟨P, 0, none⟩) ∧ OpAt wc P o ∧ W1.heap.size ≤ P ∧ Below W1.heap.size W1 wc)
  case first =>
    go_region
    all_goals go_wp2_with fail
    all_goals go_meet
    all_goals exact ⟨_, rfl, ⟨by go_simp, by go_simp, by go_simp, by go_simp, by go_simp⟩, Nat.le_refl _, ((Below.refl _ _).alloc (Nat.le_refl _) _).drew⟩
  case rest =>
    obtain ⟨P, rfl, hop, hP, hbc⟩ := hcut
    have hbw : Below w.heap.size w wc := hb1.trans (hbc.mono hb1.size)
    have h2 := HH.out.later hbw
    have hGw : Grew (handS G V vs) w wc := Grew.of_below hbw
    have hPG : ¬ P = G := by omega
    obtain ⟨o0, o1, o2, o3, o4⟩ := hop
    clear q1 q2 c0 c1 c2 c3 c4
    have q1 := h2.hd.place
    have hf := h2.hd.free
    have hPz : P < wc.heap.size := World.block_lt_of_cell? wc _ o0
    have hGc : G < wc.heap.size := h2.hd.lt
    have hbz : w.heap.size ≤ wc.heap.size := hbw.size
    clear hb1 hbc HH hbw
    obtain ⟨m, hm⟩ : ∃ m : Nat, o.a = (m : Int) := ⟨o.a.toNat, by omega⟩
    have hm4 : m < 4 := by omega
    have hmi : (m : Int) < 4 := by omega
    have g0 := h2.hd.reg m hm4
    rw [hm, Int.toNat_natCast] at hz
    have tz : (x.regs m != 0) = true := by simp [hz]
    have HE : Hid (∀ n, Calls Tryd.prog 73 #[.pointer (some ⟨G, 0, none⟩), .pointer (some ⟨D, 0, none⟩), .int .i64 9] (wc.drewN n) fun e w' => e = .returned (.tuple #[]) ∧ HB w' N NB G D (.slice (some ⟨sb, off, none⟩) d.length dcap) b d V (overW x 9) vs st (endTo T x (b : Int) (keysF d)) ∧ Grew (handS G V vs) w w') := fun n => by
      refine (handEnd_any 9 (h2.later (drewN_below (Below.refl _ _) n)) hd14 h14 (.inr his)).mono ?_
      rintro e w' ⟨he, h1, hg⟩
      exact ⟨he, h1, (hGw.trans (Grew.of_below (drewN_below (Below.refl _ _) n))).trans hg⟩
    rw [hk] at o0
    rw [hm] at o1
    clear hp hpl hz
    go_wp2_with fail
    go_quiet (fail)
    go_wp2_with fail
    refine (HE.out _).mono ?_
    rintro e w3 ⟨rfl, h3, hg3⟩
    go_wp2_with fail
    exact bodyPost_ret (v := .tuple #[.int .i64 3, .int .i64 (-1)]) (by simp [results, Tryd.results51, go_sem]) rfl ⟨by rw [hst.out], ⟨vs, st, by rw [hst.out]; exact h3, .inl rfl⟩, hg3⟩

end
end Go.Proofs.YthlhbmldfjkagaaDoor
