/-
  The walk of Hand.Step, of an operation that stores; Hand.Step.
-/
import Derived.Test.YthlhbmldfjkagaaDoorHdD
import Derived.Test.YthlhbmldfjkagaaDoorHdE
namespace Go.Proofs.YthlhbmldfjkagaaDoor
open Go.RowKit Go.Shelf

theorem deedCells_snoc (l : List Op5) (o : Op5) : deedCells (l ++ [o]) = deedCells l ++ [.int .i64 o.k, .int .i64 o.a, .int .i64 o.b, .int .i64 o.c, .int .i64 o.n] := by
  induction l with
  | nil => rfl
  | cons p l ih => simp only [List.cons_append, deedCells, ih]

theorem HB.push {w W w' : World} {N NB G D : Nat} {dv : Value} {b : Nat} {d : List Op5} {V : Nat → Value} {x : Wk} {vs v1 : Value} {st : List Op5} {T : Nat → List Slot4} (h : HB w N NB G D dv b d V x vs st T) (hW : Below w.heap.size w W) {o : Op5} (ho : w'.ownsRow N 34 5 v1 (st.length + 1) (deedCells (st ++ [o]))) (hg : W.grownBy w' vs.ownBlock) (hat : v1.ownBlock = vs.ownBlock ∨ v1.ownBlock = some W.heap.size) {is' : Nat → Bool} {n' : Nat → Int} (hp : PutOk (st ++ [o]) ⟨x.nx + 1, is', n', x.regs, x.code, x.over⟩) :
    HB ((w'.setCell ⟨G, 7, none⟩ v1).setCell ⟨G, 2, none⟩ (.int .i64 ((x.nx + 1 : Nat) : Int))) N NB G D dv b d V ⟨x.nx + 1, is', n', x.regs, x.code, x.over⟩ v1 (st ++ [o]) T ∧ Grew (handS G V vs) w ((w'.setCell ⟨G, 7, none⟩ v1).setCell ⟨G, 2, none⟩ (.int .i64 ((x.nx + 1 : Nat) : Int))) := by
  have hz := hW.size
  have h1 := h.later hW
  have hgs : Grew (fun k => vs.ownBlock = some k) W w' := ⟨hg.os, hg.tape, hg.output, hg.size, fun k hk hn => hg.block k hk (fun e => hn e.symm)⟩
  have hgG : Grew (fun k => k = G) w' ((w'.setCell ⟨G, 7, none⟩ v1).setCell ⟨G, 2, none⟩ (.int .i64 ((x.nx + 1 : Nat) : Int))) := Grew.of_grown (grown_trans (grown_setCell w' ⟨G, 7, none⟩ _) (grown_setCell _ ⟨G, 2, none⟩ _)) rfl
  have hv : ∀ g, v1.ownBlock = some g → vs.ownBlock = some g ∨ g = W.heap.size := fun g e => by
    rcases hat with e' | e'
    · rw [e'] at e; exact .inl e
    · rw [e'] at e; exact .inr (Option.some.inj e).symm
  have hG' : HandAt w' G dv b x vs := h1.hd.kept (hgs.block G h1.hd.lt h.gs)
  have hD' : BoardAt w' NB D T V := h1.bd.kept (hgs.block D h1.bd.lt h.sD) (fun k hk g hgg => hgs.block g (owns_lt (h1.bd.own k hk) hgg).2 (fun e => h.sV g e ⟨k, hk, hgg⟩))
  have nv : ∀ g, g < W.heap.size → vs.ownBlock ≠ some g → v1.ownBlock ≠ some g := fun g hlt hne e => by
    rcases hv g e with e' | e'
    · exact hne e'
    · omega
  generalize hy : ((w'.setCell ⟨G, 7, none⟩ v1).setCell ⟨G, 2, none⟩ (.int .i64 ((x.nx + 1 : Nat) : Int))) = Z at *
  have hhd : HandAt Z G dv b ⟨x.nx + 1, is', n', x.regs, x.code, x.over⟩ v1 := by
    rw [← hy]
    exact ⟨by rw [cell_apart _ (by omega), cell_apart _ (by omega)]; exact hG'.deed, by rw [cell_apart _ (by omega), cell_apart _ (by omega)]; exact hG'.num, World.cell?_setCell_same _ _ _ (by rw [cell_apart _ (by omega)]; exact hG'.place), fun k hk => by rw [cell_apart _ (by omega), cell_apart _ (by omega)]; exact hG'.reg k hk, by rw [cell_apart _ (by omega)]; exact World.cell?_setCell_same _ _ _ hG'.sto, by rw [cell_apart _ (by omega), cell_apart _ (by omega)]; exact hG'.over, by rw [cell_apart _ (by omega), cell_apart _ (by omega)]; exact hG'.code, fun k hk => by rw [cell_apart _ (by omega), cell_apart _ (by omega)]; exact hG'.res k hk, fun o => by rw [World.frozen?_setCell, World.frozen?_setCell]; exact hG'.free o⟩
  refine ⟨⟨hhd, ?_, ?_, ?_, h.gD, h.gV, nv G h1.hd.lt h.gs, nv D h1.bd.lt h.sD, fun g e hbS => ?_, h.l9, h.fine, hp, ?_⟩, ?_⟩
  · rw [List.length_append]
    exact owns_kept ho fun g hgg => hgG.block g (owns_lt ho hgg).2 (fun e => nv G h1.hd.lt h.gs (by rw [← e]; exact hgg))
  · exact hD'.kept (hgG.block D hD'.lt (fun e => h.gD e.symm)) (fun k hk g hgg => hgG.block g (owns_lt (hD'.own k hk) hgg).2 (fun e => h.gV ⟨k, hk, by rw [← e]; exact hgg⟩))
  · have h2 : DeedIn (fun g => (g ≠ G ∧ g ≠ D ∧ ¬ boardS V g ∧ vs.ownBlock ≠ some g) ∧ g < W.heap.size) W dv d := h1.dd.mono fun g hlt hp => ⟨hp, hlt⟩
    exact ((h2.grew hgs (fun g hp e => hp.1.2.2.2 e)).grew hgG (fun g hp e => hp.1.1 e)).mono fun g _ hp => ⟨hp.1.1, hp.1.2.1, hp.1.2.2.1, nv g hp.2 hp.1.2.2.2⟩
  · rcases hv g e with e' | e'
    · exact h.sV g e' hbS
    · obtain ⟨k, hk, hgg⟩ := hbS
      have := (owns_lt (h1.bd.own k hk) hgg).2
      omega
  · have := h.sl
    simp only [List.length_append, List.length_cons, List.length_nil]
    omega
  · exact (((Grew.of_below hW).trans (hgs.mono fun k e => .inr (.inr e))).trans (hgG.mono fun k e => .inl e))

theorem putOk_push {st : List Op5} {x : Wk} (h : PutOk st x) (m : Nat) (v : Int) : PutOk (st ++ [⟨0, (m : Int), 0, 0, v⟩]) ⟨x.nx + 1, fun i => if i = m then true else x.is i, putAt x.n m v, x.regs, x.code, x.over⟩ := fun k hk => by
  rw [putF_snoc]
  by_cases e : k = m
  · subst e; simp [putAt]
  · rw [if_neg (by show ¬ (m : Int) = (k : Int); omega), h k hk]
    simp [e, putAt]
theorem new5 (w : World) (t : TypeId) (v0 v1 v2 v3 v4 : Value) : ∀ j u, [v0, v1, v2, v3, v4][j]? = some u → (World.drew (w.alloc (.cells #[v0, v1, v2, v3, v4] t))).cell? ((⟨w.heap.size, 0, none⟩ : Addr).add j) = some u := fun j u hu => by
  have hj : j < 5 := by have := (List.getElem?_eq_some_iff.1 hu).1; simpa using this
  rw [addr_add, Nat.zero_add]
  have : j = 0 ∨ j = 1 ∨ j = 2 ∨ j = 3 ∨ j = 4 := by omega
  rcases this with rfl | rfl | rfl | rfl | rfl <;> (simp at hu; subst hu; go_simp)

section
variable {w : World} {N NB G D : Nat} {dv : Value} {b : Nat} {d : List Op5} {V : Nat → Value} {x : Wk} {vs : Value} {st : List Op5} {T : Nat → List Slot4}

set_option maxRecDepth 100000 in
set_option maxHeartbeats 2000000 in
theorem hs_store (h : HB w N NB G D dv b d V x vs st T) (ho : x.over = false) (hn : x.nx < d.length) (hk : d[x.nx].k = 7) (hN : N ≤ w.heap.size) (hck : (checkF d).1 = 0) :
    Calls Tryd.prog 51 #[.pointer (some ⟨G, 0, none⟩), .pointer (some ⟨D, 0, none⟩)] w (HStep w N NB G D dv b d V vs (stepW T d (b : Int) x)) := by
  have q0 := h.hd.over
  rw [ho] at q0
  have q1 := h.hd.place
  have q2 := h.hd.deed
  have hd14 := check_len hck
  have hp := alone_parts (checkF_alone hck _ (List.getElem_mem hn))
  have hpl := check_places hck x.nx hn
  have hst : Hid (stepW T d (b : Int) x = ⟨1, -1, runW d[x.nx] x, T⟩) := stepW_run ho hn (by omega) (by omega)
  have h14 : st.length ≤ 14 := by have := h.sl; omega
  have HO : Hid (x.over = false) := ho
  obtain ⟨da, dcap, rfl, hdd⟩ := h.dd
  obtain ⟨sb, off, hsb, rfl, c0, c1, c2, c3, c4⟩ := hdd x.nx hn
  have hni : (x.nx : Int) < (d.length : Int) := by omega
  have hnl : ¬ (d.length : Int) ≤ (x.nx : Int) := by omega
  have hn14 : x.nx < 14 := by omega
  have HH : Hid (HB w N NB G D (.slice (some ⟨sb, off, none⟩) d.length dcap) b d V x vs st T) := h
  clear ho hdd h hck
  generalize d[x.nx] = o at *
  go_enter Tryd.func51, Tryd.ntmps51
  go_wp2_with fail
  go_quiet (fail)
  go_wp2_with fail
  obtain ⟨W1, e1⟩ : ∃ W1, W1 = w.drewN nq := ⟨_, rfl⟩
  have hb1 : Below w.heap.size w W1 := by rw [e1]; exact drewN_below (Below.refl _ _) _
  rw [← e1]
  clear e1
  replace q1 := cell_later hb1 q1
  replace q2 := cell_later hb1 q2
  replace c0 := cell_later hb1 c0
  replace c1 := cell_later hb1 c1
  replace c2 := cell_later hb1 c2
  replace c3 := cell_later hb1 c3
  replace c4 := cell_later hb1 c4
  clear q0
  have hGz : G < W1.heap.size := World.block_lt_of_cell? W1 _ q1
  have hsz : sb < W1.heap.size := World.block_lt_of_cell? W1 _ c0
  go_cut [6] from 29 (fun p6 wc => ∃ P, p6 = .pointer (some ⟨P, 0, none⟩) ∧ OpAt wc P o ∧ W1.heap.size ≤ P ∧ Below W1.heap.size W1 wc)
  case first =>
    go_region
    all_goals go_wp2_with fail
    all_goals go_meet
    all_goals exact ⟨_, rfl, ⟨by go_simp, by go_simp, by go_simp, by go_simp, by go_simp⟩, Nat.le_refl _, ((Below.refl _ _).alloc (Nat.le_refl _) _).drew⟩
  case rest =>
    obtain ⟨P, rfl, hop, hP, hbc⟩ := hcut
    have hbw : Below w.heap.size w wc := hb1.trans (hbc.mono hb1.size)
    have h2 := HH.out.later hbw
    have hGw : Grew (handS G V vs) w wc := Grew.of_below hbw
    have hPG : ¬ P = G := by omega
    obtain ⟨o0, o1, o2, o3, o4⟩ := hop
    clear q1 q2 c0 c1 c2 c3 c4
    have q1 := h2.hd.place
    have hf := h2.hd.free
    have hPz : P < wc.heap.size := World.block_lt_of_cell? wc _ o0
    have hGc : G < wc.heap.size := h2.hd.lt
    have hbz : w.heap.size ≤ wc.heap.size := hbw.size
    clear hb1 hbc HH hbw
    obtain ⟨m, hm⟩ : ∃ m : Nat, o.a = (m : Int) := ⟨o.a.toNat, by omega⟩
    obtain ⟨l, hl⟩ : ∃ l : Nat, o.b = (l : Int) := ⟨o.b.toNat, by omega⟩
    have hl4 : l < 4 := by omega
    have hli : (l : Int) < 4 := by omega
    have g1 := h2.hd.reg l hl4
    have q7 := h2.hd.sto
    obtain ⟨i2, hi2, hy0, hy1, hy2⟩ := info_parts info61
    have hR : Hid (runW o x = ⟨x.nx + 1, fun i => if i = m then true else x.is i, putAt x.n m (x.regs l), x.regs, x.code, x.over⟩) := by show _ = _; unfold runW; rw [if_neg (by omega), if_pos hk, hm, hl]; rfl
    have hbA : Below wc.heap.size wc (World.drew (wc.alloc (.cells #[.int .i64 0, .int .i64 (m : Int), .int .i64 0, .int .i64 0, .int .i64 (x.regs l)] 34))) := ((Below.refl _ _).alloc (Nat.le_refl _) _).drew
    have HO' : Hid (World.ownsRow (World.drew (wc.alloc (.cells #[.int .i64 0, .int .i64 (m : Int), .int .i64 0, .int .i64 0, .int .i64 (x.regs l)] 34))) N 34 5 vs st.length (deedCells st)) := owns_below h2.so hbA
    have HN : Hid (∀ j u, [Value.int .i64 0, .int .i64 (m : Int), .int .i64 0, .int .i64 0, .int .i64 (x.regs l)][j]? = some u → World.cell? (World.drew (wc.alloc (.cells #[.int .i64 0, .int .i64 (m : Int), .int .i64 0, .int .i64 0, .int .i64 (x.regs l)] 34))) ((⟨wc.heap.size, 0, none⟩ : Addr).add j) = some u) := new5 wc 34 _ _ _ _ _
    have HC : Hid (∀ w6, World.grownBy (World.drew (wc.alloc (.cells #[.int .i64 0, .int .i64 (m : Int), .int .i64 0, .int .i64 0, .int .i64 (x.regs l)] 34))) w6 vs.ownBlock → w6.cell? ⟨G, 7, none⟩ = some vs ∧ w6.cell? ⟨G, 2, none⟩ = some (.int .i64 (x.nx : Int)) ∧ ∀ o, w6.frozen? ⟨G, o, none⟩ = false) := fun w6 hg6 => by
      have hblk : w6.heap[G]? = wc.heap[G]? := (hg6.block G (by have := hbA.size; omega) (fun e => h2.gs e.symm)).trans (hbA.block G hGc)
      exact ⟨by rw [World.cell?_of_block (w := wc) hblk]; exact h2.hd.sto, by rw [World.cell?_of_block (w := wc) hblk]; exact h2.hd.place, fun o => by rw [World.frozen?_of_block (w := wc) hblk]; exact h2.hd.free o⟩
    have HK : Hid (∀ w6 v1, w6.ownsRow N 34 5 v1 (st.length + 1) (deedCells st ++ [.int .i64 0, .int .i64 (m : Int), .int .i64 0, .int .i64 0, .int .i64 (x.regs l)]) → World.grownBy (World.drew (wc.alloc (.cells #[.int .i64 0, .int .i64 (m : Int), .int .i64 0, .int .i64 0, .int .i64 (x.regs l)] 34))) w6 vs.ownBlock → (v1.ownBlock = vs.ownBlock ∨ v1.ownBlock = some (World.heap (World.drew (wc.alloc (.cells #[.int .i64 0, .int .i64 (m : Int), .int .i64 0, .int .i64 0, .int .i64 (x.regs l)] 34)))).size) → HB ((w6.setCell ⟨G, 7, none⟩ v1).setCell ⟨G, 2, none⟩ (.int .i64 ((x.nx + 1 : Nat) : Int))) N NB G D (.slice (some ⟨sb, off, none⟩) d.length dcap) b d V ⟨x.nx + 1, fun i => if i = m then true else x.is i, putAt x.n m (x.regs l), x.regs, x.code, x.over⟩ v1 (st ++ [⟨0, (m : Int), 0, 0, x.regs l⟩]) T ∧ Grew (handS G V vs) w ((w6.setCell ⟨G, 7, none⟩ v1).setCell ⟨G, 2, none⟩ (.int .i64 ((x.nx + 1 : Nat) : Int))) ∧ (v1.ownBlock = vs.ownBlock ∨ ∃ g, v1.ownBlock = some g ∧ w.heap.size ≤ g)) := fun w6 v1 ho hg hat => by
      have ho' : w6.ownsRow N 34 5 v1 (st.length + 1) (deedCells (st ++ [⟨0, (m : Int), 0, 0, x.regs l⟩])) := by rw [deedCells_snoc]; exact ho
      obtain ⟨h3, hg3⟩ := h2.push hbA ho' hg hat (putOk_push h2.put m (x.regs l))
      refine ⟨h3, hGw.trans hg3, ?_⟩
      rcases hat with e | e
      · exact .inl e
      · exact .inr ⟨_, e, by have := hbA.size; omega⟩
    have hbs : N ≤ (World.heap (World.drew (wc.alloc (.cells #[.int .i64 0, .int .i64 (m : Int), .int .i64 0, .int .i64 0, .int .i64 (x.regs l)] 34)))).size := by have := hbA.size; omega
    rw [hk] at o0
    rw [hm] at o1
    rw [hl] at o2
    clear hp hpl hbA
    go_wp2_with fail
    go_region_law (refine step_append_at rfl (.tmp 118) (.tmp 129) 31 rfl N 34 i2 (.agg #[.int .i64 0, .int .i64 0, .int .i64 0, .int .i64 0, .int .i64 0]) 5 40 Tryd.underlying31 hi2 hy0 hy1 hy2 rfl (by decide) vs st.length (deedCells st) (by simp [Act.eval]) HO'.out ⟨wc.heap.size, 0, none⟩ 1 1 [.int .i64 0, .int .i64 (m : Int), .int .i64 0, .int .i64 0, .int .i64 (x.regs l)] (by simp [Act.eval]) rfl HN.out (by simp [Value.oneCell']) (by unfold maxLen; omega) (by omega) hbs ?_; intro v1 w6 ho1 hg1 hat1; have HKX := HK.out w6 v1 ho1 hg1 hat1; obtain ⟨g2, cap2, rfl, -⟩ := owns_cells ho1 (by omega); obtain ⟨qc, qd, qf⟩ := HC.out w6 hg1)
    all_goals go_wp2_with fail
    all_goals rw [castN]
    all_goals exact bodyPost_ret (v := .tuple #[.int .i64 1, .int .i64 (-1)]) (by simp [results, Tryd.results51, go_sem]) rfl ⟨by rw [hst.out], ⟨_, _, by rw [hst.out]; exact hR.out ▸ HKX.1, HKX.2.2⟩, HKX.2.1⟩
end
end Go.Proofs.YthlhbmldfjkagaaDoor
