/-
  The walk of newCrew.
-/
import Derived.Test.YthlhbmldfjkagaaDoorCrewB
namespace Go.Proofs.YthlhbmldfjkagaaDoor
open Go.RowKit Go.Shelf

theorem DeedAt.inn {w : World} {v : Value} {d : List Op5} (h : DeedAt w v d) : DeedIn (fun g => g < w.heap.size) w v d := by
  obtain ⟨a, cap, rfl, h⟩ := h
  refine ⟨a, cap, rfl, fun i hi => ?_⟩
  obtain ⟨b, off, e, hc⟩ := h i hi
  exact ⟨b, off, World.block_lt_of_cell? w _ hc.1, e, hc⟩
theorem info38' : (Tryd.prog.info? 81).map (fun i => (i.zero, i.size, i.bytes)) = some (some (.pointer none), 1, 8) := by kernel_rfl
theorem info68 : (Tryd.prog.info? 91).map (fun i => (i.zero, i.size, i.bytes)) = some (some (.pointer none), 1, 8) := by kernel_rfl

/-- The colours of the first blocks. -/
def col0 (N B D E : Nat) (V : Nat → Value) (b : Nat) : Nat :=
  if b < N then 0 else if b = B then 2 else if b = D then 6 else if b = E then 1 else
  if (V 0).ownBlock = some b then 20 else if (V 1).ownBlock = some b then 21 else if (V 2).ownBlock = some b then 22 else if (V 3).ownBlock = some b then 23 else if (V 4).ownBlock = some b then 24 else
  if (V 5).ownBlock = some b then 25 else if (V 6).ownBlock = some b then 26 else if (V 7).ownBlock = some b then 27 else if (V 8).ownBlock = some b then 28 else if (V 9).ownBlock = some b then 29 else 0

theorem crew_first {w2 w3 : World} {N B D NB : Nat} {V : Nat → Value} {r : List (List Op5)} {T : Nat → List Slot4} {t : TypeId} (hN : N ≤ B) (hT : TabAt w2 B T) (hb : Below w2.heap.size w2 w3) (hD : w2.heap.size ≤ D) (hNB : w2.heap.size ≤ NB) (hBd : BoardAt w3 NB D T V) :
    ∃ c, CrewN (w3.alloc (.cells #[.pointer (some ⟨B, 0, none⟩), .pointer (some ⟨D, 0, none⟩), .slice none 0 0, .slice none 0 0] t)) c N w3.heap.size B D NB (.slice none 0 0) (.slice none 0 0) (fun _ => 0) (fun _ => .slice none 0 0) 0 (fun _ => 0) (fun _ => .slice none 0 0) 0 V r T := by
  have hB := hT.lt
  have hDz := hBd.lt
  have hz := hb.size
  have hA : Below w3.heap.size w3 (w3.alloc (.cells #[.pointer (some ⟨B, 0, none⟩), .pointer (some ⟨D, 0, none⟩), .slice none 0 0, .slice none 0 0] t)) := (Below.refl _ _).alloc (Nat.le_refl _) _
  have hrow : ∀ k, k < 10 → ∀ g, (V k).ownBlock = some g → NB ≤ g ∧ g < w3.heap.size ∧ g ≠ D := fun k hk g hg => ⟨(owns_lt (hBd.own k hk) hg).1, (owns_lt (hBd.own k hk) hg).2, (hBd.apart k hk g hg).1⟩
  have hne : ∀ k, k < 10 → ∀ j, j < 10 → ∀ g, (V k).ownBlock = some g → (V j).ownBlock = some g → j = k := fun k hk j hj g h1 h2 => (hBd.apart k hk g h1).2 j hj h2
  refine ⟨col0 N B D w3.heap.size V, ⟨by simp, by simp, by simp, by simp, fun o => by simp⟩, ?_, (hT.later hb).later hA, ?_, ⟨World.ownsRow_nil _ _ _ _, fun g hg => (by cases hg), fun i hi => absurd hi (by omega), fun i hi => absurd hi (by omega), fun i hi => absurd hi (by omega)⟩, ⟨World.ownsRow_nil _ _ _ _, fun g hg => (by cases hg), fun i hi => absurd hi (by omega), fun i hi => absurd hi (by omega), fun i hi => absurd hi (by omega), fun i hi => absurd hi (by omega), fun i hi => absurd hi (by omega)⟩, ⟨hBd.later hA, ?_, fun k hk g hg => ?_⟩, fun b hb' => ?_⟩
  · unfold col0
    rw [if_neg (by omega), if_neg (by omega), if_neg (by omega), if_pos rfl]
  · unfold col0
    rw [if_neg (by omega), if_pos rfl]
  · unfold col0
    rw [if_neg (by omega), if_neg (by omega), if_pos rfl]
  · obtain ⟨h1, h2, h3⟩ := hrow k hk g hg
    unfold col0
    rw [if_neg (by omega), if_neg (by omega), if_neg h3, if_neg (by omega)]
    have no : ∀ j, j < 10 → j ≠ k → ¬ (V j).ownBlock = some g := fun j hj hjk e => hjk (hne k hk j hj g hg e)
    have : k = 0 ∨ k = 1 ∨ k = 2 ∨ k = 3 ∨ k = 4 ∨ k = 5 ∨ k = 6 ∨ k = 7 ∨ k = 8 ∨ k = 9 := by omega
    rcases this with rfl | rfl | rfl | rfl | rfl | rfl | rfl | rfl | rfl | rfl
    · rw [if_pos hg]
    · rw [if_neg (no 0 (by omega) (by omega)), if_pos hg]
    · rw [if_neg (no 0 (by omega) (by omega)), if_neg (no 1 (by omega) (by omega)), if_pos hg]
    · rw [if_neg (no 0 (by omega) (by omega)), if_neg (no 1 (by omega) (by omega)), if_neg (no 2 (by omega) (by omega)), if_pos hg]
    · rw [if_neg (no 0 (by omega) (by omega)), if_neg (no 1 (by omega) (by omega)), if_neg (no 2 (by omega) (by omega)), if_neg (no 3 (by omega) (by omega)), if_pos hg]
    · rw [if_neg (no 0 (by omega) (by omega)), if_neg (no 1 (by omega) (by omega)), if_neg (no 2 (by omega) (by omega)), if_neg (no 3 (by omega) (by omega)), if_neg (no 4 (by omega) (by omega)), if_pos hg]
    · rw [if_neg (no 0 (by omega) (by omega)), if_neg (no 1 (by omega) (by omega)), if_neg (no 2 (by omega) (by omega)), if_neg (no 3 (by omega) (by omega)), if_neg (no 4 (by omega) (by omega)), if_neg (no 5 (by omega) (by omega)), if_pos hg]
    · rw [if_neg (no 0 (by omega) (by omega)), if_neg (no 1 (by omega) (by omega)), if_neg (no 2 (by omega) (by omega)), if_neg (no 3 (by omega) (by omega)), if_neg (no 4 (by omega) (by omega)), if_neg (no 5 (by omega) (by omega)), if_neg (no 6 (by omega) (by omega)), if_pos hg]
    · rw [if_neg (no 0 (by omega) (by omega)), if_neg (no 1 (by omega) (by omega)), if_neg (no 2 (by omega) (by omega)), if_neg (no 3 (by omega) (by omega)), if_neg (no 4 (by omega) (by omega)), if_neg (no 5 (by omega) (by omega)), if_neg (no 6 (by omega) (by omega)), if_neg (no 7 (by omega) (by omega)), if_pos hg]
    · rw [if_neg (no 0 (by omega) (by omega)), if_neg (no 1 (by omega) (by omega)), if_neg (no 2 (by omega) (by omega)), if_neg (no 3 (by omega) (by omega)), if_neg (no 4 (by omega) (by omega)), if_neg (no 5 (by omega) (by omega)), if_neg (no 6 (by omega) (by omega)), if_neg (no 7 (by omega) (by omega)), if_neg (no 8 (by omega) (by omega)), if_pos hg]
  · unfold col0
    rw [if_pos hb']

set_option maxRecDepth 100000 in
set_option maxHeartbeats 2000000 in
theorem crew_new (v : Value) (r : List (List Op5)) (s : Nat → Int) (w : World) (hr : RoundAt w v r) (hf : Fits r) (h0 : roundF r = 0) (hL : Lim w) :
    Calls Tryd.prog 49 #[stV s, v] w fun e w' => ∃ c E B D NB vW vH C U H V Vb, e = .returned (.pointer (some ⟨E, 0, none⟩)) ∧ CrewN w' c w.heap.size E B D NB vW vH C U r.length H V r.length Vb r (newF s r) ∧ Below w.heap.size w w' := by
  obtain ⟨i1, hi1, hz0, hz1, hz2⟩ := info_parts info38'
  obtain ⟨i2, hi2, hy0, hy1, hy2⟩ := info_parts info68
  obtain ⟨hr8, hck⟩ := roundF_zero.1 h0
  have hnew := fun w' hr' hL' => new_good v r s w' hr' hf h0 hL'
  have hbn := fun w' hr' => board_new v r s w' hr' hr8 (fun i h => check_len (hck _ (List.getElem_mem h)))
  have HR := hr
  obtain ⟨a, cap, rfl, hr⟩ := hr
  show Calls Tryd.prog 49 #[.agg #[.int .i64 (s 0), .int .i64 (s 1), .int .i64 (s 2), .int .i64 (s 3), .int .i64 (s 4), .int .i64 (s 5), .int .i64 (s 6), .int .i64 (s 7), .int .i64 (s 8), .int .i64 (s 9)], _] w _
  have hB0 : Below w.heap.size w (w.alloc (.cells #[.int .i64 (s 0), .int .i64 (s 1), .int .i64 (s 2), .int .i64 (s 3), .int .i64 (s 4), .int .i64 (s 5), .int .i64 (s 6), .int .i64 (s 7), .int .i64 (s 8), .int .i64 (s 9)] 38)) := (Below.refl _ _).alloc (Nat.le_refl _) _
  have hX0 := box_new w s
  have hr0 : ∀ j (h : j < r.length) dv, w.cell? ⟨(a.getD ⟨0, 0, none⟩).block, (a.getD ⟨0, 0, none⟩).off + j, none⟩ = some dv → DeedIn (fun g => g < w.heap.size) w dv r[j] := fun j h dv hc => by
    obtain ⟨b, off, rfl, dv', c0, hDe⟩ := hr j h
    have : w.cell? ⟨b, off + j, none⟩ = some dv := hc
    rw [c0] at this
    cases this
    exact hDe.inn
  clear h0
  go_enter Tryd.func49, Tryd.ntmps49
  go_wp2_with fail
  refine (hnew _ (HR.later hB0) (hL.later hB0)).mono ?_
  clear hnew
  rintro e w2 ⟨B, rfl, hB, hT, hb2⟩
  have hB2 : Below w.heap.size w w2 := hB0.trans (hb2.mono (by simp))
  have hX2 := hX0.later hb2
  have hBN : w.heap.size ≤ B := by simp at hB; omega
  obtain ⟨k0, k1, k2, k3, k4, k5, k6, k7, k8, k9⟩ := hX2.ten
  clear hB0 hb2 hX0 hB
  go_wp2_with fail
  refine (hbn _ (HR.later hB2)).mono ?_
  clear hbn
  rintro e w3 ⟨NB, D, Vb, rfl, hD, hNB, hBd, hb3⟩
  have hB3 : Below w.heap.size w w3 := hB2.trans (hb3.mono hB2.size)
  have hcr := crew_first (r := r) (t := 89) hBN hT hb3 hD hNB hBd
  clear hT hBd hD hNB hX2 k0 k1 k2 k3 k4 k5 k6 k7 k8 k9
  obtain ⟨c, hcr⟩ := hcr
  obtain ⟨E, eE⟩ : ∃ E, E = w3.heap.size := ⟨_, rfl⟩
  obtain ⟨W, eW⟩ : ∃ W, W = w3.alloc (.cells #[.pointer (some ⟨B, 0, none⟩), .pointer (some ⟨D, 0, none⟩), .slice none 0 0, .slice none 0 0] 89) := ⟨_, rfl⟩
  have hBW : Below w.heap.size w W := by rw [eW]; exact hB3.alloc hB3.size _
  rw [← eE, ← eW] at hcr
  go_wp2_with fail
  rw [← eE, ← eW]
  clear eE eW hB3 hb3 hB2
  go_loopg [8] r.length (fun g i wr => ∃ (j : Nat) (c : Nat → Nat) (vW vH : Value) (C : Nat → Nat) (U : Nat → Value) (H : Nat → Nat) (V : Nat → Value), j ≤ r.length ∧ g = r.length - j ∧ i = .int .i64 j ∧ CrewN wr c w.heap.size E B D NB vW vH C U j H V j Vb r (newF s r) ∧ Below w.heap.size w wr)
  case atStart => exact ⟨0, c, _, _, _, _, _, _, by omega, by omega, rfl, hcr, hBW⟩
  case round =>
    clear hcr hBW
    obtain ⟨j, c, vW, vH, C, U, H, V, hj, hg, rfl, hcr, hBl⟩ := hrel
    by_cases hlt : j < r.length
    · obtain ⟨b, off, rfl, dv, c0, hDe⟩ := hr j hlt
      have hDin := hDe.inn
      have c00 := c0
      replace c0 := cell_later hBl c0
      replace hDe := hDe.later hBl
      replace hDin := hDin.later hBl
      have hwn := worker_new dv r[j] j wr hDe (hck _ (List.getElem_mem hlt)) (by omega) (hL.later hBl)
      obtain ⟨da, dcap, rfl, -⟩ := id hDe
      go_wp2_with fail
      refine hwn.mono ?_
      clear hwn
      rintro e w4 ⟨Cn, u, rfl, hCn, hWk, hDn, hb4⟩
      have c1 := cell_later hb4 c0
      have e2 := cell_later hb4 hcr.e.fw
      have hEz : E < w4.heap.size := World.block_lt_of_cell? w4 _ e2
      have hbz : b < w4.heap.size := World.block_lt_of_cell? w4 _ c1
      have hbA : Below wr.heap.size wr (w4.alloc (.cells #[.pointer (some ⟨Cn, 0, none⟩)] 81)) := hb4.alloc hb4.size _
      have HO : Hid ((w4.alloc (.cells #[.pointer (some ⟨Cn, 0, none⟩)] 81)).ownsRow w.heap.size 81 1 vW j (ptrs C j)) := owns_below hcr.ws.own hbA
      have HN : Hid (∀ i u, [Value.pointer (some ⟨Cn, 0, none⟩)][i]? = some u → (w4.alloc (.cells #[.pointer (some ⟨Cn, 0, none⟩)] 81)).cell? ((⟨w4.heap.size, 0, none⟩ : Addr).add i) = some u) := cell_one_new _ _ _
      have hzN : w.heap.size ≤ wr.heap.size := hBl.size
      have hz4 : wr.heap.size ≤ w4.heap.size := hb4.size
      have HC : Hid (∀ w5, (w4.alloc (.cells #[.pointer (some ⟨Cn, 0, none⟩)] 81)).grownBy w5 vW.ownBlock → w5.cell? ⟨E, 2, none⟩ = some vW ∧ w5.frozen? ⟨E, 2, none⟩ = false) := fun w5 hg5 => by
        have hblk : w5.heap[E]? = wr.heap[E]? := (hg5.block E (by have := hcr.e.lt; have := hbA.size; omega) (fun e => by have := hcr.ws.col E e.symm; have := hcr.ce; omega)).trans (hbA.block E hcr.e.lt)
        exact ⟨by rw [World.cell?_of_block (w := wr) hblk]; exact hcr.e.fw, by rw [World.frozen?_of_block (w := wr) hblk]; exact hcr.e.free 2⟩
      have HK : Hid (∀ w5 v1, w5.ownsRow w.heap.size 81 1 v1 (j + 1) (ptrs C j ++ [.pointer (some ⟨Cn, 0, none⟩)]) → (w4.alloc (.cells #[.pointer (some ⟨Cn, 0, none⟩)] 81)).grownBy w5 vW.ownBlock → (v1.ownBlock = vW.ownBlock ∨ v1.ownBlock = some (w4.alloc (.cells #[.pointer (some ⟨Cn, 0, none⟩)] 81)).heap.size) →
          (∃ c', CrewN (w5.setCell ⟨E, 2, none⟩ v1) c' w.heap.size E B D NB v1 vH (putN C j Cn) (putV U j u) (j + 1) H V j Vb r (newF s r)) ∧ Below w.heap.size w (w5.setCell ⟨E, 2, none⟩ v1)) := fun w5 v1 ho hg hat =>
        ⟨hcr.worker (by omega) hzN hb4 hCn hWk (fun _ => hDn) ho hg hat, hcr.below_row hBl (Nat.le_refl _) hzN hbA (.inl rfl) hg 2⟩
      clear hDe c0 hcr hWk hDn hb4 hBl c1
      go_wp2_with (at_builtin; refine wpList_append_own_at _ rfl _ _ 86 rfl w.heap.size 81 i1 (.pointer none) 1 8 Tryd.underlying86 hi1 hz0 hz1 hz2 rfl (by decide) vW j (ptrs C j) rfl HO.out ⟨w4.heap.size, 0, none⟩ 1 1 [.pointer (some ⟨Cn, 0, none⟩)] rfl rfl HN.out (by simp [Value.oneCell']) (by unfold maxLen; omega) (by omega) (by have := hbA.size; omega) ?_; intro v1 w5 ho1 hg1 _ hat1; have HKX := HK.out w5 v1 ho1 hg1 hat1; obtain ⟨g1, cap1, rfl, -⟩ := owns_cells ho1 (by omega); obtain ⟨qc, qf⟩ := HC.out w5 hg1; clear HO HN HC HK)
      obtain ⟨W5, e5⟩ : ∃ W5, W5 = w5.setCell ⟨E, 2, none⟩ (.slice (some ⟨g1, 0, none⟩) (j + 1) cap1) := ⟨_, rfl⟩
      rw [← e5] at HKX ⊢
      obtain ⟨⟨c', hcr⟩, hBl⟩ := HKX
      clear e5 qc qf ho1 hg1 hat1 hEz hbz e2 hbA hz4 hzN
      have e3 := hcr.e.fh
      have hEz : E < W5.heap.size := hcr.e.lt
      have c5 := cell_later hBl c00
      have hbz : b < W5.heap.size := World.block_lt_of_cell? W5 _ c5
      have hzN : w.heap.size ≤ W5.heap.size := hBl.size
      have hDn : DeedIn (fun g => g < w.heap.size) W5 (.slice da r[j].length dcap) r[j] := (hr0 j hlt _ c00).later hBl
      have hbA : Below W5.heap.size W5 ((W5.alloc (.cells #[.slice da r[j].length dcap, .int .i64 (j : Int), .int .i64 0, .int .i64 0, .int .i64 0, .int .i64 0, .int .i64 0, .slice none 0 0, .bool false, .int .i64 0, .int .i64 0, .int .i64 0, .int .i64 0, .int .i64 0] 96)).alloc (.cells #[.pointer (some ⟨W5.heap.size, 0, none⟩)] 91)).drew := (((Below.refl _ W5).alloc (Nat.le_refl _) _).alloc (by simp) _).drew
      have hHd : HandAt ((W5.alloc (.cells #[.slice da r[j].length dcap, .int .i64 (j : Int), .int .i64 0, .int .i64 0, .int .i64 0, .int .i64 0, .int .i64 0, .slice none 0 0, .bool false, .int .i64 0, .int .i64 0, .int .i64 0, .int .i64 0, .int .i64 0] 96)).alloc (.cells #[.pointer (some ⟨W5.heap.size, 0, none⟩)] 91)).drew W5.heap.size (.slice da r[j].length dcap) j wk0 (.slice none 0 0) := by
        show HandAt _ _ _ _ ⟨0, fun _ => false, fun _ => 0, fun _ => 0, 0, false⟩ _
        exact ⟨by go_simp, by go_simp, by go_simp, lt4 (by go_simp) (by go_simp) (by go_simp) (by go_simp), by go_simp, by go_simp, by go_simp, lt4 (by go_simp) (by go_simp) (by go_simp) (by go_simp), fun o => by go_simp⟩
      have HO : Hid (World.ownsRow ((W5.alloc (.cells #[.slice da r[j].length dcap, .int .i64 (j : Int), .int .i64 0, .int .i64 0, .int .i64 0, .int .i64 0, .int .i64 0, .slice none 0 0, .bool false, .int .i64 0, .int .i64 0, .int .i64 0, .int .i64 0, .int .i64 0] 96)).alloc (.cells #[.pointer (some ⟨W5.heap.size, 0, none⟩)] 91)).drew w.heap.size 91 1 vH j (ptrs H j)) := owns_below hcr.hs.own hbA
      have HN : Hid (∀ i u, [Value.pointer (some ⟨W5.heap.size, 0, none⟩)][i]? = some u → World.cell? ((W5.alloc (.cells #[.slice da r[j].length dcap, .int .i64 (j : Int), .int .i64 0, .int .i64 0, .int .i64 0, .int .i64 0, .int .i64 0, .slice none 0 0, .bool false, .int .i64 0, .int .i64 0, .int .i64 0, .int .i64 0, .int .i64 0] 96)).alloc (.cells #[.pointer (some ⟨W5.heap.size, 0, none⟩)] 91)).drew ((⟨W5.heap.size + 1, 0, none⟩ : Addr).add i) = some u) := by
        have := cell_one_new (W5.alloc (.cells #[.slice da r[j].length dcap, .int .i64 (j : Int), .int .i64 0, .int .i64 0, .int .i64 0, .int .i64 0, .int .i64 0, .slice none 0 0, .bool false, .int .i64 0, .int .i64 0, .int .i64 0, .int .i64 0, .int .i64 0] 96)) (.pointer (some ⟨W5.heap.size, 0, none⟩)) 91
        rw [World.size_alloc] at this
        exact this
      have HC : Hid (∀ w6, World.grownBy ((W5.alloc (.cells #[.slice da r[j].length dcap, .int .i64 (j : Int), .int .i64 0, .int .i64 0, .int .i64 0, .int .i64 0, .int .i64 0, .slice none 0 0, .bool false, .int .i64 0, .int .i64 0, .int .i64 0, .int .i64 0, .int .i64 0] 96)).alloc (.cells #[.pointer (some ⟨W5.heap.size, 0, none⟩)] 91)).drew w6 vH.ownBlock → w6.cell? ⟨E, 3, none⟩ = some vH ∧ w6.frozen? ⟨E, 3, none⟩ = false) := fun w6 hg6 => by
        have hblk : w6.heap[E]? = W5.heap[E]? := (hg6.block E (by have := hbA.size; omega) (fun e => by have := hcr.hs.col E e.symm; have := hcr.ce; omega)).trans (hbA.block E hEz)
        exact ⟨by rw [World.cell?_of_block (w := W5) hblk]; exact hcr.e.fh, by rw [World.frozen?_of_block (w := W5) hblk]; exact hcr.e.free 3⟩
      have HK : Hid (∀ w6 v1, w6.ownsRow w.heap.size 91 1 v1 (j + 1) (ptrs H j ++ [.pointer (some ⟨W5.heap.size, 0, none⟩)]) → World.grownBy ((W5.alloc (.cells #[.slice da r[j].length dcap, .int .i64 (j : Int), .int .i64 0, .int .i64 0, .int .i64 0, .int .i64 0, .int .i64 0, .slice none 0 0, .bool false, .int .i64 0, .int .i64 0, .int .i64 0, .int .i64 0, .int .i64 0] 96)).alloc (.cells #[.pointer (some ⟨W5.heap.size, 0, none⟩)] 91)).drew w6 vH.ownBlock → (v1.ownBlock = vH.ownBlock ∨ v1.ownBlock = some (World.heap ((W5.alloc (.cells #[.slice da r[j].length dcap, .int .i64 (j : Int), .int .i64 0, .int .i64 0, .int .i64 0, .int .i64 0, .int .i64 0, .slice none 0 0, .bool false, .int .i64 0, .int .i64 0, .int .i64 0, .int .i64 0, .int .i64 0] 96)).alloc (.cells #[.pointer (some ⟨W5.heap.size, 0, none⟩)] 91)).drew).size) →
          (∃ c', CrewN (w6.setCell ⟨E, 3, none⟩ v1) c' w.heap.size E B D NB (.slice (some ⟨g1, 0, none⟩) (j + 1) cap1) v1 (putN C j Cn) (putV U j u) (j + 1) (putN H j W5.heap.size) (putV V j (.slice da r[j].length dcap)) (j + 1) Vb r (newF s r)) ∧ Below w.heap.size w (w6.setCell ⟨E, 3, none⟩ v1)) := fun w6 v1 ho hg hat =>
        ⟨hcr.hand (by omega) hzN hHd (fun _ => hDn) ho hg hat, hcr.below_row hBl (Nat.le_refl _) hzN hbA (.inr rfl) hg 3⟩
      have hbs : w.heap.size ≤ (World.heap ((W5.alloc (.cells #[.slice da r[j].length dcap, .int .i64 (j : Int), .int .i64 0, .int .i64 0, .int .i64 0, .int .i64 0, .int .i64 0, .slice none 0 0, .bool false, .int .i64 0, .int .i64 0, .int .i64 0, .int .i64 0, .int .i64 0] 96)).alloc (.cells #[.pointer (some ⟨W5.heap.size, 0, none⟩)] 91)).drew).size := by have := hbA.size; omega
      clear hHd hDn hbA hcr hBl
      go_region_law (refine step_append_at rfl (.tmp 56) (.tmp 64) 87 rfl w.heap.size 91 i2 (.pointer none) 1 8 Tryd.underlying87 hi2 hy0 hy1 hy2 rfl (by decide) vH j (ptrs H j) (by simp [Act.eval]) HO.out ⟨W5.heap.size + 1, 0, none⟩ 1 1 [.pointer (some ⟨W5.heap.size, 0, none⟩)] (by simp [Act.eval]) rfl HN.out (by simp [Value.oneCell']) (by unfold maxLen; omega) (by omega) hbs ?_; intro v1 w6 ho1 hg1 hat1; have HKX := HK.out w6 v1 ho1 hg1 hat1; obtain ⟨g2, cap2, rfl, -⟩ := owns_cells ho1 (by omega); obtain ⟨qc, qf⟩ := HC.out w6 hg1)
      all_goals go_wp2_with fail
      all_goals go_roundg (r.length - (j + 1))
      all_goals first | omega | (obtain ⟨⟨c'', hcr'⟩, hBl'⟩ := HKX; exact ⟨j + 1, c'', _, _, _, _, _, _, by omega, rfl, by go_num, hcr', hBl'⟩)
    · obtain rfl : j = r.length := by omega
      clear hr
      go_wp2_with fail
      go_ret
      exact ⟨c, E, B, D, NB, vW, vH, C, U, H, V, Vb, rfl, hcr, hBl⟩
end Go.Proofs.YthlhbmldfjkagaaDoor
