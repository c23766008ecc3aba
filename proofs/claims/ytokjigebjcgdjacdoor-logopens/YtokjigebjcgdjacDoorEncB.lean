/-
  The walk of codec.Encode.
-/
import Derived.Test.YtokjigebjcgdjacDoorEncA
import Derived.Test.YtokjigebjcgdjacDoorWalkC
import Derived.Laws.MakeOwn
namespace Go.Proofs.YtokjigebjcgdjacDoor
open Go.RowKit

/-- What Encode answers. -/
def EncOut (w' : World) (e : Ending) (r : List (List Op5)) : Prop := ∃ u, e = .returned (.tuple #[u, .int .i64 (roundF r)]) ∧ ((roundF r = 0 ∧ BytesAt w' u (encB r)) ∨ (roundF r ≠ 0 ∧ u = .slice none 0 0))

theorem make_two (w : World) : (Instr.makeSlice 26 (.int .i64 2) (.int .i64 2)).run Tryd.prog w = .ok (.slice (some ⟨w.heap.size, 0, none⟩) 2 2) (w.alloc (.cells #[.int .u8 0, .int .u8 0] 5)) := by
  obtain ⟨i, hi, hz, hs, hb⟩ := info_parts infoU8
  have := run_make (P := Tryd.prog) w 26 5 i _ Tryd.underlying26 hi hz .i64 .i64 2 2 (by omega) (by omega) (by rw [hb]; omega) (by omega)
  have e : madeCells (Value.int .u8 0).cells (Int.toNat 2 * 1) = #[.int .u8 0, .int .u8 0] := by kernel_rfl
  rw [this, hs, e]
  rfl
theorem own_two (w : World) (base : Nat) (hb : base ≤ w.heap.size) : (w.alloc (.cells #[.int .u8 0, .int .u8 0] 5)).ownsRow base 5 1 (.slice (some ⟨w.heap.size, 0, none⟩) 2 2) 2 (byteCells [0, 0]) :=
  ⟨rfl, .inr ⟨w.heap.size, 2, #[.int .u8 0, .int .u8 0], rfl, hb, heap_alloc_new w _, by omega, by decide, rfl, rfl⟩⟩

/-- The first two bytes of a row are laid anew. -/
theorem bytes_head {P : Nat → Prop} {w : World} {g cap : Nat} {x0 y0 : Int} {l : List Int} (h : BytesIn P w (.slice (some ⟨g, 0, none⟩) (x0 :: y0 :: l).length cap) (x0 :: y0 :: l)) (x y : Int) :
    BytesIn P ((w.setCell ⟨g, 0, none⟩ (.int .u8 x)).setCell ⟨g, 1, none⟩ (.int .u8 y)) (.slice (some ⟨g, 0, none⟩) (x0 :: y0 :: l).length cap) (x :: y :: l) := by
  obtain ⟨a, cap', e, hc, h⟩ := h
  cases e
  refine ⟨_, cap, rfl, hc, fun i hi => ?_⟩
  obtain ⟨b, off, hp, e, hcell⟩ := h i (by simpa using hi)
  cases e
  refine ⟨g, 0, hp, rfl, ?_⟩
  rw [Nat.zero_add] at hcell ⊢
  obtain ⟨b1, off1, -, e1, h1⟩ := h 1 (by simp)
  cases e1
  match i, hi, hcell with
  | 0, _, hcell =>
    rw [World.cell?_setCell_other _ _ _ _ (fun h => by simp only [Addr.mk.injEq] at h; omega), World.cell?_setCell_same _ _ _ hcell]; rfl
  | 1, _, hcell =>
    rw [World.cell?_setCell_same _ _ _ (by rw [World.cell?_setCell_other _ _ _ _ (fun h => by simp only [Addr.mk.injEq] at h; omega)]; exact hcell)]; rfl
  | i + 2, _, hcell =>
    rw [World.cell?_setCell_other _ _ _ _ (fun h => by simp only [Addr.mk.injEq] at h; omega), World.cell?_setCell_other _ _ _ _ (fun h => by simp only [Addr.mk.injEq] at h; omega), hcell]; rfl

/-- A row of bytes of the call's own. -/
def OwnB (w : World) (base : Nat) (v : Value) (l : List Int) : Prop := w.ownsRow base 5 1 v l.length (byteCells l)

set_option maxRecDepth 100000 in
set_option maxHeartbeats 1000000 in
theorem enc_bad {r : List (List Op5)} {v : Value} {w : World} (hr : RoundAt w v r) (hf : Fits r) (hL : Lim w) (hz : roundF r ≠ 0) :
    Calls Tryd.prog 10 #[v] w fun e w' => EncOut w' e r ∧ Below w.heap.size w w' := by
  go_enter Tryd.func10, Tryd.ntmps10
  go_wp2_with fail
  refine (round_any v r w hr hf hL).mono ?_
  rintro e w1 ⟨rfl, hb1⟩
  go_wp2_with fail
  refine bodyPost_ret (results_tmp2 rfl _ _ _) rfl ?_
  exact ⟨⟨_, rfl, .inr ⟨hz, rfl⟩⟩, hb1⟩

set_option maxRecDepth 100000 in
set_option maxHeartbeats 2000000 in
theorem enc_good {r : List (List Op5)} {v : Value} {w : World} (hr : RoundAt w v r) (hf : Fits r) (hL : Lim w) (hz : roundF r = 0) :
    Calls Tryd.prog 10 #[v] w fun e w' => EncOut w' e r ∧ Below w.heap.size w w' := by
  obtain ⟨i0, hi, hz0, hz1, hz2⟩ := info_parts infoU8
  obtain ⟨h8, hchk⟩ := roundF_zero.1 hz
  have hm2 := make_two
  have HR := hr
  have hF : Hid (roundF r = 0) := hz
  have hlen : IntKind.u8.wrap (r.length : Int) = (r.length : Int) := by rw [IntKind.wrap_u8]; omega
  have hround := round_any v r w hr hf hL
  rw [hz] at hround
  obtain ⟨a, cap, rfl, hr⟩ := hr
  clear hz
  go_enter Tryd.func10, Tryd.ntmps10
  go_wp2_with fail
  refine hround.mono ?_
  rintro e w1 ⟨rfl, hb1⟩
  have hs1 := hb1.size
  have hO1 := own_two w1 w.heap.size hs1
  have hNw : Hid (∀ i u, (byteCells [(r.length : Int)])[i]? = some u → ((w1.alloc (.cells #[.int .u8 0, .int .u8 0] 5)).alloc (.cells #[.int .u8 (r.length : Int)] 5)).cell? ((⟨w1.heap.size + 1, 0, none⟩ : Addr).add i) = some u) := by
    have := new_cells (w1.alloc (.cells #[.int .u8 0, .int .u8 0] 5)) [(r.length : Int)] 5
    rw [World.size_alloc] at this
    exact this
  have hB1 : Below w.heap.size w ((w1.alloc (.cells #[.int .u8 0, .int .u8 0] 5)).alloc (.cells #[.int .u8 (r.length : Int)] 5)) := (hb1.alloc hs1 _).alloc (by simp; omega) _
  clear hround
  go_wp2_with (at_builtin; refine wpList_append_own _ rfl _ _ 26 rfl w.heap.size 5 i0 (.int .u8 0) 1 1 Tryd.underlying26 hi hz0 hz1 hz2 rfl (by decide) _ _ _ rfl (hO1.alloc _) ⟨w1.heap.size + 1, 0, none⟩ 1 1 (byteCells [(r.length : Int)]) rfl rfl hNw.out (byteCells_one _) (by unfold maxLen; omega) (by omega) (by simp; omega) ?_; intro v2 w2 hO2 hgrow2 hnil2)
  have hB2 : Below w.heap.size w w2 := hB1.grown hgrow2 (by simp; omega) (fun g hg => (hO1.lt g hg).1)
  have hO2' : OwnB w2 w.heap.size v2 (0 :: 0 :: (r.length : Int) :: deedsB (r.take 0)) := hO2
  clear hgrow2 hnil2 hO2 hB1 hNw hO1 hs1 hb1
  go_loopg [5, 25] r.length (fun g b i wr => ∃ j : Nat, j ≤ r.length ∧ g = r.length - j ∧ i = .int .i64 (j : Int) ∧ OwnB wr w.heap.size b (0 :: 0 :: (r.length : Int) :: deedsB (r.take j)) ∧ Below w.heap.size w wr)
  case atStart => exact ⟨0, by omega, by omega, rfl, hO2', hB2⟩
  case round =>
    obtain ⟨j, hj, hg, rfl, hO, hB⟩ := hrel
    clear hO2' hB2
    by_cases hlt : j < r.length
    · obtain ⟨b, off, rfl, dv, c0, hD⟩ := hr j hlt
      have hd14 := checkF_len (hchk _ (List.getElem_mem hlt))
      have hal := checkF_alone (hchk _ (List.getElem_mem hlt))
      have hll : (deedsB (r.take j)).length ≤ 141 * 8 := Nat.le_trans (deedsB_length (fun d hd => hchk d (List.mem_of_mem_take hd))) (Nat.mul_le_mul_left _ (by simp; omega))
      have hT : Hid (deedsB (r.take (j + 1)) = deedsB (r.take j) ++ deedB r[j]) := deedsB_take hlt
      have hopl : ∀ k, (opsB (r[j].take k)).length ≤ 140 := fun k => Nat.le_trans (opsB_length _) (by simp; omega)
      replace c0 := cell_later hB c0
      clear hr
      generalize hdd : r[j] = d at *
      generalize deedsB (r.take j) = D at *
      obtain ⟨da, dcap, rfl, hD⟩ := hD
      have hlen' : IntKind.u8.wrap (d.length : Int) = (d.length : Int) := by rw [IntKind.wrap_u8]; omega
      have hsr := hB.size
      have hNw : Hid (∀ i u, (byteCells [(d.length : Int)])[i]? = some u → (wr.alloc (.cells #[.int .u8 (d.length : Int)] 5)).cell? ((⟨wr.heap.size, 0, none⟩ : Addr).add i) = some u) := new_cells wr [(d.length : Int)] 5
      go_wp2_with (at_builtin; refine wpList_append_own _ rfl _ _ 26 rfl w.heap.size 5 i0 (.int .u8 0) 1 1 Tryd.underlying26 hi hz0 hz1 hz2 rfl (by decide) _ _ _ rfl (World.ownsRow.alloc hO _) ⟨wr.heap.size, 0, none⟩ 1 1 (byteCells [(d.length : Int)]) rfl rfl hNw.out (byteCells_one _) (by simp only [List.length_cons]; unfold maxLen; omega) (by simp only [List.length_cons]; omega) (by simp; omega) ?_; intro v3 w3 hO3 hgrow3 hnil3)
      have hB3 : Below w.heap.size w w3 := (hB.alloc hsr _).grown hgrow3 (by simp; omega) (fun g hg => (World.ownsRow.lt hO g hg).1)
      have hO3' : OwnB w3 w.heap.size v3 (0 :: 0 :: (r.length : Int) :: D ++ (d.length : Int) :: opsB (d.take 0)) := by
        unfold OwnB
        rw [← byteCells_append] at hO3
        simpa [opsB] using hO3
      clear hgrow3 hnil3 hO3 hNw hO hB c0 hsr
      go_loopg [5, 37] d.length (fun g b i wr => ∃ k : Nat, k ≤ d.length ∧ g = d.length - k ∧ i = .int .i64 (k : Int) ∧ OwnB wr w.heap.size b (0 :: 0 :: (r.length : Int) :: D ++ (d.length : Int) :: opsB (d.take k)) ∧ Below w.heap.size w wr)
      case atStart => exact ⟨0, by omega, by omega, rfl, hO3', hB3⟩
      case round =>
        obtain ⟨k, hk, hg', rfl, hO, hB⟩ := hrel
        clear hO3' hB3
        by_cases hlt' : k < d.length
        · obtain ⟨db, doff, rfl, c0, c1, c2, c3, c4⟩ := hD k hlt'
          replace c0 := cell_later hB c0
          replace c1 := cell_later hB c1
          replace c2 := cell_later hB c2
          replace c3 := cell_later hB c3
          replace c4 := cell_later hB c4
          have hoT : Hid (opsB (d.take (k + 1)) = opsB (d.take k) ++ opB d[k]) := opsB_take hlt'
          have ha := hal _ (List.getElem_mem hlt')
          have hl2 := hopl k
          have hsr := hB.size
          have HB : Hid (Below w.heap.size w wr) := hB
          have HO : Hid (OwnB wr w.heap.size u5 (0 :: 0 :: (r.length : Int) :: D ++ (d.length : Int) :: opsB (d.take k))) := hO
          clear hD hB hO
          generalize d[k] = o at *
          go_wp2_with fail
          refine (appendOp_any ha (World.ownsRow.alloc HO.out _) (by simp only [List.length_cons, List.length_append]; omega) (by simp; omega)).mono ?_
          rintro e w4 ⟨⟨v4, rfl, hO4⟩, hb4⟩
          have hB4 : Below w.heap.size w w4 := (HB.out.alloc hsr _).trans hb4
          have hO4' : OwnB w4 w.heap.size v4 (0 :: 0 :: (r.length : Int) :: D ++ (d.length : Int) :: opsB (d.take (k + 1))) := by
            unfold OwnB
            rw [hoT.out]
            simpa using hO4
          clear hb4 hO4 HB HO c0 c1 c2 c3 c4
          go_wp2_with fail
          go_roundg (d.length - (k + 1))
          case measure => omega
          case rel => exact ⟨k + 1, by omega, rfl, by go_num, hO4', hB4⟩
        · obtain rfl : k = d.length := by omega
          clear hD
          rw [List.take_length] at hO
          have hO' : OwnB wr w.heap.size u5 (0 :: 0 :: (r.length : Int) :: deedsB (r.take (j + 1))) := by
            rw [hT.out]
            exact hO
          clear hO
          go_wp2_with fail
          go_roundg (r.length - (j + 1))
          case measure => omega
          case rel => exact ⟨j + 1, by omega, rfl, by go_num, hO', hB⟩
    · obtain rfl : j = r.length := by omega
      clear hr
      rw [List.take_length] at hO
      have hbl := bodyB_length hF.out
      have hO' : OwnB wr w.heap.size u5 (0 :: 0 :: bodyB r) := hO
      have hE : encB r = ((bodyB r).length : Int) % 256 :: ((bodyB r).length : Int) / 256 :: bodyB r := rfl
      clear hO
      have hBy := owns_bytes hO'
      rcases hO'.2 with ⟨-, h0⟩ | ⟨g, cp, cur, rfl, hbg, hgg, -⟩
      · simp at h0
      · have hHd := bytes_head hBy (((bodyB r).length : Int) % 256) (((bodyB r).length : Int) / 256)
        rw [← hE] at hHd
        have hw1 : IntKind.u8.wrap ((bodyB r).length : Int) = ((bodyB r).length : Int) % 256 := IntKind.wrap_u8 _
        have hw2 : IntKind.u8.wrap (((bodyB r).length : Int) / 256) = ((bodyB r).length : Int) / 256 := by rw [IntKind.wrap_u8]; omega
        obtain ⟨a0, cp0, e0, -, hcell⟩ := hBy
        cases e0
        obtain ⟨b0, of0, -, e0, q0⟩ := hcell 0 (by simp)
        cases e0
        obtain ⟨b0, of0, -, e0, q1⟩ := hcell 1 (by simp)
        cases e0
        simp only [List.getElem_cons_zero, List.getElem_cons_succ, Nat.add_zero, Nat.zero_add] at q0 q1
        have f0 : ∀ o, wr.frozen? ⟨g, o, none⟩ = false := fun o => by simp [World.frozen?, hgg]
        clear hcell hO' hgg hE
        simp only [List.length_cons] at hHd ⊢
        generalize bodyB r = B at *
        go_wp2_with fail
        refine bodyPost_ret (results_tmp2 rfl _ _ _) rfl ?_
        rw [show ((B.length : Int) + 1 + 1 - 2) = (B.length : Int) by omega]
        exact ⟨⟨_, by rw [hF.out]; rfl, .inl ⟨hF.out, hHd.at⟩⟩, (hB.setCell (p := ⟨g, 0, none⟩) hbg _).setCell (p := ⟨g, 1, none⟩) hbg _⟩

theorem enc_any {r : List (List Op5)} {v : Value} {w : World} (hr : RoundAt w v r) (hf : Fits r) (hL : Lim w) :
    Calls Tryd.prog 10 #[v] w fun e w' => EncOut w' e r ∧ Below w.heap.size w w' := by
  by_cases hz : roundF r = 0
  · exact enc_good hr hf hL hz
  · exact enc_bad hr hf hL hz
end Go.Proofs.YtokjigebjcgdjacDoor
