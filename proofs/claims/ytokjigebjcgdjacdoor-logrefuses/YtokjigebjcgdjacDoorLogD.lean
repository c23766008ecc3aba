/-
  The walks of a log's add and Put.
-/
import Derived.Test.YtokjigebjcgdjacDoorLogC
import Derived.Deep.RegionLaw
namespace Go.Proofs.YtokjigebjcgdjacDoor
open Go.RowKit

theorem infoI : (Tryd.prog.info? 3).map (fun i => (i.zero, i.size, i.bytes)) = some (some (.int .i64 0), 1, 8) := by kernel_rfl

section
variable {P : Nat → Prop} {w : World} {C : Nat} {l : List (List (List Op5))} {k : Nat}

set_option maxRecDepth 100000 in
set_option maxHeartbeats 1000000 in
theorem logAdd_any {r : List (List Op5)} {v : Value} (h : LogAt P w C l k) (hv : BytesAt w v (encB r)) (hr : Good r) (hroom : roomF l (encB r).length = true) :
    Calls Tryd.prog 41 #[.pointer (some ⟨C, 0, none⟩), v] w fun e w' => e = .returned (.tuple #[]) ∧ LogAt (fun b => P b ∨ w.heap.size ≤ b) w' C (l ++ [r]) k ∧ Grew P w w' := by
  obtain ⟨i0, hi, hz0, hz1, hz2⟩ := info_parts infoU8
  obtain ⟨j0, hj, hy0, hy1, hy2⟩ := info_parts infoI
  obtain ⟨ho, va, ve, h⟩ := h
  have HO : Hid (LogOk (l ++ [r]) k) := ho.put hr hroom
  obtain ⟨a, cap, rfl, -⟩ := id hv
  obtain ⟨b, off, rfl, hc⟩ := BytesIn.cells hv (by have := enc_pos r; omega)
  have HN : Hid (∀ j u, (byteCells (encB r))[j]? = some u → w.cell? ((⟨b, off, none⟩ : Addr).add j) = some u) := hc
  have HL : Hid ((byteCells (encB r)).length = (encB r).length * 1) := by show _ = _; rw [byteCells_length]; omega
  have hlr := hr.len
  have hs := ho.short
  have hf := ho.few
  obtain ⟨aa, acap, rfl, -⟩ := owns_slice h.ra
  obtain ⟨ea, ecap, rfl, -⟩ := owns_slice h.re
  have c0 := h.c0
  have c1 := h.c1
  have fr := h.fr
  have HR : Hid (LogRaw P w C (allB l) (endsB l) (endB l k) (.slice aa (allB l).length acap) (.slice ea (endsB l).length ecap)) := h
  have hra := h.ra
  have hpC := h.pC
  have hlen : (endsB l).length ≤ 25 := by rw [endsB_length]; exact hf
  have hEs : Hid (endsB (l ++ [r]) = endsB l ++ [((allB l).length + (encB r).length : Int)]) := by
    show _ = _
    rw [endsB_snoc, allB_snoc, List.length_append]; rfl
  have hAs : Hid (allB (l ++ [r]) = allB l ++ encB r) := allB_snoc l r
  have hEk : Hid (endB (l ++ [r]) k = endB l k) := endB_append l [r] ho.sure
  clear hc hv h ho hr hroom
  generalize encB r = X at *
  generalize allB l = A at *
  generalize endsB l = E at *
  go_enter Tryd.func41, Tryd.ntmps41
  go_wp2_with (at_builtin; refine wpList_append_own_at _ rfl _ (.tmp 9) 26 rfl 0 5 i0 (.int .u8 0) 1 1 Tryd.underlying26 hi hz0 hz1 hz2 rfl (by decide) _ _ _ rfl hra ⟨b, off, none⟩ X.length cap (byteCells X) rfl HL.out HN.out (byteCells_one _) (by unfold maxLen; omega) (by omega) (Nat.zero_le _) ?_; intro v1 w1 hO1 hg1 _ hat1; obtain ⟨va1, cap1, rfl, -⟩ := owns_slice hO1; have hG1 : Grew (fun b => (Value.slice aa A.length acap).ownBlock = some b) w w1 := ⟨hg1.os, hg1.tape, hg1.output, hg1.size, fun k hk hn => hg1.block k hk (fun e => hn e.symm)⟩; have hCn : ¬ (Value.slice aa A.length acap).ownBlock = some C := fun e => (HR.out.pa C e).2 rfl; have e0 := hG1.cell c0 hCn; have e1 : w1.frozen? ⟨C, 0, none⟩ = false := (hG1.frozen (p := ⟨C, 0, none⟩) HR.out.lt hCn).trans (fr 0))
  rw [← byteCells_append] at hO1
  have HR1 := HR.out.all (a' := A ++ X) hg1 (by rw [List.length_append]; exact hO1) hat1
  have hGA : Grew P w (w1.setCell ⟨C, 0, none⟩ (.slice va1 (A.length + X.length) cap1)) := (hG1.mono fun b e => (HR.out.pa b e).1).trans (grew_set w1 hpC _ _)
  have hlt := HR.out.lt
  have hpe := HR.out.pe
  have hse := fun g hg => (owns_lt (g := g) HR.out.re hg).2
  generalize w1.setCell ⟨C, 0, none⟩ (.slice va1 (A.length + X.length) cap1) = W1 at *
  clear hg1 hO1 hat1 hG1 hCn e0 e1 HR hra c0 c1 fr HN HL w1
  have c0 := HR1.c0
  have c1 := HR1.c1
  have fr := HR1.fr
  have hpe1 := HR1.pe
  have hlt1 := HR1.lt
  obtain ⟨m, hm⟩ : ∃ m, m = A.length + X.length := ⟨_, rfl⟩
  have hEs' : endsB (l ++ [r]) = E ++ [(m : Int)] := by rw [hEs.out, hm]; simp
  rw [← hm] at HR1 c0 ⊢
  have hbA : Below W1.heap.size W1 (World.drew (W1.alloc (.cells #[.int .i64 (m : Int)] 3))) := ((Below.refl _ _).alloc (Nat.le_refl _) _).drew
  have hr2 := HR1.later hbA
  have HO' : Hid (World.ownsRow (World.drew (W1.alloc (.cells #[.int .i64 (m : Int)] 3))) 0 3 1 (.slice ea E.length ecap) E.length (intCells E)) := hr2.re
  have HN : Hid (∀ j u, [Value.int .i64 (m : Int)][j]? = some u → World.cell? (World.drew (W1.alloc (.cells #[.int .i64 (m : Int)] 3))) ((⟨W1.heap.size, 0, none⟩ : Addr).add j) = some u) := cell_one_new W1 _ _
  have HC : Hid (∀ w6, World.grownBy (World.drew (W1.alloc (.cells #[.int .i64 (m : Int)] 3))) w6 (Value.slice ea E.length ecap).ownBlock → w6.cell? ⟨C, 1, none⟩ = some (.slice ea E.length ecap) ∧ ∀ o, w6.frozen? ⟨C, o, none⟩ = false) := fun w6 hg6 => by
    have hblk : w6.heap[C]? = W1.heap[C]? := (hg6.block C (by have := hbA.size; omega) (fun e => (hpe1 C e.symm).2 rfl)).trans (hbA.block C hlt1)
    exact ⟨by rw [World.cell?_of_block (w := W1) hblk]; exact c1, fun o => by rw [World.frozen?_of_block (w := W1) hblk]; exact fr o⟩
  have HK : Hid (∀ w6 v1, w6.ownsRow 0 3 1 v1 (E.length + 1) (intCells E ++ [.int .i64 (m : Int)]) → World.grownBy (World.drew (W1.alloc (.cells #[.int .i64 (m : Int)] 3))) w6 (Value.slice ea E.length ecap).ownBlock → (v1.ownBlock = (Value.slice ea E.length ecap).ownBlock ∨ v1.ownBlock = some (World.heap (World.drew (W1.alloc (.cells #[.int .i64 (m : Int)] 3)))).size) → LogAt (fun b => P b ∨ w.heap.size ≤ b) (w6.setCell ⟨C, 1, none⟩ v1) C (l ++ [r]) k ∧ Grew P w (w6.setCell ⟨C, 1, none⟩ v1)) := fun w6 v1 ho hg hat => by
    have h6 := hr2.ends (e' := E ++ [(m : Int)]) hg (by rw [intCells_append, List.length_append]; exact ho) hat
    have hsz := hGA.size
    have hsz2 := hbA.size
    refine ⟨⟨HO.out, .slice va1 m cap1, v1, ?_⟩, ?_⟩
    · rw [hEk.out, hAs.out, hEs']
      exact h6.mono fun b _ hb => by
        rcases hb with hb | hb
        · exact hb
        · exact .inr (by omega)
    · refine (hGA.trans ((Grew.of_below hbA).trans ⟨hg.os, hg.tape, hg.output, hg.size, fun b hb hn => hg.block b hb fun e => hn (hpe b e.symm).1⟩)).trans (grew_set w6 hpC _ _)
  clear hbA hr2 hpe1 HR1 hGA HO hEs hEs' hAs hEk hm
  go_wp2_with fail
  go_region_law (refine step_append_at rfl (.tmp 17) (.tmp 23) 69 rfl 0 3 j0 (.int .i64 0) 1 8 Tryd.underlying69 hj hy0 hy1 hy2 rfl (by decide) (.slice ea E.length ecap) E.length (intCells E) (by simp [Act.eval]) HO'.out ⟨W1.heap.size, 0, none⟩ 1 1 [.int .i64 (m : Int)] (by simp [Act.eval]) rfl HN.out (by simp [Value.oneCell']) (by unfold maxLen; omega) (by omega) (Nat.zero_le _) ?_; intro v1 w6 ho1 hg1 hat1; have HKX := HK.out w6 v1 ho1 hg1 hat1; obtain ⟨g2, cap2, rfl, -⟩ := owns_cells ho1 (by omega); obtain ⟨qc, qf⟩ := HC.out w6 hg1)
  all_goals go_wp2_with fail
  all_goals go_end0
  all_goals exact ⟨rfl, HKX⟩

/-- Does a round come behind these? -/
def okP (l : List (List (List Op5))) (r : List (List Op5)) : Bool := decide (roundF r = 0) && roomF l (encB r).length
/-- What Put tells, and what comes of the log. -/
def PutOut (P : Nat → Prop) (w' : World) (C : Nat) (e : Ending) (l : List (List (List Op5))) (k : Nat) (r : List (List Op5)) : Prop :=
  (okP l r = true ∧ e = .returned (.tuple #[.int .i64 (l.length : Int), .int .i64 0]) ∧ LogAt P w' C (l ++ [r]) k) ∨ (okP l r = false ∧ ∃ c : Int, c ≠ 0 ∧ e = .returned (.tuple #[.int .i64 0, .int .i64 c]) ∧ LogAt P w' C l k)

set_option maxRecDepth 100000 in
set_option maxHeartbeats 1000000 in
theorem logPut_any {r : List (List Op5)} {v : Value} (h : LogAt P w C l k) (hr : RoundAt w v r) (fr : Fits r) (nr : R64 r) (hL : Lim w) :
    Calls Tryd.prog 27 #[.pointer (some ⟨C, 0, none⟩), v] w fun e w' => PutOut (fun b => P b ∨ w.heap.size ≤ b) w' C e l k r ∧ Grew P w w' := by
  go_enter Tryd.func27, Tryd.ntmps27
  go_wp2_with fail
  refine (enc_any hr fr hL).mono ?_
  rintro e w1 ⟨⟨u, rfl, hU⟩, hb1⟩
  have h1 := h.later hb1
  have hz1 := hb1.size
  clear hr hL h
  rcases hU with ⟨h0, hU⟩ | ⟨h0, rfl⟩
  · rw [h0]
    have hg := good_of h0 nr
    have hlr := hg.len
    have hroom := logRoom_any h1 (n := (encB r).length) (by omega)
    cases hR : roomF l (encB r).length with
    | false =>
      rw [hR] at hroom
      have hK : Hid (okP l r = false) := by show okP l r = false; simp [okP, hR]
      obtain ⟨ua, ucap, rfl, -⟩ := hU
      clear hg hR
      generalize (encB r).length = n at *
      go_wp2_with fail
      refine hroom.mono ?_
      rintro e w2 ⟨rfl, rfl⟩
      clear hroom
      go_wp2_with fail
      refine bodyPost_ret (results_tmp2 rfl _ _ _) rfl ?_
      exact ⟨.inr ⟨hK.out, 8, by decide, rfl, h1.mono fun b _ hb => .inl hb⟩, Grew.of_below hb1⟩
    | true =>
      rw [hR] at hroom
      have hK : Hid (okP l r = true) := by show okP l r = true; simp [okP, hR, h0]
      have hadd := logAdd_any h1 hU hg hR
      have hf := (h1.ok.put hg hR).few
      simp only [List.length_append, List.length_singleton] at hf
      obtain ⟨ua, ucap, rfl, -⟩ := hU
      clear hg hR h1
      generalize (encB r).length = n at *
      go_wp2_with fail
      refine hroom.mono ?_
      rintro e w2 ⟨rfl, rfl⟩
      clear hroom
      go_wp2_with fail
      refine hadd.mono ?_
      rintro e w3 ⟨rfl, h3, hG3⟩
      clear hadd
      have hlen := logLen_any h3
      rw [List.length_append, List.length_singleton] at hlen
      go_wp2_with fail
      refine hlen.mono ?_
      rintro e w4 ⟨rfl, rfl⟩
      clear hlen
      have e1 : (((l.length + 1 : Nat) : Int) - 1) = (l.length : Int) := by omega
      go_wp2_with fail
      refine bodyPost_ret (results_tmp2 rfl _ _ _) rfl ?_
      refine ⟨.inl ⟨hK.out, ?_, h3.mono fun b _ hb => hb.imp id fun hb => by omega⟩, (Grew.of_below hb1).trans hG3⟩
      simp
  · have hK : Hid (okP l r = false) := by show okP l r = false; simp [okP, h0]
    have t0 : (roundF r != 0) = true := by simp [h0]
    go_wp2_with fail
    refine bodyPost_ret (results_tmp2 rfl _ _ _) rfl ?_
    exact ⟨.inr ⟨hK.out, _, h0, rfl, h1.mono fun b _ hb => .inl hb⟩, Grew.of_below hb1⟩
end
end Go.Proofs.YtokjigebjcgdjacDoor
