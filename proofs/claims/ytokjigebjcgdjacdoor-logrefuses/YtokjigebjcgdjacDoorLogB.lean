/-
  The walk of a log's Crash.
-/
import Derived.Test.YtokjigebjcgdjacDoorLogA
import Derived.StillTailTactics
namespace Go.Proofs.YtokjigebjcgdjacDoor
open Go.RowKit

theorem sliced_zero (a : Option Addr) (n cap : Nat) : sliced a 0 n cap 1 = .slice a n cap := by
  unfold sliced
  cases a with
  | none => simp
  | some a => simp [Addr.add]
theorem sizeI (w : World) : (sizeOf (Tryd.prog.elem 69)).run Tryd.prog w = .ok 1 w := by kernel_rfl
theorem slI : Tryd.prog.underlying 69 = some (.slice (Tryd.prog.elem 69)) := by kernel_rfl
theorem cutI_to (a : Option Addr) {m cap n : Nat} (h : n ≤ m) (hm : m ≤ cap) (w : World) : (Instr.slice 69 (.slice a m cap) none (some (.int .i64 (n : Int))) none).run Tryd.prog w = .ok (.slice a n cap) w := by
  rw [run_slice_h w _ _ _ _ slI .i64 (n : Int) (by omega) (by omega), sizeI]
  simp only [Result.andThen_ok, Int.toNat_natCast, sliced_zero]
theorem cutB_to (a : Option Addr) {m cap n : Nat} (h : n ≤ m) (hm : m ≤ cap) (w : World) : (Instr.slice 26 (.slice a m cap) none (some (.int .i64 (n : Int))) none).run Tryd.prog w = .ok (.slice a n cap) w := by
  rw [run_slice_h w _ _ _ _ slB .i64 (n : Int) (by omega) (by omega), sizeB]
  simp only [Result.andThen_ok, Int.toNat_natCast, sliced_zero]

section
variable {P : Nat → Prop} {w : World} {C : Nat} {l : List (List (List Op5))} {k : Nat}

set_option maxHeartbeats 400000 in
theorem crashAsks {B D : Nat} {w0 : World} {s keep : Int} (hs0 : 0 ≤ s) (hs1 : s ≤ 4000) (hb : w0.cell? ⟨B, 0, none⟩ = some (.pointer (some ⟨C, 0, none⟩))) (hd : w0.cell? ⟨D, 0, none⟩ = some (.int .i64 keep)) (hc : w0.cell? ⟨C, 2, none⟩ = some (.int .i64 s)) : AsksL 43 #[.pointer (some ⟨B, 0, none⟩), .pointer (some ⟨D, 0, none⟩)] (fun x => decide (x - s ≤ max keep 0)) w0 := by
  intro x w1 h0 h1 hB
  replace hb := cell_later hB hb
  replace hc := cell_later hB hc
  replace hd := cell_later hB hd
  show Calls Tryd.prog 43 #[.int .i64 x, .pointer (some ⟨B, 0, none⟩), .pointer (some ⟨D, 0, none⟩)] w1 _
  go_enter Tryd.func43, Tryd.ntmps43
  go_wp2_with fail
  go_region
  all_goals go_wp2_with fail
  all_goals go_ret
  all_goals refine ⟨ret_bl ?_, (Below.refl _ _).drew⟩
  all_goals first | rw [Int.max_eq_left (by omega)] | rw [Int.max_eq_right (by omega)]

set_option maxRecDepth 100000 in
set_option maxHeartbeats 1000000 in
theorem logCrash_any (h : LogAt P w C l k) (keep : Int) : Calls Tryd.prog 25 #[.pointer (some ⟨C, 0, none⟩), .int .i64 keep] w fun e w' => e = .returned (.tuple #[]) ∧ LogAt P w' C (l.take (wholeF l k (max keep 0))) (wholeF l k (max keep 0)) ∧ Grew P w w' := by
  have ho := h.ok
  have hn := whole_le l k (max keep 0)
  have hf := ho.few
  have hb : Below w.heap.size w ((w.alloc (.cells #[.pointer (some ⟨C, 0, none⟩)] 34)).alloc (.cells #[.int .i64 keep] 3)) := ((Below.refl _ _).alloc (Nat.le_refl _) _).alloc (by simp) _
  have hA : AsksL 43 #[.pointer (some ⟨w.heap.size, 0, none⟩), .pointer (some ⟨w.heap.size + 1, 0, none⟩)] (fun x => decide (x - (endB l k : Int) ≤ max keep 0)) ((w.alloc (.cells #[.pointer (some ⟨C, 0, none⟩)] 34)).alloc (.cells #[.int .i64 keep] 3)) := by
    have := ho.endk
    obtain ⟨-, va, ve, h⟩ := h
    exact crashAsks (C := C) (by omega) (by omega) (by go_simp) (by go_simp) (cell_later hb h.c2)
  have hc := logCount_any (h.later hb) hA (enters_of Tryd.func43 (by kernel_rfl) rfl)
  have q0 : ((w.alloc (.cells #[.pointer (some ⟨C, 0, none⟩)] 34)).alloc (.cells #[.int .i64 keep] 3)).cell? ⟨w.heap.size, 0, none⟩ = some (.pointer (some ⟨C, 0, none⟩)) := by go_simp
  obtain ⟨-, va, ve, h⟩ := h
  have hlt := h.lt
  have HR : LogRaw P _ C (allB l) (endsB l) (endB l k) va ve := h.later hb
  have hlen := endsB_length l
  have HT : Hid ((endsB l).take (wholeF l k (max keep 0)) = endsB (l.take (wholeF l k (max keep 0)))) := endsB_take l hn
  have HA : Hid ((allB l).take (endB l (wholeF l k (max keep 0))) = allB (l.take (wholeF l k (max keep 0)))) := allB_take l _
  have HO : Hid (LogOk (l.take (wholeF l k (max keep 0))) (wholeF l k (max keep 0))) := ho.cut hn
  change Calls Tryd.prog _ _ _ (fun e w' => e = .returned (.int .i64 (wholeF l k (max keep 0) : Int)) ∧ Below _ _ w') at hc
  have he := endB_le (l := l) hn
  have hs := ho.short
  have hE : Hid (∀ m (hm : m < ((endsB l).take (wholeF l k (max keep 0))).length), wholeF l k (max keep 0) = m + 1 → ((endsB l).take (wholeF l k (max keep 0)))[m] = (endB l (wholeF l k (max keep 0)) : Int)) := fun m hm e => by
    rw [List.getElem_take, endsB_get, e]
  have hE0 : Hid (wholeF l k (max keep 0) = 0 → (endB l (wholeF l k (max keep 0)) : Int) = 0) := fun e => by rw [e, endB_zero]; rfl
  have hEl : Hid (endB (l.take (wholeF l k (max keep 0))) (wholeF l k (max keep 0)) = endB l (wholeF l k (max keep 0))) := endB_take l (Nat.le_refl _)
  clear hA h ho
  generalize wholeF l k (max keep 0) = n at *
  obtain ⟨W0, e0⟩ : ∃ W0, W0 = (w.alloc (.cells #[.pointer (some ⟨C, 0, none⟩)] 34)).alloc (.cells #[.int .i64 keep] 3) := ⟨_, rfl⟩
  go_enter Tryd.func25, Tryd.ntmps25
  go_wp2_with fail
  rw [← e0] at hb hc q0 HR ⊢
  clear e0
  refine hc.mono ?_
  rintro e w1 ⟨rfl, hb1⟩
  have HR1 := HR.later hb1
  replace q0 := cell_later hb1 q0
  have hB1 : Below w.heap.size w w1 := hb.trans (hb1.mono hb.size)
  clear HR hc hb1 hb
  obtain ⟨ea, ecap, rfl, hecap⟩ := owns_slice HR1.re
  have hcI := cutI_to ea (m := (endsB l).length) (cap := ecap) (n := n) (by omega) hecap
  have c1 := HR1.c1
  have fr1 := HR1.fr
  have hpC := HR1.pC
  have HR2 : Hid (LogRaw P (w1.setCell ⟨C, 1, none⟩ (.slice ea n ecap)) C (allB l) ((endsB l).take n) (endB l k) va (.slice ea n ecap)) := HR1.cutEnds (by omega)
  clear HR1
  go_wp2_with fail
  go_region
  have HR3 := HR2.out.later (Below.refl _ _).drew
  replace q0 : (w1.setCell ⟨C, 1, none⟩ (.slice ea n ecap)).drew.cell? ⟨w.heap.size, 0, none⟩ = some (.pointer (some ⟨C, 0, none⟩)) := by
    show (w1.setCell ⟨C, 1, none⟩ (.slice ea n ecap)).cell? _ = _
    rw [World.cell?_setCell_other _ _ _ _ (fun h => by simp only [Addr.mk.injEq] at h; omega)]; exact q0
  have hG3 : Grew P w (w1.setCell ⟨C, 1, none⟩ (.slice ea n ecap)).drew := ((Grew.of_below hB1).trans (grew_set w1 hpC _ _)).drew
  generalize (w1.setCell ⟨C, 1, none⟩ (.slice ea n ecap)).drew = W2 at *
  clear HR2 c1 fr1 hB1 hcI
  obtain ⟨aa, acap, rfl, hacap⟩ := owns_slice HR3.ra
  have c0 := HR3.c0
  have fr3 := HR3.fr
  have hup := logUpTo_raw (HR3.later (Below.refl _ _).drew) (n := n) (by simp; omega) (by simp; omega) hE0.out hE.out
  have HR4 : Hid (LogRaw P (W2.setCell ⟨C, 0, none⟩ (.slice aa (endB l n) acap)) C ((allB l).take (endB l n)) ((endsB l).take n) (endB l k) (.slice aa (endB l n) acap) (.slice ea n ecap)) := HR3.cutAll he
  have hcB := cutB_to aa (m := (allB l).length) (cap := acap) (n := endB l n) he hacap
  have hlt2 : w.heap.size < W2.heap.size := World.block_lt_of_cell? W2 _ q0
  clear HR3 hE hE0
  generalize endB l n = E at *
  generalize (allB l).length = A at *
  go_wp2_with fail
  refine wp_region_still_tail 11 (by kernel_rfl) (by kernel_rfl) ?_
  simp only [List.take_succ_cons, List.take_zero, List.drop_succ_cons, List.drop_zero]
  repeat (first | still_step | still_call hup)
  refine wpStill_nil ?_
  go_wp2_with fail
  have HR5 := HR4.out.later (Below.refl _ _).drew
  have hG5 : Grew P w (W2.setCell ⟨C, 0, none⟩ (.slice aa E acap)).drew := (hG3.trans (grew_set W2 hpC _ _)).drew
  refine (logSync_raw HR5).mono ?_
  rintro e w3 ⟨rfl, HR6, hG6⟩
  rw [HA.out, HT.out] at HR6
  have hl : endB (l.take n) n = (allB (l.take n)).length := by
    unfold endB; rw [List.take_of_length_le (by simp; omega)]
  clear hup HR4 HR5
  go_wp2_with fail
  go_end0
  exact ⟨rfl, ⟨HO.out, _, _, by rw [hl]; exact HR6⟩, hG5.trans hG6⟩
end
end Go.Proofs.YtokjigebjcgdjacDoor
