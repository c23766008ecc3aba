/-
  The walk of codec.Decode.
-/
import Derived.Test.YtokjigebjcgdjacDoorRdF
namespace Go.Proofs.YtokjigebjcgdjacDoor
open Go.RowKit

/-- What Decode answers. -/
def DecOut (w' : World) (e : Ending) (t : List (List Op5) × Int × Int) : Prop := ∃ u, e = .returned (.tuple #[u, .int .i64 t.2.1, .int .i64 t.2.2]) ∧ RoundAt w' u t.1
theorem roundAt_nil (w : World) : RoundAt w (.slice none 0 0) [] := ⟨none, 0, rfl, fun i hi => by simp at hi⟩

theorem shl_byte {y : Int} (h : IsB y) : wrap64 (y * 256) = 256 * y := by unfold IsB at h; unfold wrap64; omega

set_option maxRecDepth 100000 in
set_option maxHeartbeats 1000000 in
theorem dec_short {l : List Int} {v : Value} {w : World} (h : BytesAt w v l) (h2 : l.length < 2) :
    Calls Tryd.prog 11 #[v] w fun e w' => DecOut w' e (decF l) ∧ Below w.heap.size w w' := by
  have hF : Hid (decF l = ([], 0, 6)) := by
    match l, h2 with
    | [], _ => rfl
    | [_], _ => rfl
  obtain ⟨a, cap, rfl, hc, -⟩ := h
  go_enter Tryd.func11, Tryd.ntmps11
  go_wp2_with fail
  refine bodyPost_ret (results_tmp3 rfl _ _ _) rfl ?_
  rw [hF.out]
  exact ⟨⟨_, rfl, roundAt_nil _⟩, Below.refl _ _⟩

set_option maxRecDepth 100000 in
set_option maxHeartbeats 1000000 in
theorem dec_long {l : List Int} {x y : Int} {v : Value} {w : World} (h : BytesAt w v (x :: y :: l)) (hb : AllB (x :: y :: l)) (hm : l.length ≤ 140737488355328) (hL : Lim w) :
    Calls Tryd.prog 11 #[v] w fun e w' => DecOut w' e (decF (x :: y :: l)) ∧ Below w.heap.size w w' := by
  have H := h
  obtain ⟨a, cap, rfl, hc, hcell⟩ := h
  obtain ⟨b, off, -, rfl, c0⟩ := hcell 0 (by simp)
  obtain ⟨b', off', -, e, c1⟩ := hcell 1 (by simp)
  cases e
  simp only [List.length_cons, List.getElem_cons_zero, List.getElem_cons_succ, Nat.add_zero] at c0 c1 hc H
  clear hcell
  have hx := int_byte hb.head
  have hy := int_byte hb.tail.head
  have hs := shl_byte hb.tail.head
  have bx := hb.head
  have bY := hb.tail.head
  unfold IsB at bx bY
  have hs : x + 256 * y = x + y * 256 := by omega
  have hd : decF (x :: y :: l) = if (l.length : Int) < x + 256 * y then ([], 0, 6) else match readAll (l.take (x + 256 * y).toNat) with | none => ([], 0, 3) | some r => if roundF r ≠ 0 then ([], 0, roundF r) else (r, 2 + x + 256 * y, 0) := rfl
  rw [hs, show 2 + x + 256 * y = 2 + x + y * 256 by omega] at hd
  by_cases hlt : (l.length : Int) < x + y * 256
  · rw [if_pos hlt] at hd
    have HD : Hid (decF (x :: y :: l) = ([], 0, 6)) := hd
    have ht : ((l.length : Int) + 1 + 1 < 2 + x + y * 256) := by omega
    clear hd hs hlt
    go_enter Tryd.func11, Tryd.ntmps11
    go_wp2_with fail
    go_region
    go_wp2_with fail
    refine bodyPost_ret (results_tmp3 rfl _ _ _) rfl ?_
    rw [HD.out]
    exact ⟨⟨_, rfl, roundAt_nil _⟩, (Below.refl _ _).drew⟩
  · rw [if_neg hlt] at hd
    have ht : ¬ ((l.length : Int) + 1 + 1 < 2 + x + y * 256) := by omega
    obtain ⟨sv, hsv, hB⟩ := cut_lh (P := fun _ => True) (W := w) (l := x :: y :: l) H (m := 2) (n := 2 + x + y * 256) (by omega) (by omega) (by simp only [List.length_cons]; omega)
    have hsv' : ∀ w, (Instr.slice 26 (.slice (some ⟨b, off, none⟩) (l.length + 1 + 1) cap) (some (.int .i64 2)) (some (.int .i64 (2 + x + y * 256))) none).run Tryd.prog w = .ok sv w := hsv
    have hE : (((x :: y :: l).take (2 + x + y * 256).toNat).drop (2 : Int).toNat) = l.take (x + y * 256).toNat := by
      rw [show (2 + x + y * 256).toNat = (x + y * 256).toNat + 2 by omega]; rfl
    rw [hE] at hB
    clear hE hsv hs H hlt
    have hAll : AllB (l.take (x + y * 256).toNat) := hb.tail.tail.take _
    generalize l.take (x + y * 256).toNat = m at *
    cases hr : readAll m with
    | none =>
      rw [hr] at hd
      have HD : Hid (decF (x :: y :: l) = ([], 0, 3)) := hd
      have hread := read_none (w := w.drew) hB hAll hr
      clear hd hB hr
      go_enter Tryd.func11, Tryd.ntmps11
      go_wp2_with fail
      go_region
      go_wp2_with fail
      refine hread.mono ?_
      rintro e w1 ⟨rfl, hb1⟩
      have hB1 : Below w.heap.size w w1 := (Below.refl _ _).drew.trans hb1
      go_wp2_with fail
      refine bodyPost_ret (results_tmp3 rfl _ _ _) rfl ?_
      rw [HD.out]
      exact ⟨⟨_, rfl, roundAt_nil _⟩, hB1⟩
    | some r =>
      rw [hr] at hd
      have hread := read_some (w := w.drew) hB hAll hr
      have hfit := readAll_fits hAll hr
      have hF : Fits r := ⟨by omega, fun i hi => by have := hfit.2 _ (List.getElem_mem hi); omega⟩
      clear hB hr hfit
      by_cases hz : roundF r = 0
      · have HD : Hid (decF (x :: y :: l) = (r, 2 + x + y * 256, 0)) := hd.trans (if_neg (by simp [hz]))
        clear hd
        go_enter Tryd.func11, Tryd.ntmps11
        go_wp2_with fail
        go_region
        go_wp2_with fail
        refine hread.mono ?_
        rintro e w1 ⟨⟨u, rfl, hU⟩, hb1⟩
        have hB1 : Below w.heap.size w w1 := (Below.refl _ _).drew.trans hb1
        clear hread hb1
        go_wp2_with fail
        refine (round_any u r w1 hU hF (hL.later hB1)).mono ?_
        rintro e w2 ⟨rfl, hb2⟩
        have hU2 := hU.later hb2
        have hB2 : Below w.heap.size w w2 := hB1.trans (hb2.mono hB1.size)
        clear hU hB1 hb2
        go_wp2_with fail
        refine bodyPost_ret (results_tmp3 rfl _ _ _) rfl ?_
        rw [HD.out]
        exact ⟨⟨_, rfl, hU2⟩, hB2⟩
      · have HD : Hid (decF (x :: y :: l) = ([], 0, roundF r)) := hd.trans (if_pos hz)
        clear hd
        go_enter Tryd.func11, Tryd.ntmps11
        go_wp2_with fail
        go_region
        go_wp2_with fail
        refine hread.mono ?_
        rintro e w1 ⟨⟨u, rfl, hU⟩, hb1⟩
        have hB1 : Below w.heap.size w w1 := (Below.refl _ _).drew.trans hb1
        clear hread hb1
        go_wp2_with fail
        refine (round_any u r w1 hU hF (hL.later hB1)).mono ?_
        rintro e w2 ⟨rfl, hb2⟩
        have hB2 : Below w.heap.size w w2 := hB1.trans (hb2.mono hB1.size)
        clear hU hB1 hb2
        go_wp2_with fail
        refine bodyPost_ret (results_tmp3 rfl _ _ _) rfl ?_
        rw [HD.out]
        exact ⟨⟨_, rfl, roundAt_nil _⟩, hB2⟩

theorem dec_any {l : List Int} {v : Value} {w : World} (h : BytesAt w v l) (hb : AllB l) (hm : l.length ≤ 140737488355328) (hL : Lim w) :
    Calls Tryd.prog 11 #[v] w fun e w' => DecOut w' e (decF l) ∧ Below w.heap.size w w' := by
  match l, h, hb, hm with
  | [], h, _, _ => exact dec_short h (by simp)
  | [_], h, _, _ => exact dec_short h (by simp)
  | x :: y :: l, h, hb, hm => exact dec_long h hb (by simp at hm; omega) hL
end Go.Proofs.YtokjigebjcgdjacDoor
