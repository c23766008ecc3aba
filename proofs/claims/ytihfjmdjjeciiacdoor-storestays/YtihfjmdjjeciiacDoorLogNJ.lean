/-
  The walks of codec.read, Decode and of a log's Round once more, at a round that is there: it lies in new memory.
-/
import Derived.Test.YtihfjmdjjeciiacDoorJqLo
import Derived.Test.YtihfjmdjjeciiacDoorMemSJ
namespace Go.Proofs.YtihfjmdjjeciiacDoor
open Go.RowKit

theorem done_okN {w w1 W : World} {r : List (List Op5)} {ua v0 : Option Addr} {ucap : Nat} {ts : Array Value} (c0 : w1.cell? ⟨w.heap.size, 0, none⟩ = some (.slice v0 0 0)) (c1 : w1.cell? ⟨w.heap.size + 1, 0, none⟩ = some (.bool false)) (hlt : w.heap.size + 1 + 1 < W.heap.size) (hU : RoundIn (fun b => W.heap.size ≤ b) w1 (.slice ua r.length ucap) r) (hB : Below w.heap.size w w1)
    (t0 : ts[2]? = some (.pointer (some ⟨w.heap.size, 0, none⟩))) (t1 : ts[3]? = some (.pointer (some ⟨w.heap.size + 1, 0, none⟩))) :
    Leaves Tryd.prog Tryd.f47 ts (fun e w' => (∃ u, e = .returned (.tuple #[u, .bool true]) ∧ RoundIn (fun b => w.heap.size ≤ b) w' u r) ∧ Below w.heap.size w w') [] (settle .returning) (((w1.setCell ⟨w.heap.size, 0, none⟩ (.slice ua r.length ucap)).setCell ⟨w.heap.size, 0, none⟩ (.slice ua r.length ucap)).setCell ⟨w.heap.size + 1, 0, none⟩ (.bool true)) := by
  have d0 : (w1.setCell ⟨w.heap.size, 0, none⟩ (.slice ua r.length ucap)).cell? ⟨w.heap.size, 0, none⟩ = some (.slice ua r.length ucap) := World.cell?_setCell_same _ _ _ c0
  have d1 : ((w1.setCell ⟨w.heap.size, 0, none⟩ (.slice ua r.length ucap)).setCell ⟨w.heap.size, 0, none⟩ (.slice ua r.length ucap)).cell? ⟨w.heap.size + 1, 0, none⟩ = some (.bool false) := by
    rw [World.cell?_setCell_other _ _ _ _ (fun h => by simp only [Addr.mk.injEq] at h; omega), World.cell?_setCell_other _ _ _ _ (fun h => by simp only [Addr.mk.injEq] at h; omega)]; exact c1
  refine ⟨.tuple #[.slice ua r.length ucap, .bool true], done_results ?_ (World.cell?_setCell_same _ _ _ d1) t0 t1, ⟨_, rfl, ?_⟩, ?_⟩
  · rw [World.cell?_setCell_other _ _ _ _ (fun h => by simp only [Addr.mk.injEq] at h; omega)]; exact World.cell?_setCell_same _ _ _ d0
  · exact (((hU.grew (grew_cellC _ _ _ _) (fun b hb e => by omega)).grew (grew_cellC _ _ _ _) (fun b hb e => by omega)).grew (grew_cellC _ _ _ _) (fun b hb e => by omega)).mono fun b _ hb => by omega
  · exact ((hB.setCell (p := ⟨w.heap.size, 0, none⟩) (Nat.le_refl _) _).setCell (p := ⟨w.heap.size, 0, none⟩) (Nat.le_refl _) _).setCell (p := ⟨w.heap.size + 1, 0, none⟩) (by simp) _

set_option maxRecDepth 100000 in
set_option maxHeartbeats 1000000 in
theorem read_someN {l : List Int} {r : List (List Op5)} {v : Value} {w : World} (h : BytesAt w v l) (hb : AllB l) (e : readAll l = some r) :
    Calls Tryd.prog 47 #[v] w fun e w' => (∃ u, e = .returned (.tuple #[u, .bool true]) ∧ RoundIn (fun b => w.heap.size ≤ b) w' u r) ∧ Below w.heap.size w w' := by
  have hmf : ∀ (fn : Fn) (first cap : Array Value) (w : World), (Instr.makeFunc fn first cap).run Tryd.prog w = .ok (.func fn first cap) w := fun _ _ _ _ => rfl
  have h' := h.inside
  obtain ⟨a, cap, rfl, -⟩ := h
  have hbeg := beg_new hb h'
  go_enter_defers Tryd.func47, Tryd.ntmps47
  go_wp2_with fail
  generalize ((w.alloc (.cells #[.slice none 0 0] 23)).alloc (.cells #[.bool false] 4)).alloc (.cells #[.slice a l.length cap] 122) = W at *
  obtain ⟨hR, ⟨v0, c0⟩, c1, f0, f1, hlt, hB⟩ := hbeg
  refine (round_some hR (readAll_some e)).mono ?_
  rintro e w1 ⟨⟨u, rfl, hU⟩, hR1, hG1⟩
  replace c0 := hG1.cell c0 (show ¬ w.heap.size = w.heap.size + 1 + 1 by omega)
  replace c1 := hG1.cell c1 (show ¬ w.heap.size + 1 = w.heap.size + 1 + 1 by omega)
  replace f0 := (hG1.frozen (p := ⟨w.heap.size, 0, none⟩) (by simp; omega) (show ¬ w.heap.size = w.heap.size + 1 + 1 by omega)).trans f0
  replace f1 := (hG1.frozen (p := ⟨w.heap.size + 1, 0, none⟩) (by simp; omega) (show ¬ w.heap.size + 1 = w.heap.size + 1 + 1 by omega)).trans f1
  have hB1 : Below w.heap.size w w1 := hG1.below hB hB.size (fun k hk => by omega)
  have hlt1 : w.heap.size + 1 + 1 < w1.heap.size := Nat.lt_of_lt_of_le hlt hG1.size
  have hU0 := hU
  obtain ⟨ua, ucap, rfl, -⟩ := hU
  clear hR hG1
  go_wp2_with fail
  refine (end_none (hR1.other (Nat.le_refl _) (by omega) 0 _)).mono ?_
  rintro e w2 ⟨rfl, rfl⟩
  go_wp2_with fail
  refine leaves_cons (f := 67) (args := #[.pointer (some ⟨w.heap.size, 0, none⟩), .pointer (some ⟨w.heap.size + 1, 0, none⟩)]) (by simp) (by simp [go_sem]) ?_
  refine (catch_idle ⟨w.heap.size, 0, none⟩ ⟨w.heap.size + 1, 0, none⟩ _).mono ?_
  rintro e u' w'' ⟨rfl, rfl, rfl⟩
  exact done_okN c0 c1 hlt hU0 hB1 rfl rfl

set_option maxRecDepth 100000 in
set_option maxHeartbeats 1000000 in
theorem dec_goodN {l : List Int} {x y : Int} {v : Value} {w : World} {r : List (List Op5)} {n : Int} (h : BytesAt w v (x :: y :: l)) (hb : AllB (x :: y :: l)) (hm : l.length ≤ 140737488355328) (hL : Lim w) (hdec : decF (x :: y :: l) = (r, n, 0)) :
    Calls Tryd.prog 16 #[v] w fun e w' => (∃ u, e = .returned (.tuple #[u, .int .i64 n, .int .i64 0]) ∧ RoundIn (fun b => w.heap.size ≤ b) w' u r) ∧ Below w.heap.size w w' := by
  have H := h
  obtain ⟨a, cap, rfl, hc, hcell⟩ := h
  obtain ⟨b, off, -, rfl, c0⟩ := hcell 0 (by simp)
  obtain ⟨b', off', -, e, c1⟩ := hcell 1 (by simp)
  cases e
  simp only [List.length_cons, List.getElem_cons_zero, List.getElem_cons_succ, Nat.add_zero] at c0 c1 hc H
  clear hcell
  have hx := int_byte hb.head
  have hy := int_byte hb.tail.head
  have hs := shl_byte hb.tail.head
  have bx := hb.head
  have bY := hb.tail.head
  unfold IsB at bx bY
  have hs : x + 256 * y = x + y * 256 := by omega
  have hd : decF (x :: y :: l) = if (l.length : Int) < x + 256 * y then ([], 0, 6) else match readAll (l.take (x + 256 * y).toNat) with | none => ([], 0, 3) | some r => if roundF r ≠ 0 then ([], 0, roundF r) else (r, 2 + x + 256 * y, 0) := rfl
  rw [hs, show 2 + x + 256 * y = 2 + x + y * 256 by omega] at hd
  rw [hdec] at hd
  have hlt : ¬ (l.length : Int) < x + y * 256 := fun h => by rw [if_pos h] at hd; simp at hd
  rw [if_neg hlt] at hd
  have ht : ¬ ((l.length : Int) + 1 + 1 < 2 + x + y * 256) := by omega
  obtain ⟨sv, hsv, hB⟩ := cut_lh (P := fun _ => True) (W := w) (l := x :: y :: l) H (m := 2) (n := 2 + x + y * 256) (by omega) (by omega) (by simp only [List.length_cons]; omega)
  have hsv' : ∀ w, (Instr.slice 26 (.slice (some ⟨b, off, none⟩) (l.length + 1 + 1) cap) (some (.int .i64 2)) (some (.int .i64 (2 + x + y * 256))) none).run Tryd.prog w = .ok sv w := hsv
  have hE : (((x :: y :: l).take (2 + x + y * 256).toNat).drop (2 : Int).toNat) = l.take (x + y * 256).toNat := by
    rw [show (2 + x + y * 256).toNat = (x + y * 256).toNat + 2 by omega]; rfl
  rw [hE] at hB
  clear hE hsv hs H hlt hdec
  have hAll : AllB (l.take (x + y * 256).toNat) := hb.tail.tail.take _
  generalize l.take (x + y * 256).toNat = m at *
  obtain ⟨hr, hz, hn⟩ : readAll m = some r ∧ roundF r = 0 ∧ n = 2 + x + y * 256 := by
    cases hr : readAll m with
    | none => rw [hr] at hd; simp at hd
    | some r' =>
      rw [hr] at hd
      by_cases hz : roundF r' = 0
      · have hd' : (r, n, (0 : Int)) = (r', 2 + x + y * 256, 0) := hd.trans (if_neg (by simp [hz]))
        simp only [Prod.mk.injEq, and_true] at hd'
        exact ⟨by rw [hd'.1], by rw [hd'.1]; exact hz, hd'.2⟩
      · have hd' : (r, n, (0 : Int)) = ([], 0, roundF r') := hd.trans (if_pos hz)
        simp only [Prod.mk.injEq] at hd'
        exact absurd hd'.2.2.symm hz
  subst hn
  have hread := read_someN (w := w.drew) hB hAll hr
  have hfit := readAll_fits hAll hr
  have hF : Fits r := ⟨by omega, fun i hi => by have := hfit.2 _ (List.getElem_mem hi); omega⟩
  have HZ : Hid (roundF r = 0) := hz
  clear hd hB hr hfit hz
  go_enter Tryd.func16, Tryd.ntmps16
  go_wp2_with fail
  go_region
  go_wp2_with fail
  refine hread.mono ?_
  rintro e w1 ⟨⟨u, rfl, hU⟩, hb1⟩
  have hB1 : Below w.heap.size w w1 := (Below.refl _ _).drew.trans hb1
  have hU1 : RoundIn (fun b => w.heap.size ≤ b) w1 u r := hU
  clear hread hb1 hU
  have hra := round_any u r w1 hU1.at hF (hL.later hB1)
  rw [HZ.out] at hra
  go_wp2_with fail
  refine hra.mono ?_
  rintro e w2 ⟨rfl, hb2⟩
  have hU2 := hU1.later hb2
  have hB2 : Below w.heap.size w w2 := hB1.trans (hb2.mono hB1.size)
  clear hU1 hB1 hb2 hra
  go_wp2_with fail
  refine bodyPost_ret (results_tmp3 rfl _ _ _) rfl ?_
  exact ⟨⟨_, rfl, hU2⟩, hB2⟩

theorem dec_goodA {l : List Int} {v : Value} {w : World} {r : List (List Op5)} {n : Int} (h : BytesAt w v l) (hb : AllB l) (hm : l.length ≤ 140737488355328) (hL : Lim w) (hd : decF l = (r, n, 0)) :
    Calls Tryd.prog 16 #[v] w fun e w' => (∃ u, e = .returned (.tuple #[u, .int .i64 n, .int .i64 0]) ∧ RoundIn (fun b => w.heap.size ≤ b) w' u r) ∧ Below w.heap.size w w' := by
  match l, h, hb, hm, hd with
  | [], _, _, _, hd => simp [decF] at hd
  | [_], _, _, _, hd => simp [decF] at hd
  | x :: y :: l, h, hb, hm, hd => exact dec_goodN h hb (by simp at hm; omega) hL hd

section
variable {P : Nat → Prop} {w : World} {C : Nat} {l : List (List (List Op5))} {k : Nat}
set_option maxRecDepth 100000 in
set_option maxHeartbeats 1000000 in
theorem logRound_in (h : LogAt P w C l k) {m : Nat} (hm : m < l.length) (hL : Lim w) : Calls Tryd.prog 24 #[.pointer (some ⟨C, 0, none⟩), .int .i64 (m : Int)] w fun e w' => (∃ u, e = .returned (.tuple #[u, .bool true]) ∧ RoundIn (fun b => w.heap.size ≤ b) w' u l[m]) ∧ Below w.heap.size w w' := by
  have hlen := logLen_any h
  have ho := h.ok
  have hup := fun (w' : World) (hb : Below w.heap.size w w') => logUpTo_any (h.later hb) (n := m) (by omega)
  obtain ⟨-, va, ve, h⟩ := h
  have hs := ho.short
  have hB := h.bytes
  obtain ⟨aa, acap, rfl, -⟩ := owns_slice h.ra
  have c0 := h.c0
  have he := endB_le (l := l) (i := m) (by omega)
  obtain ⟨sv, hsv, hS⟩ := cut_l (W := w) hB.at (m := (endB l m : Int)) (by omega) (by omega)
  rw [Int.toNat_natCast, allB_drop] at hS
  have hD : Hid (decF (allB (l.drop m)) = (l[m], ((encB l[m]).length : Int), 0)) := by
    show _ = _
    rw [allB_at hm]; exact (ho.good _ (List.getElem_mem hm)).dec _
  have hA : AllB (allB (l.drop m)) := allB_all fun r hr => ho.good r (List.mem_of_mem_drop hr)
  have hdl : (allB (l.drop m)).length ≤ 4000 := by rw [← allB_drop, List.length_drop]; omega
  have HS : Hid (BytesAt w sv (allB (l.drop m))) := hS
  have t1 : ¬ ((m : Int) < 0) := by omega
  have t2 : ¬ ((l.length : Int) ≤ (m : Int)) := by omega
  have c0d : w.drew.cell? ⟨C, 0, none⟩ = some (.slice aa (allB l).length acap) := c0
  have hupd := hup _ (Below.refl _ _).drew
  clear h hB hS hup
  generalize allB (l.drop m) = Z at *
  generalize endB l m = E at *
  generalize (allB l).length = A at *
  go_enter Tryd.func24, Tryd.ntmps24
  go_wp2_with fail
  refine hlen.mono ?_
  rintro e w1 ⟨rfl, rfl⟩
  go_wp2_with fail
  have hdec := dec_goodA (HS.out.later (Below.refl _ _).drew) hA (by omega) (hL.later (Below.refl _ _).drew) hD.out
  clear hlen HS hL hD hA t1 t2 ho
  go_region_with (first | (go_at_call 54; refine hupd.mono ?_; rintro e w2 ⟨rfl, rfl⟩) | (go_at_call 16; refine hdec.mono ?_; rintro e w3 ⟨⟨y, rfl, hY⟩, hb3⟩))
  all_goals go_wp2_with fail
  all_goals refine bodyPost_ret (results_tmp2 rfl _ _ _) rfl ?_
  all_goals exact ⟨⟨_, rfl, hY⟩, (Below.refl _ _).drew.trans hb3⟩
end
end Go.Proofs.YtihfjmdjjeciiacDoor
