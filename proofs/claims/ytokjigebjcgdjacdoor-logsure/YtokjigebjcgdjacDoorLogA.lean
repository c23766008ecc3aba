/-
  The walks of a log's small functions: New, Len, Sync, upTo, room, count, Sure.
-/
import Derived.Test.YtokjigebjcgdjacDoorMemL
import Derived.Test.YtokjigebjcgdjacDoorBegC
import Derived.Shelf.Abstract
namespace Go.Proofs.YtokjigebjcgdjacDoor
open Go.RowKit

theorem ret_bl {a b : Bool} (h : a = b) : Ending.returned (.bool a) = .returned (.bool b) := by rw [h]
theorem ret_it {a b : Int} (h : a = b) : Ending.returned (.int .i64 a) = .returned (.int .i64 b) := by rw [h]

set_option maxHeartbeats 400000 in
theorem logNew_any (w : World) : Calls Tryd.prog 15 #[] w fun e w' => e = .returned (.pointer (some ⟨w.heap.size, 0, none⟩)) ∧ LogAt (fun b => w.heap.size ≤ b) w' w.heap.size [] 0 ∧ Below w.heap.size w w' := by
  go_enter Tryd.func15, Tryd.ntmps15
  go_wp2_with fail
  go_ret
  refine ⟨rfl, ⟨LogOk.nil, .slice none 0 0, .slice none 0 0, by go_simp, by go_simp, by go_simp; rfl, fun o => by go_simp, by simpa [allB, byteCells] using World.ownsRow_nil _ _ _ _, by simpa [endsB, intCells] using World.ownsRow_nil _ _ _ _, Nat.le_refl _, fun g hg => (by cases hg), fun g hg => (by cases hg), fun g hg => (by cases hg)⟩, (Below.refl _ _).alloc (Nat.le_refl _) _⟩

section
variable {P : Nat → Prop} {w : World} {C : Nat} {l : List (List (List Op5))} {k : Nat}

theorem LogAt.endsV (h : LogAt P w C l k) : ∃ a cap, w.cell? ⟨C, 1, none⟩ = some (.slice a l.length cap) := by
  obtain ⟨-, va, ve, h⟩ := h
  obtain ⟨a, cap, rfl, -⟩ := owns_slice h.re
  have := h.c1
  rw [endsB_length] at this
  exact ⟨a, cap, this⟩

set_option maxHeartbeats 400000 in
theorem logLen_any (h : LogAt P w C l k) : Calls Tryd.prog 17 #[.pointer (some ⟨C, 0, none⟩)] w fun e w' => e = .returned (.int .i64 (l.length : Int)) ∧ w' = w := by
  obtain ⟨a, cap, c1⟩ := h.endsV
  clear h
  go_enter Tryd.func17, Tryd.ntmps17
  go_wp2_with fail
  go_ret
  exact ⟨rfl, rfl⟩

set_option maxHeartbeats 400000 in
theorem logSync_raw {a e : List Int} {s : Int} {va ve : Value} (h : LogRaw P w C a e s va ve) : Calls Tryd.prog 33 #[.pointer (some ⟨C, 0, none⟩)] w fun e' w' => e' = .returned (.tuple #[]) ∧ LogRaw P w' C a e (a.length : Int) va ve ∧ Grew P w w' := by
  obtain ⟨ad, cap, rfl, -⟩ := owns_slice h.ra
  have hL : Hid (LogRaw P (w.setCell ⟨C, 2, none⟩ (.int .i64 (a.length : Int))) C a e (a.length : Int) (.slice ad a.length cap) ve) := h.sure (a.length : Int)
  have c0 := h.c0
  have c2 := h.c2
  have fr := h.fr
  have hp := h.pC
  clear h
  go_enter Tryd.func33, Tryd.ntmps33
  go_wp2_with fail
  go_end0
  exact ⟨rfl, hL.out, grew_set w hp _ _⟩
theorem logSync_any (h : LogAt P w C l k) : Calls Tryd.prog 33 #[.pointer (some ⟨C, 0, none⟩)] w fun e w' => e = .returned (.tuple #[]) ∧ LogAt P w' C l l.length ∧ Grew P w w' := by
  obtain ⟨ho, va, ve, h⟩ := h
  refine (logSync_raw h).mono ?_
  rintro e w' ⟨rfl, h1, h2⟩
  exact ⟨rfl, ⟨ho.sync, va, ve, by rw [endB_all]; exact h1⟩, h2⟩

set_option maxHeartbeats 400000 in
theorem logUpTo_raw {a e : List Int} {s : Int} {va ve : Value} (h : LogRaw P w C a e s va ve) {n : Nat} (hn : n ≤ e.length) (hf : e.length ≤ 25) {x : Int} (h0 : n = 0 → x = 0) (h1 : ∀ m (hm : m < e.length), n = m + 1 → e[m] = x) : Calls Tryd.prog 37 #[.pointer (some ⟨C, 0, none⟩), .int .i64 (n : Int)] w fun e w' => e = .returned (.int .i64 x) ∧ w' = w := by
  cases n with
  | zero =>
    obtain rfl := h0 rfl
    clear h h1
    go_enter Tryd.func37, Tryd.ntmps37
    go_wp2_with fail
    go_ret
    exact ⟨rfl, rfl⟩
  | succ n =>
    obtain ⟨g, cap, rfl, hc⟩ := h.endAt (i := n) (by omega)
    have c1 := h.c1
    rw [h1 n (by omega) rfl] at hc
    clear h h0 h1
    have t0 : (((n + 1 : Nat) : Int) == 0) = false := by rw [beq_eq_false_iff_ne]; omega
    have e1 : (((n + 1 : Nat) : Int) - 1) = (n : Int) := by omega
    go_enter Tryd.func37, Tryd.ntmps37
    go_wp2_with fail
    go_ret
    exact ⟨rfl, rfl⟩
theorem logUpTo_any (h : LogAt P w C l k) {n : Nat} (hn : n ≤ l.length) : Calls Tryd.prog 37 #[.pointer (some ⟨C, 0, none⟩), .int .i64 (n : Int)] w fun e w' => e = .returned (.int .i64 (endB l n : Int)) ∧ w' = w := by
  obtain ⟨ho, va, ve, h⟩ := h
  have hf := ho.few
  have hlen := endsB_length l
  exact logUpTo_raw h (by omega) (by omega) (fun e => by rw [e, endB_zero]; rfl) (fun m hm e => by rw [endsB_get, e])

set_option maxHeartbeats 400000 in
theorem logRoom_any (h : LogAt P w C l k) {n : Nat} (hn : n ≤ 100000) : Calls Tryd.prog 40 #[.pointer (some ⟨C, 0, none⟩), .int .i64 (n : Int)] w fun e w' => e = .returned (.bool (roomF l n)) ∧ w' = w := by
  have hlen := logLen_any h
  have hf := h.ok.few
  have hs := h.ok.short
  obtain ⟨ho, va, ve, h⟩ := h
  obtain ⟨a, cap, rfl, -⟩ := owns_slice h.ra
  have c0 := h.c0
  have hR : Hid (roomF l n = (decide (l.length < 25) && decide ((allB l).length + n ≤ 4000))) := rfl
  clear h ho
  generalize (allB l).length = m at *
  generalize l.length = ll at *
  by_cases h1 : ll < 25
  · have t1 : ((ll : Int) < 25) := by omega
    by_cases h2 : m + n ≤ 4000
    · have t2 : ((m : Int) + (n : Int) ≤ 4000) := by omega
      have hE : Hid (true = roomF l n) := by show _ = _; rw [hR.out]; simp [h1, h2]
      clear hR
      go_enter Tryd.func40, Tryd.ntmps40
      go_wp2_with fail
      refine hlen.mono ?_
      rintro e w1 ⟨rfl, rfl⟩
      go_wp2_with fail
      go_ret
      exact ⟨ret_bl hE.out, rfl⟩
    · have t2 : ¬ ((m : Int) + (n : Int) ≤ 4000) := by omega
      have hE : Hid (false = roomF l n) := by show _ = _; rw [hR.out]; simp [h2]
      clear hR
      go_enter Tryd.func40, Tryd.ntmps40
      go_wp2_with fail
      refine hlen.mono ?_
      rintro e w1 ⟨rfl, rfl⟩
      go_wp2_with fail
      go_ret
      exact ⟨ret_bl ((decide_eq_false (by omega)).trans hE.out), rfl⟩
  · have t1 : ¬ ((ll : Int) < 25) := by omega
    have hE : Hid (false = roomF l n) := by show _ = _; rw [hR.out]; simp [h1]
    clear hR
    go_enter Tryd.func40, Tryd.ntmps40
    go_wp2_with fail
    refine hlen.mono ?_
    rintro e w1 ⟨rfl, rfl⟩
    go_wp2_with fail
    go_ret
    exact ⟨ret_bl hE.out, rfl⟩

/-- A function that tells of an end, whatever lies where. -/
def AsksL (f : Nat) (cap : Array Value) (p : Int → Bool) (w0 : World) : Prop :=
  ∀ (x : Int) (w : World), 0 ≤ x → x ≤ 4000 → Below w0.heap.size w0 w → Calls Tryd.prog f (#[.int .i64 x] ++ cap) w fun e w' => e = .returned (.bool (p x)) ∧ Below w.heap.size w w'

set_option maxRecDepth 100000 in
set_option maxHeartbeats 400000 in
theorem logCount_any {f : Nat} {cp : Array Value} {p : Int → Bool} (h : LogAt P w C l k) (hA : AsksL f cp p w) (hen : ∀ (args : Array Value) (w : World), (callFunc f args).run Tryd.prog w = .ok (.enter f args) w) : Calls Tryd.prog 35 #[.pointer (some ⟨C, 0, none⟩), .func (.func f) #[] cp] w fun e w' => e = .returned (.int .i64 (countF p (endsB l) : Int)) ∧ Below w.heap.size w w' := by
  obtain ⟨ho, va, ve, h⟩ := h
  have hf := ho.few
  have hs := ho.short
  have hlen := endsB_length l
  have HG := fun i (hi : i < (endsB l).length) => h.endAt hi
  have HE : ∀ i (hi : i < (endsB l).length), 0 ≤ (endsB l)[i] ∧ (endsB l)[i] ≤ 4000 := fun i hi => by
    rw [endsB_get]
    have := endB_le (l := l) (i := i + 1) (by omega)
    omega
  obtain ⟨a, cap, rfl, -⟩ := owns_slice h.re
  have c1 := h.c1
  rw [← hlen] at hf
  clear h ho hs hlen
  generalize endsB l = E at *
  go_enter Tryd.func35, Tryd.ntmps35
  go_wp2_with fail
  go_loopg [5, 13] E.length (fun g n i wr => ∃ j : Nat, j ≤ E.length ∧ g = E.length - j ∧ i = .int .i64 (j : Int) ∧ n = .int .i64 (countF p (E.take j) : Int) ∧ Below w.heap.size w wr)
  case atStart => exact ⟨0, by omega, by omega, rfl, rfl, Below.refl _ _⟩
  case round =>
    obtain ⟨j, hj, hg, rfl, rfl, hB⟩ := hrel
    by_cases hlt : j < E.length
    · obtain ⟨g, cap', e, hc⟩ := HG j hlt
      cases e
      obtain ⟨e0, e1⟩ := HE j hlt
      replace hc := cell_later hB hc
      have hC := countF_take (p := p) hlt
      have hle : countF p (E.take j) ≤ 25 := Nat.le_trans (countF_le _ _) (by simp; omega)
      have hasks := fun w' (hb : Below w.heap.size w w') => hA E[j] w' e0 e1 hb
      have HB : Hid (Below w.heap.size w wr) := hB
      clear HG HE hA hB
      generalize countF p (E.take j) = c0' at *
      generalize E[j] = x at *
      go_wp2_with fail
      refine (hasks _ HB.out).mono ?_
      rintro e w1 ⟨rfl, hb1⟩
      have hB1 : Below w.heap.size w w1 := HB.out.trans (hb1.mono HB.out.size)
      clear hasks hc hb1 HB
      cases hp : p x with
      | true =>
        rw [hp, if_pos rfl] at hC
        go_wp2_with fail
        go_roundg (E.length - (j + 1))
        case measure => omega
        case rel => exact ⟨j + 1, by omega, rfl, by go_num, by rw [hC]; go_num, hB1⟩
      | false =>
        rw [hp, if_neg (by simp)] at hC
        go_wp2_with fail
        go_roundg (E.length - (j + 1))
        case measure => omega
        case rel => exact ⟨j + 1, by omega, rfl, by go_num, by rw [hC, Nat.add_zero], hB1⟩
    · obtain rfl : j = E.length := by omega
      rw [List.take_length]
      clear HG HE hA
      go_wp2_with fail
      go_ret
      exact ⟨rfl, hB⟩

theorem sureAsks {B : Nat} {w0 : World} {s : Int} (hb : w0.cell? ⟨B, 0, none⟩ = some (.pointer (some ⟨C, 0, none⟩))) (hc : w0.cell? ⟨C, 2, none⟩ = some (.int .i64 s)) : AsksL 36 #[.pointer (some ⟨B, 0, none⟩)] (fun x => decide (x ≤ s)) w0 := by
  intro x w1 h0 h1 hB
  replace hb := cell_later hB hb
  replace hc := cell_later hB hc
  show Calls Tryd.prog 36 #[.int .i64 x, .pointer (some ⟨B, 0, none⟩)] w1 _
  go_enter Tryd.func36, Tryd.ntmps36
  go_wp2_with fail
  go_ret
  exact ⟨rfl, Below.refl _ _⟩

set_option maxHeartbeats 400000 in
theorem logSure_any (h : LogAt P w C l k) : Calls Tryd.prog 18 #[.pointer (some ⟨C, 0, none⟩)] w fun e w' => e = .returned (.int .i64 (k : Int)) ∧ Below w.heap.size w w' := by
  have hk := count_sure h.ok.sure
  have hb : Below w.heap.size w (w.alloc (.cells #[.pointer (some ⟨C, 0, none⟩)] 34)) := (Below.refl _ _).alloc (Nat.le_refl _) _
  have hA : AsksL 36 #[.pointer (some ⟨w.heap.size, 0, none⟩)] (fun x => decide (x ≤ (endB l k : Int))) (w.alloc (.cells #[.pointer (some ⟨C, 0, none⟩)] 34)) := by
    obtain ⟨-, va, ve, h⟩ := h
    exact sureAsks (C := C) (by go_simp) (cell_later hb h.c2)
  have hc := logCount_any (h.later hb) hA (enters_of Tryd.func36 (by kernel_rfl) rfl)
  rw [hk] at hc
  clear hA hk h
  go_enter Tryd.func18, Tryd.ntmps18
  go_wp2_with fail
  refine hc.mono ?_
  rintro e w1 ⟨rfl, hb1⟩
  go_wp2_with fail
  go_ret
  exact ⟨rfl, hb.trans (hb1.mono hb.size)⟩
end
end Go.Proofs.YtokjigebjcgdjacDoor
