/-
  The walks of the reference's SameDeed and SameRound.
-/
import Derived.Test.YtdohockbmphhfacDoorWalkB
import Derived.Test.YtdohockbmphhfacDoorWalkC
import Derived.ChangeKeysEq
import Derived.Deep.QuietTactic
import Derived.BigQuiet
import Derived.Deep.RegionWith
namespace Go.Proofs.YtdohockbmphhfacDoor
open Go.RowKit

def eqOp (o p : Op5) : Bool := o.k == p.k && (o.a == p.a && (o.b == p.b && (o.c == p.c && o.n == p.n)))
def eqDeed : List Op5 → List Op5 → Bool
  | [], [] => true
  | o :: d, p :: e => eqOp o p && eqDeed d e
  | _, _ => false
def eqRound : List (List Op5) → List (List Op5) → Bool
  | [], [] => true
  | o :: d, p :: e => eqDeed o p && eqRound d e
  | _, _ => false
theorem eqOp_iff {o p : Op5} : eqOp o p = true ↔ o = p := by
  obtain ⟨k, a, b, c, n⟩ := o
  obtain ⟨k', a', b', c', n'⟩ := p
  simp [eqOp]
theorem eqDeed_iff {d e : List Op5} : eqDeed d e = true ↔ d = e := by
  induction d generalizing e with
  | nil => cases e <;> simp [eqDeed]
  | cons o d ih => cases e with
    | nil => simp [eqDeed]
    | cons p e => simp [eqDeed, eqOp_iff, ih]
theorem eqRound_iff {d e : List (List Op5)} : eqRound d e = true ↔ d = e := by
  induction d generalizing e with
  | nil => cases e <;> simp [eqRound]
  | cons o d ih => cases e with
    | nil => simp [eqRound]
    | cons p e => simp [eqRound, eqDeed_iff, ih]
theorem eqDeed_of {d e : List Op5} (h : d ≠ e) : eqDeed d e = false := by
  cases h' : eqDeed d e with
  | false => rfl
  | true => exact absurd (eqDeed_iff.1 h') h
theorem eqRound_of {d e : List (List Op5)} (h : d ≠ e) : eqRound d e = false := by
  cases h' : eqRound d e with
  | false => rfl
  | true => exact absurd (eqRound_iff.1 h') h

set_option maxRecDepth 100000 in
set_option maxHeartbeats 400000 in
theorem neq_same (o : Op5) (w : World) : (binOp .neq 63 (.agg #[.int .i64 o.k, .int .i64 o.a, .int .i64 o.b, .int .i64 o.c, .int .i64 o.n]) (.agg #[.int .i64 o.k, .int .i64 o.a, .int .i64 o.b, .int .i64 o.c, .int .i64 o.n])).run Tryd.prog w = .ok (.bool false) w := by
  go_simp
set_option maxRecDepth 100000 in
set_option maxHeartbeats 400000 in
theorem neq_other (o p : Op5) (h : o ≠ p) (w : World) : (binOp .neq 63 (.agg #[.int .i64 o.k, .int .i64 o.a, .int .i64 o.b, .int .i64 o.c, .int .i64 o.n]) (.agg #[.int .i64 p.k, .int .i64 p.a, .int .i64 p.b, .int .i64 p.c, .int .i64 p.n])).run Tryd.prog w = .ok (.bool true) w := by
  obtain ⟨k, a, b, c, n⟩ := o
  obtain ⟨k', a', b', c', n'⟩ := p
  dsimp only
  by_cases e0 : k = k'
  · subst e0
    by_cases e1 : a = a'
    · subst e1
      by_cases e2 : b = b'
      · subst e2
        by_cases e3 : c = c'
        · subst e3
          have e4 : n ≠ n' := fun e => h (by rw [e])
          go_simp
        · go_simp
      · go_simp
    · go_simp
  · go_simp

theorem ret_b {a b : Bool} (h : a = b) : Ending.returned (.bool a) = .returned (.bool b) := by rw [h]

set_option maxRecDepth 100000 in
set_option maxHeartbeats 1000000 in
theorem sameDeed_any {v u : Value} {d e : List Op5} {w : World} (hd : DeedAt w v d) (he : DeedAt w u e) (hm : d.length ≤ 9223372036854775807) (hn : e.length ≤ 9223372036854775807) :
    Calls Tryd.prog 52 #[v, u] w fun x w' => x = .returned (.bool (eqDeed d e)) ∧ Below w.heap.size w w' := by
  obtain ⟨a, cap, rfl, hd⟩ := hd
  obtain ⟨b, cap', rfl, he⟩ := he
  by_cases hl : d.length = e.length
  · have hl' : Hid (d.length = e.length) := hl
    clear hl
    have t0 : ((d.length : Int) != (e.length : Int)) = false := by have := hl'.out; simp; omega
    go_enter Tryd.func52, Tryd.ntmps52
    go_wp2_with fail
    go_loopg [5] d.length (fun g i wr => ∃ j : Nat, j ≤ d.length ∧ g = d.length - j ∧ i = .int .i64 (j : Int) ∧ Hid (d.take j = e.take j) ∧ Below w.heap.size w wr)
    case atStart => exact ⟨0, by omega, by omega, rfl, rfl, Below.refl _ _⟩
    case round =>
      obtain ⟨j, hj, hg, rfl, hT, hB⟩ := hrel
      by_cases hlt : j < d.length
      · have hltE : j < e.length := by have := hl'.out; omega
        obtain ⟨db, doff, rfl, c0, c1, c2, c3, c4⟩ := hd j hlt
        obtain ⟨eb, eoff, rfl, g0, g1, g2, g3, g4⟩ := he j hltE
        replace c0 := cell_later hB c0
        replace c1 := cell_later hB c1
        replace c2 := cell_later hB c2
        replace c3 := cell_later hB c3
        replace c4 := cell_later hB c4
        replace g0 := cell_later hB g0
        replace g1 := cell_later hB g1
        replace g2 := cell_later hB g2
        replace g3 := cell_later hB g3
        replace g4 := cell_later hB g4
        clear hd he
        by_cases ho : d[j] = e[j]
        · have hT' : Hid (d.take (j + 1) = e.take (j + 1)) := by
            show _ = _
            rw [List.take_succ_eq_append_getElem hlt, List.take_succ_eq_append_getElem hltE, hT.out, ho]
          have hneq := neq_same e[j]
          rw [ho] at c0 c1 c2 c3 c4
          clear hT ho
          go_wp2_with fail
          go_region
          go_wp2_with fail
          go_roundg (d.length - (j + 1))
          case measure => omega
          case rel => exact ⟨j + 1, by omega, rfl, by go_num, hT', hB.drew⟩
        · have hne : Hid (eqDeed d e = false) := eqDeed_of (fun h => ho (by subst h; rfl))
          have hneq := neq_other d[j] e[j] ho
          clear hT ho
          go_wp2_with fail
          go_region
          go_wp2_with fail
          go_ret
          exact ⟨ret_b hne.out.symm, hB.drew⟩
      · obtain rfl : j = d.length := by omega
        have hne : Hid (eqDeed d e = true) := eqDeed_iff.2 (by
          have := hT.out
          rw [List.take_length, hl'.out, List.take_length] at this; exact this)
        clear hd he
        go_wp2_with fail
        go_ret
        exact ⟨ret_b hne.out.symm, hB⟩
  · have hne : Hid (eqDeed d e = false) := eqDeed_of (fun h => hl (by rw [h]))
    have t0 : ((d.length : Int) != (e.length : Int)) = true := by simp; omega
    go_enter Tryd.func52, Tryd.ntmps52
    go_wp2_with fail
    go_ret
    exact ⟨ret_b hne.out.symm, Below.refl _ _⟩

set_option maxRecDepth 100000 in
set_option maxHeartbeats 1000000 in
theorem sameRound_any {v u : Value} {d e : List (List Op5)} {w : World} (hd : RoundAt w v d) (he : RoundAt w u e) (hm : Fits d) (hn : Fits e) :
    Calls Tryd.prog 19 #[v, u] w fun x w' => x = .returned (.bool (eqRound d e)) ∧ Below w.heap.size w w' := by
  obtain ⟨a, cap, rfl, hd⟩ := hd
  obtain ⟨b, cap', rfl, he⟩ := he
  have hm1 := hm.1
  have hn1 := hn.1
  by_cases hl : d.length = e.length
  · have hl' : Hid (d.length = e.length) := hl
    clear hl
    have t0 : ((d.length : Int) != (e.length : Int)) = false := by have := hl'.out; simp; omega
    go_enter Tryd.func19, Tryd.ntmps19
    go_wp2_with fail
    go_loopg [5] d.length (fun g i wr => ∃ j : Nat, j ≤ d.length ∧ g = d.length - j ∧ i = .int .i64 (j : Int) ∧ Hid (d.take j = e.take j) ∧ Below w.heap.size w wr)
    case atStart => exact ⟨0, by omega, by omega, rfl, rfl, Below.refl _ _⟩
    case round =>
      obtain ⟨j, hj, hg, rfl, hT, hB⟩ := hrel
      by_cases hlt : j < d.length
      · have hltE : j < e.length := by have := hl'.out; omega
        obtain ⟨db, doff, rfl, dv, c0, hD⟩ := hd j hlt
        obtain ⟨eb, eoff, rfl, ev, g0, hE⟩ := he j hltE
        replace c0 := cell_later hB c0
        replace g0 := cell_later hB g0
        replace hD := hD.later hB
        replace hE := hE.later hB
        have HS : Hid (∀ W, Below wr.heap.size wr W → Calls Tryd.prog 52 #[dv, ev] W fun x w' => x = .returned (.bool (eqDeed d[j] e[j])) ∧ Below W.heap.size W w') := fun W hW => sameDeed_any (hD.later hW) (hE.later hW) (hm.2 j hlt) (hn.2 j hltE)
        obtain ⟨da, dcap, rfl, -⟩ := hD
        obtain ⟨ea, ecap, rfl, -⟩ := hE
        clear hd he hm hn
        by_cases ho : d[j] = e[j]
        · have hT' : Hid (d.take (j + 1) = e.take (j + 1)) := by
            show _ = _
            rw [List.take_succ_eq_append_getElem hlt, List.take_succ_eq_append_getElem hltE, hT.out, ho]
          rw [eqDeed_iff.2 ho] at HS
          clear hT ho
          go_wp2_with fail
          go_region_with (go_at_call 52; refine (HS.out _ (by first | exact (Below.refl _ _).drew | exact Below.refl _ _)).mono ?_; rintro x w2 ⟨rfl, hb2⟩)
          all_goals (have hB2 : Below w.heap.size w w2 := hB.drew.trans (hb2.mono hB.size))
          all_goals clear hb2
          all_goals go_wp2_with fail
          all_goals go_roundg (d.length - (j + 1))
          all_goals first | omega | exact ⟨j + 1, by omega, rfl, by go_num, hT', hB2⟩
        · have hne : Hid (eqRound d e = false) := eqRound_of (fun h => ho (by subst h; rfl))
          rw [eqDeed_of ho] at HS
          clear hT ho
          go_wp2_with fail
          go_region_with (go_at_call 52; refine (HS.out _ (by first | exact (Below.refl _ _).drew | exact Below.refl _ _)).mono ?_; rintro x w2 ⟨rfl, hb2⟩)
          all_goals (have hB2 : Below w.heap.size w w2 := hB.drew.trans (hb2.mono hB.size))
          all_goals clear hb2
          all_goals go_wp2_with fail
          all_goals go_ret
          all_goals exact ⟨ret_b hne.out.symm, hB2⟩
      · obtain rfl : j = d.length := by omega
        have hne : Hid (eqRound d e = true) := eqRound_iff.2 (by
          have := hT.out
          rw [List.take_length, hl'.out, List.take_length] at this; exact this)
        clear hd he
        go_wp2_with fail
        go_ret
        exact ⟨ret_b hne.out.symm, hB⟩
  · have hne : Hid (eqRound d e = false) := eqRound_of (fun h => hl (by rw [h]))
    have t0 : ((d.length : Int) != (e.length : Int)) = true := by simp; omega
    go_enter Tryd.func19, Tryd.ntmps19
    go_wp2_with fail
    go_ret
    exact ⟨ret_b hne.out.symm, Below.refl _ _⟩
end Go.Proofs.YtdohockbmphhfacDoor
