/-
  The walks of the reference's SameDeed and SameRound. The walk of the reference's SameBytes; append of bytes that may be none.
-/
import Derived.Test.YtihfjmdjjeciiacDoorJqWa
import Derived.ChangeKeysEq
import Derived.Deep.QuietTactic
import Derived.BigQuiet
import Derived.Deep.RegionWith
import Derived.Test.YtihfjmdjjeciiacDoorJqRb
namespace Go.Proofs.YtihfjmdjjeciiacDoor
open Go.RowKit

def eqOp (o p : Op5) : Bool := o.k == p.k && (o.a == p.a && (o.b == p.b && (o.c == p.c && o.n == p.n)))
def eqDeed : List Op5 → List Op5 → Bool
  | [], [] => true
  | o :: d, p :: e => eqOp o p && eqDeed d e
  | _, _ => false
def eqRound : List (List Op5) → List (List Op5) → Bool
  | [], [] => true
  | o :: d, p :: e => eqDeed o p && eqRound d e
  | _, _ => false
theorem eqOp_iff {o p : Op5} : eqOp o p = true ↔ o = p := by
  obtain ⟨k, a, b, c, n⟩ := o
  obtain ⟨k', a', b', c', n'⟩ := p
  simp [eqOp]
theorem eqDeed_iff {d e : List Op5} : eqDeed d e = true ↔ d = e := by
  induction d generalizing e with
  | nil => cases e <;> simp [eqDeed]
  | cons o d ih => cases e with
    | nil => simp [eqDeed]
    | cons p e => simp [eqDeed, eqOp_iff, ih]
theorem eqRound_iff {d e : List (List Op5)} : eqRound d e = true ↔ d = e := by
  induction d generalizing e with
  | nil => cases e <;> simp [eqRound]
  | cons o d ih => cases e with
    | nil => simp [eqRound]
    | cons p e => simp [eqRound, eqDeed_iff, ih]
theorem eqDeed_of {d e : List Op5} (h : d ≠ e) : eqDeed d e = false := by
  cases h' : eqDeed d e with
  | false => rfl
  | true => exact absurd (eqDeed_iff.1 h') h
theorem eqRound_of {d e : List (List Op5)} (h : d ≠ e) : eqRound d e = false := by
  cases h' : eqRound d e with
  | false => rfl
  | true => exact absurd (eqRound_iff.1 h') h

set_option maxRecDepth 100000 in
set_option maxHeartbeats 400000 in
theorem neq_same (o : Op5) (w : World) : (binOp .neq 63 (.agg #[.int .i64 o.k, .int .i64 o.a, .int .i64 o.b, .int .i64 o.c, .int .i64 o.n]) (.agg #[.int .i64 o.k, .int .i64 o.a, .int .i64 o.b, .int .i64 o.c, .int .i64 o.n])).run Tryd.prog w = .ok (.bool false) w := by
  go_simp
set_option maxRecDepth 100000 in
set_option maxHeartbeats 400000 in
theorem neq_other (o p : Op5) (h : o ≠ p) (w : World) : (binOp .neq 63 (.agg #[.int .i64 o.k, .int .i64 o.a, .int .i64 o.b, .int .i64 o.c, .int .i64 o.n]) (.agg #[.int .i64 p.k, .int .i64 p.a, .int .i64 p.b, .int .i64 p.c, .int .i64 p.n])).run Tryd.prog w = .ok (.bool true) w := by
  obtain ⟨k, a, b, c, n⟩ := o
  obtain ⟨k', a', b', c', n'⟩ := p
  dsimp only
  by_cases e0 : k = k'
  · subst e0
    by_cases e1 : a = a'
    · subst e1
      by_cases e2 : b = b'
      · subst e2
        by_cases e3 : c = c'
        · subst e3
          have e4 : n ≠ n' := fun e => h (by rw [e])
          go_simp
        · go_simp
      · go_simp
    · go_simp
  · go_simp

theorem ret_b {a b : Bool} (h : a = b) : Ending.returned (.bool a) = .returned (.bool b) := by rw [h]

set_option maxRecDepth 100000 in
set_option maxHeartbeats 1000000 in
theorem sameDeed_any {v u : Value} {d e : List Op5} {w : World} (hd : DeedAt w v d) (he : DeedAt w u e) (hm : d.length ≤ 9223372036854775807) (hn : e.length ≤ 9223372036854775807) :
    Calls Tryd.prog 48 #[v, u] w fun x w' => x = .returned (.bool (eqDeed d e)) ∧ Below w.heap.size w w' := by
  obtain ⟨a, cap, rfl, hd⟩ := hd
  obtain ⟨b, cap', rfl, he⟩ := he
  by_cases hl : d.length = e.length
  · have hl' : Hid (d.length = e.length) := hl
    clear hl
    have t0 : ((d.length : Int) != (e.length : Int)) = false := by have := hl'.out; simp; omega
    go_enter Tryd.func48, Tryd.ntmps48
    go_wp2_with fail
    go_loopg [5] d.length (fun g i wr => ∃ j : Nat, j ≤ d.length ∧ g = d.length - j ∧ i = .int .i64 (j : Int) ∧ Hid (d.take j = e.take j) ∧ Below w.heap.size w wr)
    case atStart => exact ⟨0, by omega, by omega, rfl, rfl, Below.refl _ _⟩
    case round =>
      obtain ⟨j, hj, hg, rfl, hT, hB⟩ := hrel
      by_cases hlt : j < d.length
      · have hltE : j < e.length := by have := hl'.out; omega
        obtain ⟨db, doff, rfl, c0, c1, c2, c3, c4⟩ := hd j hlt
        obtain ⟨eb, eoff, rfl, g0, g1, g2, g3, g4⟩ := he j hltE
        replace c0 := cell_later hB c0
        replace c1 := cell_later hB c1
        replace c2 := cell_later hB c2
        replace c3 := cell_later hB c3
        replace c4 := cell_later hB c4
        replace g0 := cell_later hB g0
        replace g1 := cell_later hB g1
        replace g2 := cell_later hB g2
        replace g3 := cell_later hB g3
        replace g4 := cell_later hB g4
        clear hd he
        by_cases ho : d[j] = e[j]
        · have hT' : Hid (d.take (j + 1) = e.take (j + 1)) := by
            show _ = _
            rw [List.take_succ_eq_append_getElem hlt, List.take_succ_eq_append_getElem hltE, hT.out, ho]
          have hneq := neq_same e[j]
          rw [ho] at c0 c1 c2 c3 c4
          clear hT ho
          go_wp2_with fail
          go_region
          go_wp2_with fail
          go_roundg (d.length - (j + 1))
          case measure => omega
          case rel => exact ⟨j + 1, by omega, rfl, by go_num, hT', hB.drew⟩
        · have hne : Hid (eqDeed d e = false) := eqDeed_of (fun h => ho (by subst h; rfl))
          have hneq := neq_other d[j] e[j] ho
          clear hT ho
          go_wp2_with fail
          go_region
          go_wp2_with fail
          go_ret
          exact ⟨ret_b hne.out.symm, hB.drew⟩
      · obtain rfl : j = d.length := by omega
        have hne : Hid (eqDeed d e = true) := eqDeed_iff.2 (by
          have := hT.out
          rw [List.take_length, hl'.out, List.take_length] at this; exact this)
        clear hd he
        go_wp2_with fail
        go_ret
        exact ⟨ret_b hne.out.symm, hB⟩
  · have hne : Hid (eqDeed d e = false) := eqDeed_of (fun h => hl (by rw [h]))
    have t0 : ((d.length : Int) != (e.length : Int)) = true := by simp; omega
    go_enter Tryd.func48, Tryd.ntmps48
    go_wp2_with fail
    go_ret
    exact ⟨ret_b hne.out.symm, Below.refl _ _⟩

set_option maxRecDepth 100000 in
set_option maxHeartbeats 1000000 in
theorem sameRound_any {v u : Value} {d e : List (List Op5)} {w : World} (hd : RoundAt w v d) (he : RoundAt w u e) (hm : Fits d) (hn : Fits e) :
    Calls Tryd.prog 17 #[v, u] w fun x w' => x = .returned (.bool (eqRound d e)) ∧ Below w.heap.size w w' := by
  obtain ⟨a, cap, rfl, hd⟩ := hd
  obtain ⟨b, cap', rfl, he⟩ := he
  have hm1 := hm.1
  have hn1 := hn.1
  by_cases hl : d.length = e.length
  · have hl' : Hid (d.length = e.length) := hl
    clear hl
    have t0 : ((d.length : Int) != (e.length : Int)) = false := by have := hl'.out; simp; omega
    go_enter Tryd.func17, Tryd.ntmps17
    go_wp2_with fail
    go_loopg [5] d.length (fun g i wr => ∃ j : Nat, j ≤ d.length ∧ g = d.length - j ∧ i = .int .i64 (j : Int) ∧ Hid (d.take j = e.take j) ∧ Below w.heap.size w wr)
    case atStart => exact ⟨0, by omega, by omega, rfl, rfl, Below.refl _ _⟩
    case round =>
      obtain ⟨j, hj, hg, rfl, hT, hB⟩ := hrel
      by_cases hlt : j < d.length
      · have hltE : j < e.length := by have := hl'.out; omega
        obtain ⟨db, doff, rfl, dv, c0, hD⟩ := hd j hlt
        obtain ⟨eb, eoff, rfl, ev, g0, hE⟩ := he j hltE
        replace c0 := cell_later hB c0
        replace g0 := cell_later hB g0
        replace hD := hD.later hB
        replace hE := hE.later hB
        have HS : Hid (∀ W, Below wr.heap.size wr W → Calls Tryd.prog 48 #[dv, ev] W fun x w' => x = .returned (.bool (eqDeed d[j] e[j])) ∧ Below W.heap.size W w') := fun W hW => sameDeed_any (hD.later hW) (hE.later hW) (hm.2 j hlt) (hn.2 j hltE)
        obtain ⟨da, dcap, rfl, -⟩ := hD
        obtain ⟨ea, ecap, rfl, -⟩ := hE
        clear hd he hm hn
        by_cases ho : d[j] = e[j]
        · have hT' : Hid (d.take (j + 1) = e.take (j + 1)) := by
            show _ = _
            rw [List.take_succ_eq_append_getElem hlt, List.take_succ_eq_append_getElem hltE, hT.out, ho]
          rw [eqDeed_iff.2 ho] at HS
          clear hT ho
          go_wp2_with fail
          go_region_with (go_at_call 48; refine (HS.out _ (by first | exact (Below.refl _ _).drew | exact Below.refl _ _)).mono ?_; rintro x w2 ⟨rfl, hb2⟩)
          all_goals (have hB2 : Below w.heap.size w w2 := hB.drew.trans (hb2.mono hB.size))
          all_goals clear hb2
          all_goals go_wp2_with fail
          all_goals go_roundg (d.length - (j + 1))
          all_goals first | omega | exact ⟨j + 1, by omega, rfl, by go_num, hT', hB2⟩
        · have hne : Hid (eqRound d e = false) := eqRound_of (fun h => ho (by subst h; rfl))
          rw [eqDeed_of ho] at HS
          clear hT ho
          go_wp2_with fail
          go_region_with (go_at_call 48; refine (HS.out _ (by first | exact (Below.refl _ _).drew | exact Below.refl _ _)).mono ?_; rintro x w2 ⟨rfl, hb2⟩)
          all_goals (have hB2 : Below w.heap.size w w2 := hB.drew.trans (hb2.mono hB.size))
          all_goals clear hb2
          all_goals go_wp2_with fail
          all_goals go_ret
          all_goals exact ⟨ret_b hne.out.symm, hB2⟩
      · obtain rfl : j = d.length := by omega
        have hne : Hid (eqRound d e = true) := eqRound_iff.2 (by
          have := hT.out
          rw [List.take_length, hl'.out, List.take_length] at this; exact this)
        clear hd he
        go_wp2_with fail
        go_ret
        exact ⟨ret_b hne.out.symm, hB⟩
  · have hne : Hid (eqRound d e = false) := eqRound_of (fun h => hl (by rw [h]))
    have t0 : ((d.length : Int) != (e.length : Int)) = true := by simp; omega
    go_enter Tryd.func17, Tryd.ntmps17
    go_wp2_with fail
    go_ret
    exact ⟨ret_b hne.out.symm, Below.refl _ _⟩
end Go.Proofs.YtihfjmdjjeciiacDoor
namespace Go.Proofs.YtihfjmdjjeciiacDoor
open Go.RowKit

set_option maxRecDepth 100000 in
set_option maxHeartbeats 1000000 in
theorem sameBytes_any {v u : Value} {l m : List Int} {w : World} (hv : BytesAt w v l) (hu : BytesAt w u m) (hl : AllB l) (hm : AllB m) :
    Calls Tryd.prog 26 #[v, u] w fun e w' => e = .returned (.bool (decide (l = m))) ∧ w' = w := by
  have HE : Hid (((strOfNums l).toList == (strOfNums m).toList) = decide (l = m)) := strOf_eq hl hm
  obtain ⟨a, cap, rfl, -⟩ := id hv
  obtain ⟨b, cap', rfl, -⟩ := id hu
  have h1 := BytesAt.str hv
  have h2 := BytesAt.str hu
  clear hv hu
  generalize strOfNums l = S at *
  generalize strOfNums m = T at *
  go_enter Tryd.func26, Tryd.ntmps26
  go_wp2_with fail
  go_ret
  exact ⟨ret_b HE.out, rfl⟩

theorem ne_zero_t {x : Int} (h : x ≠ 0) : (x != 0) = true := by simp [h]
theorem enc_nonempty' (r : List (List Op5)) : 0 < (encB r).length := by rw [encB_length]; omega

/-- append of no bytes. -/
theorem run_append_none (w : World) (ty : TypeId) (g n cap c : Nat) (hn : n ≤ cap) (da : Option Addr) : (Builtin.append_ #[26, 26] ty #[.slice (some ⟨g, 0, none⟩) n cap, .slice da 0 c]).run Tryd.prog w = .ok (.slice (some ⟨g, 0, none⟩) n cap) w := by
  obtain ⟨i, hi, -, hs, -⟩ := info_parts infoU8
  have hl : ∀ (x : Addr), (loadCells x 0).run Tryd.prog w = .ok #[] w := fun x => by simpa using run_loadCells_list (P := Tryd.prog) w x [] (by simp)
  cases da <;> simp [Builtin.append_, run_underlying Tryd.underlying26, Builtin.lenOf, Builtin.firstCells, sizeOf, typeInfo, hi, hl, hn, storeCells]
theorem wpList_append_none {w : World} {ops : Array Oper} {rest : List Oper} {o : Oper} {a : Act} {Q : Exit → Act → World → Prop} (hgd : o.guard = none) (x y : Operand)
    (ho : o.op = .call { callee := .builtin .append, args := #[x, y], argTypes := #[26, 26] }) (base n : Nat) (v : Value) (xs : List Value) (hx : a.eval x = v) (hown : w.ownsRow base 5 1 v n xs) (h0 : 0 < n) (da : Option Addr) (c : Nat) (hy : a.eval y = .slice da 0 c)
    (h : wpList Tryd.prog ops Q rest (a.put o.dst v) w) : wpList Tryd.prog ops Q (o :: rest) a w := by
  refine wpList_plain hgd fun K hK => ?_
  rcases hown.2 with ⟨-, e⟩ | ⟨g, cap, cur, rfl, -, -, hnc, -⟩
  · omega
  · have hrun := run_append_none w o.type g n cap c hnc da
    unfold Oper.wp
    simp [execOp, ho, resolve, invoke, builtin, hx, hy, hrun, Result.andThen]
    exact hK _ _ h

/-- append of some bytes, or of none, onto a row of the call's own. -/
theorem wpList_append_bytes {w : World} {ops : Array Oper} {rest : List Oper} {o : Oper} {a : Act} {Q : Exit → Act → World → Prop} (hgd : o.guard = none) (x y : Operand)
    (ho : o.op = .call { callee := .builtin .append, args := #[x, y], argTypes := #[26, 26] }) (base : Nat) (v : Value) (L : List Int) (hx : a.eval x = v) (hown : w.ownsRow base 5 1 v L.length (byteCells L)) (h0 : 0 < L.length)
    (l : List Int) (hy : BytesAt w (a.eval y) l) (hlen : L.length + l.length ≤ 100000) (hbase : base ≤ w.heap.size)
    (h : ∀ v' w', w'.ownsRow base 5 1 v' (L ++ l).length (byteCells (L ++ l)) → Below base w w' → wpList Tryd.prog ops Q rest (a.put o.dst v') w') : wpList Tryd.prog ops Q (o :: rest) a w := by
  obtain ⟨i0, hi, hz0, hz1, hz2⟩ := info_parts infoU8
  by_cases hl : 0 < l.length
  · obtain ⟨ya, ycap, ey, -⟩ := id hy
    rw [ey] at hy
    obtain ⟨b, off, rfl, hc⟩ := BytesIn.cells hy hl
    refine wpList_append_own w hgd x y 26 ho base 5 i0 (.int .u8 0) 1 1 Tryd.underlying26 hi hz0 hz1 hz2 rfl (by decide) v _ _ hx hown ⟨b, off, none⟩ l.length ycap (byteCells l) ey (by rw [byteCells_length]; omega) hc (byteCells_one _) (by unfold maxLen; omega) (by omega) hbase ?_
    intro v' w' h1 h2 h3
    refine h v' w' ?_ ((Below.refl _ _).grown h2 hbase (fun k hk => (hown.lt k hk).1))
    rw [byteCells_append, List.length_append]; exact h1
  · obtain rfl : l = [] := List.eq_nil_of_length_eq_zero (by omega)
    obtain ⟨ya, ycap, ey, -⟩ := hy
    refine wpList_append_none hgd x y ho base _ v _ hx hown h0 ya ycap ey (h v w ?_ (Below.refl _ _))
    rw [List.append_nil]; exact hown

/-- The law's second half: what some bytes begin with. -/
theorem back_good {b : List Int} (hb : AllB b) (h : (decF b).2.2 = 0) : ∃ r l, decF b = (r, ((encB r).length : Int), 0) ∧ roundF r = 0 ∧ b = encB r ++ l := by
  obtain ⟨h1, h2, l, h3⟩ := enc_dec hb h
  exact ⟨(decF b).1, l, by rw [← h2, ← h], h1, h3⟩
theorem roundF_fits {r : List (List Op5)} (h : roundF r = 0) : Fits r := by
  obtain ⟨h1, h2⟩ := roundF_zero.1 h
  exact ⟨by omega, fun i hi => by have := checkF_len (h2 _ (List.getElem_mem hi)); omega⟩

end Go.Proofs.YtihfjmdjjeciiacDoor
