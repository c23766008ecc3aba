/-
  The walks of the reference's SameDeed and SameRound. The walk of the reference's SameBytes; append of bytes that may be none.
-/
import Derived.Test.YtehkjbpgibdgpadGreatDoorJqWa
import Derived.ChangeKeysEq
import Derived.Deep.QuietTactic
import Derived.BigQuiet
import Derived.Deep.RegionWith
import Derived.Test.YtehkjbpgibdgpadGreatDoorJqRb
namespace Go.Proofs.YtehkjbpgibdgpadGreatDoor
open Go.RowKit

def eqOp (o p : Op5) : Bool := o.k == p.k && (o.a == p.a && (o.b == p.b && (o.c == p.c && o.n == p.n)))
def eqDeed : List Op5 → List Op5 → Bool
  | [], [] => true
  | o :: d, p :: e => eqOp o p && eqDeed d e
  | _, _ => false
def eqRound : List (List Op5) → List (List Op5) → Bool
  | [], [] => true
  | o :: d, p :: e => eqDeed o p && eqRound d e
  | _, _ => false
theorem eqOp_iff {o p : Op5} : eqOp o p = true ↔ o = p := by
  obtain ⟨k, a, b, c, n⟩ := o
  obtain ⟨k', a', b', c', n'⟩ := p
  simp [eqOp]
theorem eqDeed_iff {d e : List Op5} : eqDeed d e = true ↔ d = e := by
  induction d generalizing e with
  | nil => cases e <;> simp [eqDeed]
  | cons o d ih => cases e with
    | nil => simp [eqDeed]
    | cons p e => simp [eqDeed, eqOp_iff, ih]
theorem eqRound_iff {d e : List (List Op5)} : eqRound d e = true ↔ d = e := by
  induction d generalizing e with
  | nil => cases e <;> simp [eqRound]
  | cons o d ih => cases e with
    | nil => simp [eqRound]
    | cons p e => simp [eqRound, eqDeed_iff, ih]
theorem eqDeed_of {d e : List Op5} (h : d ≠ e) : eqDeed d e = false := by
  cases h' : eqDeed d e with
  | false => rfl
  | true => exact absurd (eqDeed_iff.1 h') h
theorem eqRound_of {d e : List (List Op5)} (h : d ≠ e) : eqRound d e = false := by
  cases h' : eqRound d e with
  | false => rfl
  | true => exact absurd (eqRound_iff.1 h') h

set_option maxRecDepth 100000 in
set_option maxHeartbeats 400000 in
theorem neq_same (o : Op5) (w : World) : (binOp .neq 121 (.agg #[.int .i64 o.k, .int .i64 o.a, .int .i64 o.b, .int .i64 o.c, .int .i64 o.n]) (.agg #[.int .i64 o.k, .int .i64 o.a, .int .i64 o.b, .int .i64 o.c, .int .i64 o.n])).run Tryz.prog w = .ok (.bool false) w := by
  go_simp
set_option maxRecDepth 100000 in
set_option maxHeartbeats 400000 in
theorem neq_other (o p : Op5) (h : o ≠ p) (w : World) : (binOp .neq 121 (.agg #[.int .i64 o.k, .int .i64 o.a, .int .i64 o.b, .int .i64 o.c, .int .i64 o.n]) (.agg #[.int .i64 p.k, .int .i64 p.a, .int .i64 p.b, .int .i64 p.c, .int .i64 p.n])).run Tryz.prog w = .ok (.bool true) w := by
  obtain ⟨k, a, b, c, n⟩ := o
  obtain ⟨k', a', b', c', n'⟩ := p
  dsimp only
  by_cases e0 : k = k'
  · subst e0
    by_cases e1 : a = a'
    · subst e1
      by_cases e2 : b = b'
      · subst e2
        by_cases e3 : c = c'
        · subst e3
          have e4 : n ≠ n' := fun e => h (by rw [e])
          go_simp
        · go_simp
      · go_simp
    · go_simp
  · go_simp

theorem ret_b {a b : Bool} (h : a = b) : Ending.returned (.bool a) = .returned (.bool b) := by rw [h]

end Go.Proofs.YtehkjbpgibdgpadGreatDoor
namespace Go.Proofs.YtehkjbpgibdgpadGreatDoor
open Go.RowKit


theorem ne_zero_t {x : Int} (h : x ≠ 0) : (x != 0) = true := by simp [h]
theorem enc_nonempty' (r : List (List Op5)) : 0 < (encB r).length := by rw [encB_length]; omega

/-- append of no bytes. -/
theorem run_append_none (w : World) (ty : TypeId) (g n cap c : Nat) (hn : n ≤ cap) (da : Option Addr) : (Builtin.append_ #[53, 53] ty #[.slice (some ⟨g, 0, none⟩) n cap, .slice da 0 c]).run Tryz.prog w = .ok (.slice (some ⟨g, 0, none⟩) n cap) w := by
  obtain ⟨i, hi, -, hs, -⟩ := info_parts infoU8
  have hl : ∀ (x : Addr), (loadCells x 0).run Tryz.prog w = .ok #[] w := fun x => by simpa using run_loadCells_list (P := Tryz.prog) w x [] (by simp)
  cases da <;> simp [Builtin.append_, run_underlying Tryz.underlying53, Builtin.lenOf, Builtin.firstCells, sizeOf, typeInfo, hi, hl, hn, storeCells]
theorem wpList_append_none {w : World} {ops : Array Oper} {rest : List Oper} {o : Oper} {a : Act} {Q : Exit → Act → World → Prop} (hgd : o.guard = none) (x y : Operand)
    (ho : o.op = .call { callee := .builtin .append, args := #[x, y], argTypes := #[53, 53] }) (base n : Nat) (v : Value) (xs : List Value) (hx : a.eval x = v) (hown : w.ownsRow base 5 1 v n xs) (h0 : 0 < n) (da : Option Addr) (c : Nat) (hy : a.eval y = .slice da 0 c)
    (h : wpList Tryz.prog ops Q rest (a.put o.dst v) w) : wpList Tryz.prog ops Q (o :: rest) a w := by
  refine wpList_plain hgd fun K hK => ?_
  rcases hown.2 with ⟨-, e⟩ | ⟨g, cap, cur, rfl, -, -, hnc, -⟩
  · omega
  · have hrun := run_append_none w o.type g n cap c hnc da
    unfold Oper.wp
    simp [execOp, ho, resolve, invoke, builtin, hx, hy, hrun, Result.andThen]
    exact hK _ _ h

/-- append of some bytes, or of none, onto a row of the call's own. -/
theorem wpList_append_bytes {w : World} {ops : Array Oper} {rest : List Oper} {o : Oper} {a : Act} {Q : Exit → Act → World → Prop} (hgd : o.guard = none) (x y : Operand)
    (ho : o.op = .call { callee := .builtin .append, args := #[x, y], argTypes := #[53, 53] }) (base : Nat) (v : Value) (L : List Int) (hx : a.eval x = v) (hown : w.ownsRow base 5 1 v L.length (byteCells L)) (h0 : 0 < L.length)
    (l : List Int) (hy : BytesAt w (a.eval y) l) (hlen : L.length + l.length ≤ 100000) (hbase : base ≤ w.heap.size)
    (h : ∀ v' w', w'.ownsRow base 5 1 v' (L ++ l).length (byteCells (L ++ l)) → Below base w w' → wpList Tryz.prog ops Q rest (a.put o.dst v') w') : wpList Tryz.prog ops Q (o :: rest) a w := by
  obtain ⟨i0, hi, hz0, hz1, hz2⟩ := info_parts infoU8
  by_cases hl : 0 < l.length
  · obtain ⟨ya, ycap, ey, -⟩ := id hy
    rw [ey] at hy
    obtain ⟨b, off, rfl, hc⟩ := BytesIn.cells hy hl
    refine wpList_append_own w hgd x y 53 ho base 5 i0 (.int .u8 0) 1 1 Tryz.underlying53 hi hz0 hz1 hz2 rfl (by decide) v _ _ hx hown ⟨b, off, none⟩ l.length ycap (byteCells l) ey (by rw [byteCells_length]; omega) hc (byteCells_one _) (by unfold maxLen; omega) (by omega) hbase ?_
    intro v' w' h1 h2 h3
    refine h v' w' ?_ ((Below.refl _ _).grown h2 hbase (fun k hk => (hown.lt k hk).1))
    rw [byteCells_append, List.length_append]; exact h1
  · obtain rfl : l = [] := List.eq_nil_of_length_eq_zero (by omega)
    obtain ⟨ya, ycap, ey, -⟩ := hy
    refine wpList_append_none hgd x y ho base _ v _ hx hown h0 ya ycap ey (h v w ?_ (Below.refl _ _))
    rw [List.append_nil]; exact hown

/-- The law's second half: what some bytes begin with. -/
theorem back_good {b : List Int} (hb : AllB b) (h : (decF b).2.2 = 0) : ∃ r l, decF b = (r, ((encB r).length : Int), 0) ∧ roundF r = 0 ∧ b = encB r ++ l := by
  obtain ⟨h1, h2, l, h3⟩ := enc_dec hb h
  exact ⟨(decF b).1, l, by rw [← h2, ← h], h1, h3⟩
theorem roundF_fits {r : List (List Op5)} (h : roundF r = 0) : Fits r := by
  obtain ⟨h1, h2⟩ := roundF_zero.1 h
  exact ⟨by omega, fun i hi => by have := checkF_len (h2 _ (List.getElem_mem hi)); omega⟩

end Go.Proofs.YtehkjbpgibdgpadGreatDoor
