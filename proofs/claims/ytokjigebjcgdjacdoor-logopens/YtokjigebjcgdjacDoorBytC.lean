/-
  The walk of the reference's SameBytes; append of bytes that may be none.
-/
import Derived.Test.YtokjigebjcgdjacDoorBegC
import Derived.Test.YtokjigebjcgdjacDoorSamA
namespace Go.Proofs.YtokjigebjcgdjacDoor
open Go.RowKit

set_option maxRecDepth 100000 in
set_option maxHeartbeats 1000000 in
theorem sameBytes_any {v u : Value} {l m : List Int} {w : World} (hv : BytesAt w v l) (hu : BytesAt w u m) (hl : AllB l) (hm : AllB m) :
    Calls Tryd.prog 21 #[v, u] w fun e w' => e = .returned (.bool (decide (l = m))) ∧ w' = w := by
  have HE : Hid (((strOfNums l).toList == (strOfNums m).toList) = decide (l = m)) := strOf_eq hl hm
  obtain ⟨a, cap, rfl, -⟩ := id hv
  obtain ⟨b, cap', rfl, -⟩ := id hu
  have h1 := BytesAt.str hv
  have h2 := BytesAt.str hu
  clear hv hu
  generalize strOfNums l = S at *
  generalize strOfNums m = T at *
  go_enter Tryd.func21, Tryd.ntmps21
  go_wp2_with fail
  go_ret
  exact ⟨ret_b HE.out, rfl⟩

theorem ne_zero_t {x : Int} (h : x ≠ 0) : (x != 0) = true := by simp [h]
theorem enc_nonempty' (r : List (List Op5)) : 0 < (encB r).length := by rw [encB_length]; omega

/-- append of no bytes. -/
theorem run_append_none (w : World) (ty : TypeId) (g n cap c : Nat) (hn : n ≤ cap) (da : Option Addr) : (Builtin.append_ #[26, 26] ty #[.slice (some ⟨g, 0, none⟩) n cap, .slice da 0 c]).run Tryd.prog w = .ok (.slice (some ⟨g, 0, none⟩) n cap) w := by
  obtain ⟨i, hi, -, hs, -⟩ := info_parts infoU8
  have hl : ∀ (x : Addr), (loadCells x 0).run Tryd.prog w = .ok #[] w := fun x => by simpa using run_loadCells_list (P := Tryd.prog) w x [] (by simp)
  cases da <;> simp [Builtin.append_, run_underlying Tryd.underlying26, Builtin.lenOf, Builtin.firstCells, sizeOf, typeInfo, hi, hl, hn, storeCells]
theorem wpList_append_none {w : World} {ops : Array Oper} {rest : List Oper} {o : Oper} {a : Act} {Q : Exit → Act → World → Prop} (hgd : o.guard = none) (x y : Operand)
    (ho : o.op = .call { callee := .builtin .append, args := #[x, y], argTypes := #[26, 26] }) (base n : Nat) (v : Value) (xs : List Value) (hx : a.eval x = v) (hown : w.ownsRow base 5 1 v n xs) (h0 : 0 < n) (da : Option Addr) (c : Nat) (hy : a.eval y = .slice da 0 c)
    (h : wpList Tryd.prog ops Q rest (a.put o.dst v) w) : wpList Tryd.prog ops Q (o :: rest) a w := by
  refine wpList_plain hgd fun K hK => ?_
  rcases hown.2 with ⟨-, e⟩ | ⟨g, cap, cur, rfl, -, -, hnc, -⟩
  · omega
  · have hrun := run_append_none w o.type g n cap c hnc da
    unfold Oper.wp
    simp [execOp, ho, resolve, invoke, builtin, hx, hy, hrun, Result.andThen]
    exact hK _ _ h

/-- append of some bytes, or of none, onto a row of the call's own. -/
theorem wpList_append_bytes {w : World} {ops : Array Oper} {rest : List Oper} {o : Oper} {a : Act} {Q : Exit → Act → World → Prop} (hgd : o.guard = none) (x y : Operand)
    (ho : o.op = .call { callee := .builtin .append, args := #[x, y], argTypes := #[26, 26] }) (base : Nat) (v : Value) (L : List Int) (hx : a.eval x = v) (hown : w.ownsRow base 5 1 v L.length (byteCells L)) (h0 : 0 < L.length)
    (l : List Int) (hy : BytesAt w (a.eval y) l) (hlen : L.length + l.length ≤ 100000) (hbase : base ≤ w.heap.size)
    (h : ∀ v' w', w'.ownsRow base 5 1 v' (L ++ l).length (byteCells (L ++ l)) → Below base w w' → wpList Tryd.prog ops Q rest (a.put o.dst v') w') : wpList Tryd.prog ops Q (o :: rest) a w := by
  obtain ⟨i0, hi, hz0, hz1, hz2⟩ := info_parts infoU8
  by_cases hl : 0 < l.length
  · obtain ⟨ya, ycap, ey, -⟩ := id hy
    rw [ey] at hy
    obtain ⟨b, off, rfl, hc⟩ := BytesIn.cells hy hl
    refine wpList_append_own w hgd x y 26 ho base 5 i0 (.int .u8 0) 1 1 Tryd.underlying26 hi hz0 hz1 hz2 rfl (by decide) v _ _ hx hown ⟨b, off, none⟩ l.length ycap (byteCells l) ey (by rw [byteCells_length]; omega) hc (byteCells_one _) (by unfold maxLen; omega) (by omega) hbase ?_
    intro v' w' h1 h2 h3
    refine h v' w' ?_ ((Below.refl _ _).grown h2 hbase (fun k hk => (hown.lt k hk).1))
    rw [byteCells_append, List.length_append]; exact h1
  · obtain rfl : l = [] := List.eq_nil_of_length_eq_zero (by omega)
    obtain ⟨ya, ycap, ey, -⟩ := hy
    refine wpList_append_none hgd x y ho base _ v _ hx hown h0 ya ycap ey (h v w ?_ (Below.refl _ _))
    rw [List.append_nil]; exact hown

/-- The law's second half: what some bytes begin with. -/
theorem back_good {b : List Int} (hb : AllB b) (h : (decF b).2.2 = 0) : ∃ r l, decF b = (r, ((encB r).length : Int), 0) ∧ roundF r = 0 ∧ b = encB r ++ l := by
  obtain ⟨h1, h2, l, h3⟩ := enc_dec hb h
  exact ⟨(decF b).1, l, by rw [← h2, ← h], h1, h3⟩
theorem roundF_fits {r : List (List Op5)} (h : roundF r = 0) : Fits r := by
  obtain ⟨h1, h2⟩ := roundF_zero.1 h
  exact ⟨by omega, fun i hi => by have := checkF_len (h2 _ (List.getElem_mem hi)); omega⟩

end Go.Proofs.YtokjigebjcgdjacDoor
