/-
  What '==' says of two states that are the same, and of two results that are.
-/
import Derived.Test.YtihfjmdjjeciiacDoorJqWa
import Derived.ChangeKeysEq
namespace Go.Proofs.YtihfjmdjjeciiacDoor
open Go.RowKit

theorem info2 : (Tryd.prog.info? 2).map (fun i => (i.zero, i.size, i.bytes)) = some (some (.int .i64 0), 1, 8) := by kernel_rfl
theorem cells2 : Tryd.prog.cellsOf 2 = 1 := by kernel_rfl

theorem part2 (xs : Array Value) (j : Nat) (v : Int) (w : World) (h : xs[j]? = some (.int .i64 v)) : (part 2 xs (j * 1)).run Tryd.prog w = .ok (.int .i64 v) w := by
  simp [part, go_sem, h]

theorem eqItems_same (d : Nat) (xs : Array Value) (w : World) : ∀ is : List Nat, (∀ j ∈ is, ∃ v, xs[j]? = some (.int .i64 v)) → (Op.eqItems (d + 1) 2 1 xs xs is).run Tryd.prog w = .ok true w
  | [], _ => by simp [Op.eqItems]
  | j :: is, h => by
    obtain ⟨v, hv⟩ := h j (by simp)
    have hi := run_equalIn_int (P := Tryd.prog) w d 2 .i64 .i64 v v Tryd.underlying2
    simp only [Op.eqItems, Sem.run_bind, part2 xs j v _ hv, Result.andThen_ok, hi, beq_self_eq_true, Bool.not_true, Bool.false_eq_true, if_false]
    exact eqItems_same d xs w is (fun k hk => h k (by simp [hk]))

set_option maxHeartbeats 400000 in
theorem eq38 (x : Nat → Int) (w : World) : (Op.equalIn 10000 71 (.agg #[.int .i64 (x 0), .int .i64 (x 1), .int .i64 (x 2), .int .i64 (x 3), .int .i64 (x 4), .int .i64 (x 5), .int .i64 (x 6), .int .i64 (x 7), .int .i64 (x 8), .int .i64 (x 9)]) (.agg #[.int .i64 (x 0), .int .i64 (x 1), .int .i64 (x 2), .int .i64 (x 3), .int .i64 (x 4), .int .i64 (x 5), .int .i64 (x 6), .int .i64 (x 7), .int .i64 (x 8), .int .i64 (x 9)])).run Tryd.prog w = .ok true w := by
  obtain ⟨i, hi, -⟩ := info_parts info2
  rw [run_equalIn_array w 9999 _ _ Tryd.underlying71 hi, cells2]
  refine eqItems_same 9998 _ w _ (fun j hj => ?_)
  have hj' : j < 10 := by simpa using hj
  exact lt10 (P := fun j => ∃ v, (#[Value.int .i64 (x 0), .int .i64 (x 1), .int .i64 (x 2), .int .i64 (x 3), .int .i64 (x 4), .int .i64 (x 5), .int .i64 (x 6), .int .i64 (x 7), .int .i64 (x 8), .int .i64 (x 9)])[j]? = some (.int .i64 v)) ⟨_, rfl⟩ ⟨_, rfl⟩ ⟨_, rfl⟩ ⟨_, rfl⟩ ⟨_, rfl⟩ ⟨_, rfl⟩ ⟨_, rfl⟩ ⟨_, rfl⟩ ⟨_, rfl⟩ ⟨_, rfl⟩ j hj'

theorem eq41 (d : Nat) (x0 x1 x2 x3 : Int) (w : World) : (Op.equalIn (d + 2) 108 (.agg #[.int .i64 x0, .int .i64 x1, .int .i64 x2, .int .i64 x3]) (.agg #[.int .i64 x0, .int .i64 x1, .int .i64 x2, .int .i64 x3])).run Tryd.prog w = .ok true w := by
  obtain ⟨i, hi, -⟩ := info_parts info2
  rw [run_equalIn_array w (d + 1) _ _ Tryd.underlying108 hi, cells2]
  refine eqItems_same d _ w _ (fun j hj => ?_)
  have hj' : j < 4 := by simpa using hj
  exact lt4 (P := fun j => ∃ v, (#[Value.int .i64 x0, .int .i64 x1, .int .i64 x2, .int .i64 x3])[j]? = some (.int .i64 v)) ⟨_, rfl⟩ ⟨_, rfl⟩ ⟨_, rfl⟩ ⟨_, rfl⟩ j hj'

set_option maxHeartbeats 400000 in
theorem eq43 (c x0 x1 x2 x3 : Int) (w : World) : (Op.equalIn 10000 110 (.agg #[.int .i64 c, .int .i64 x0, .int .i64 x1, .int .i64 x2, .int .i64 x3]) (.agg #[.int .i64 c, .int .i64 x0, .int .i64 x1, .int .i64 x2, .int .i64 x3])).run Tryd.prog w = .ok true w := by
  have hS : Tryd.prog.underlying 110 = some (.struct (Tryd.prog.fieldsOf 110)) := by kernel_rfl
  have h41 := eq41 9997 x0 x1 x2 x3
  rw [show (10000 : Nat) = 9999 + 1 from rfl, run_equalIn_agg w 9999 110 _ _ hS (by kernel_rfl)]
  simp only [Program.fieldsOf, Tryd.underlying110]
  go_simp
end Go.Proofs.YtihfjmdjjeciiacDoor
