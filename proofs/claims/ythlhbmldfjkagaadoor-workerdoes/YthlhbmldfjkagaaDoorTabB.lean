/-
  The walk of the closure that goes backward over a slice of slots.
-/
import Derived.Test.YthlhbmldfjkagaaDoorTabA
namespace Go.Proofs.YthlhbmldfjkagaaDoor
open Go.RowKit Go.Shelf

attribute [local go_sem] Oper.semAt_some

/-- What has come when k rounds are over. -/
def upto {α : Type} (f : Nat → α) (k : Nat) : List α := (List.range k).map f
theorem upto_succ {α : Type} (f : Nat → α) (k : Nat) : upto f (k + 1) = upto f k ++ [f k] := by simp [upto, List.range_succ]
theorem upto_length {α : Type} (f : Nat → α) (k : Nat) : (upto f k).length = k := by simp [upto]

/-- The number of a slot of a list. -/
abbrev Num (l : List Slot4) := { i : Nat // i < l.length }
/-- The numbers from the last one on. -/
def backN (l : List Slot4) (k : Nat) : List Nat := upto (fun j => l.length - 1 - j) k

set_option maxRecDepth 100000 in
set_option maxHeartbeats 2000000 in
theorem back1_in (F : Fence) (n : Nat) (h68 : F.fn 81) (hro : F.round = none) (hn : 1 ≤ n) (l Bs n₀ B off : Nat) (zs : List Slot4) (hBs' : Bs < n₀) (hb : B < n₀) (J Jx : List (Num zs) → World → Prop)
    (hY : ∀ pre x W, J pre W → pre.length < zs.length → YieldAt F (n - 1) Tryd.prog l #[.int .i64 (x.1 : Int), .agg #[.int .i64 (slotAt zs x.1).b, .bool (slotAt zs x.1).op, .bool (slotAt zs x.1).vo, .int .i64 (slotAt zs x.1).n]] W fun e W' =>
      (e = .returned (.bool true) ∧ J (pre ++ [x]) W' ∧ Below n₀ W W') ∨ (e = .returned (.bool false) ∧ Jx (pre ++ [x]) W'))
    (W : World) (hBs : W.cell? ⟨Bs, 0, none⟩ = some (.slice (some ⟨B, off, none⟩) zs.length 9)) (hc : RowAt W B off zs) (h0 : J [] W) :
    CallsIn F n Tryd.prog 81 #[.func (.yield l) #[] #[], .pointer (some ⟨Bs, 0, none⟩)] W fun e W' => (∃ v, e = .returned v) ∧
      ((∃ ys, ys.map (·.1) = backN zs zs.length ∧ J ys W') ∨ (∃ pre, (∃ k, k ≤ zs.length ∧ pre.map (·.1) = backN zs k) ∧ Jx pre W')) := by
  have hlen := hc.len
  refine callsIn_of_wp Tryd.func81 rfl h68 ?_ hro
  simp only [Tryd.ntmps81, List.size_toArray, List.length_cons, List.length_nil, Nat.reduceAdd, Nat.reduceSub, Array.replicate_succ, Array.replicate_zero, List.push_toArray, List.append_toArray, List.nil_append, List.cons_append]
  gi_wp2
  gi_loopw [3] (fun i wr => ∃ k : Nat, k ≤ zs.length ∧ i = .int .i64 ((zs.length : Int) - 1 - k) ∧ (∃ pre, pre.map (·.1) = backN zs k ∧ J pre wr) ∧ Below n₀ W wr)
    (fun i _ => (intOf i + 1).toNat)
  case atStart => exact ⟨0, Nat.zero_le _, by simp, ⟨[], rfl, h0⟩, Below.refl _ _⟩
  case round =>
    obtain ⟨k, hk, rfl, ⟨pre, hpre, hJs⟩, hnx⟩ := hrel
    have hbx : wr.cell? ⟨Bs, 0, none⟩ = some (.slice (some ⟨B, off, none⟩) zs.length 9) := (hnx.cell (p := ⟨Bs, 0, none⟩) hBs').trans hBs
    have hpl : pre.length = k := by have := congrArg List.length hpre; simpa [backN, upto] using this
    by_cases hlt : k < zs.length
    · obtain ⟨m, hm⟩ : ∃ m : Nat, m = zs.length - 1 - k := ⟨_, rfl⟩
      have hmi : ((zs.length : Int) - 1 - k) = (m : Int) := by omega
      have hmlt : m < zs.length := by omega
      have hback : Hid ((pre ++ [(⟨m, hmlt⟩ : Num zs)]).map (fun x : Num zs => x.1) = backN zs (k + 1)) := by
        show _ = _
        rw [List.map_append, hpre, backN, backN, upto_succ]; simp [← hm]
      have hY' := hY pre ⟨m, hmlt⟩ wr hJs (by omega)
      obtain ⟨c0, c1, c2, c3⟩ := hc.cell m hmlt
      replace c0 := (hnx.cell (p := ⟨B, off + m * 4, none⟩) hb).trans c0
      replace c1 := (hnx.cell (p := ⟨B, off + m * 4 + 1, none⟩) hb).trans c1
      replace c2 := (hnx.cell (p := ⟨B, off + m * 4 + 2, none⟩) hb).trans c2
      replace c3 := (hnx.cell (p := ⟨B, off + m * 4 + 3, none⟩) hb).trans c3
      rw [hmi]
      have HM : Hid (((zs.length : Int) - 1 - k) = (m : Int)) := hmi
      obtain ⟨fn, tmps, assign, body, hy, hR⟩ := hY'
      dsimp only at hy
      clear hm hmi hpre hpl
      gi_wp2
      refine hR.mono ?_
      rintro e W3 (⟨rfl, hJ3, hk3⟩ | ⟨rfl, hJx3⟩)
      · gi_wp2
        go_roundw
        case rel => exact ⟨k + 1, by omega, by have := HM.out; go_num, ⟨_, hback.out, hJ3⟩, hnx.trans hk3⟩
        case measure => simp [intOf]
      · gi_wp2
        refine bodyPost_ret (results_none rfl _ _ _) rfl ?_
        exact ⟨⟨_, rfl⟩, .inr ⟨_, ⟨k + 1, by omega, hback.out⟩, hJx3⟩⟩
    · obtain rfl : k = zs.length := by omega
      have hneg : ((zs.length : Int) - 1 - zs.length) = -1 := by omega
      rw [hneg]
      clear hneg
      gi_wp2
      go_end0
      exact ⟨⟨_, rfl⟩, .inl ⟨_, hpre, hJs⟩⟩

/-- slices.Backward's closure, as the caller's law wants it. -/
theorem back_stops (F : Fence) (n : Nat) (h68 : F.fn 81) (hro : F.round = none) (hn : 1 ≤ n) (Bs B off : Nat) (zs : List Slot4) (w : World)
    (hBs : w.cell? ⟨Bs, 0, none⟩ = some (.slice (some ⟨B, off, none⟩) zs.length 9)) (hc : RowAt w B off zs) :
    SeqStopsK F n Tryd.prog 81 #[.pointer (some ⟨Bs, 0, none⟩)] (fun x : Num zs => #[.int .i64 (x.1 : Int), .agg #[.int .i64 (slotAt zs x.1).b, .bool (slotAt zs x.1).op, .bool (slotAt zs x.1).vo, .int .i64 (slotAt zs x.1).n]]) (Below w.heap.size)
      (fun ys => ys.map (·.1) = backN zs zs.length) (fun pre => ∃ k, k ≤ zs.length ∧ pre.map (·.1) = backN zs k) zs.length w := fun l J Jx W hW _ _ hY h0 =>
  back1_in F n h68 hro hn l Bs w.heap.size B off zs (World.block_lt_of_cell? w _ hBs) (World.block_lt_of_cell? w _ hc.many) J Jx hY W (cell_later hW hBs) (hc.later hW) h0
end Go.Proofs.YthlhbmldfjkagaaDoor
