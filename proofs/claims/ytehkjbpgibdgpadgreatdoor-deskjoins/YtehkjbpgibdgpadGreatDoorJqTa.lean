/-
  The walks of the small functions of package table, and of the library's iterator that goes backward over a slice. The walk of the closure that goes backward over a slice of slots. The walk of last: the last slot of a key that is as asked for.
-/
import Derived.Test.YtehkjbpgibdgpadGreatDoorJqWa
import Derived.Test.YtehkjbpgibdgpadGreatDoorJqMb
import Derived.RangeFuncNested
import Derived.RangeFuncBound
import Derived.RangeFuncBox
import Derived.RangeFuncCalls
import Derived.RangeFuncLeaves
import Derived.Shelf.Abstract
import Derived.Shelf.AbstractIn
import Derived.Shelf.RegionOpen
import Derived.OwnWalkIn
import Derived.TacticsInMore
import Derived.LoopNIn
import Derived.LoopIn
import Derived.Deep.RegionWith
import Derived.Sort.QuietIn
namespace Go.Proofs.YtehkjbpgibdgpadGreatDoor
open Go.RowKit Go.Shelf

def slotV (s : Slot4) : Value := .agg #[.int .i64 s.b, .bool s.op, .bool s.vo, .int .i64 s.n]

/-- A function that tells of a slot, whatever lies where: for worlds that keep what lay at a call's beginning. -/
def Asks (f : Nat) (cap : Array Value) (p : Slot4 → Bool) (w0 : World) : Prop :=
  ∀ (s : Slot4) (w : World), Below w0.heap.size w0 w → Calls Tryz.prog f (#[.agg #[.int .i64 s.b, .bool s.op, .bool s.vo, .int .i64 s.n]] ++ cap) w fun e w' => e = .returned (.bool (p s)) ∧ Below w.heap.size w w'

set_option maxHeartbeats 400000 in
theorem key_in (k : Nat) (hk : k < 10) (w : World) : Calls Tryz.prog 185 #[.int .i64 (k : Int)] w fun e w' => e = .returned (.bool true) ∧ w' = w := by
  have h1 : (k : Int) < 10 := by omega
  go_enter Tryz.func185, Tryz.ntmps185
  go_wp2
  go_ret
  exact ⟨by simp, rfl⟩

set_option maxHeartbeats 400000 in
theorem key_out (k : Int) (hk : k < 0 ∨ 10 ≤ k) (w : World) : Calls Tryz.prog 185 #[.int .i64 k] w fun e w' => e = .returned (.bool false) ∧ w' = w := by
  rcases hk with h | h
  · go_enter Tryz.func185, Tryz.ntmps185
    go_wp2
    go_ret
    exact ⟨by simp, rfl⟩
  · have h0 : ¬ k < 0 := by omega
    have h1 : ¬ k < 10 := by omega
    have h2 : 0 ≤ k := by omega
    go_enter Tryz.func185, Tryz.ntmps185
    go_wp2
    go_ret
    exact ⟨by simp, rfl⟩


set_option maxHeartbeats 400000 in
theorem ahead_asks (C : Nat) (b : Int) (w0 : World) (hc : w0.cell? ⟨C, 0, none⟩ = some (.int .i64 b)) : Asks 198 #[.pointer (some ⟨C, 0, none⟩)] (aheadP b) w0 := by
  intro s w hb
  replace hc := cell_later hb hc
  have hC : C < w.heap.size := World.block_lt_of_cell? w _ hc
  obtain ⟨sb, so, sv, sn⟩ := s
  show Calls Tryz.prog 198 #[.agg #[.int .i64 sb, .bool so, .bool sv, .int .i64 sn], .pointer (some ⟨C, 0, none⟩)] w _
  by_cases h : sb < b
  · have h' : Hid (aheadP b ⟨sb, so, sv, sn⟩ = !sv) := by show aheadP _ _ = _; simp [aheadP, h]
    go_enter Tryz.func198, Tryz.ntmps198
    go_wp2
    go_ret
    exact ⟨ret_bool h'.out.symm, (Below.refl _ _).alloc (Nat.le_refl _) _⟩
  · have h' : Hid (aheadP b ⟨sb, so, sv, sn⟩ = false) := by show aheadP _ _ = _; simp [aheadP, h]
    go_enter Tryz.func198, Tryz.ntmps198
    go_wp2
    go_ret
    exact ⟨ret_bool h'.out.symm, (Below.refl _ _).alloc (Nat.le_refl _) _⟩

set_option maxHeartbeats 400000 in
theorem open_asks (C : Nat) (b : Int) (w0 : World) (hc : w0.cell? ⟨C, 0, none⟩ = some (.int .i64 b)) : Asks 199 #[.pointer (some ⟨C, 0, none⟩)] (openP b) w0 := by
  intro s w hb
  replace hc := cell_later hb hc
  have hC : C < w.heap.size := World.block_lt_of_cell? w _ hc
  obtain ⟨sb, so, sv, sn⟩ := s
  show Calls Tryz.prog 199 #[.agg #[.int .i64 sb, .bool so, .bool sv, .int .i64 sn], .pointer (some ⟨C, 0, none⟩)] w _
  cases so
  · have h' : Hid (openP b ⟨sb, false, sv, sn⟩ = false) := by show openP _ _ = _; simp [openP]
    go_enter Tryz.func199, Tryz.ntmps199
    go_wp2
    go_ret
    exact ⟨ret_bool h'.out.symm, (Below.refl _ _).alloc (Nat.le_refl _) _⟩
  · have h' : Hid (openP b ⟨sb, true, sv, sn⟩ = (sb == b)) := by show openP _ _ = _; simp [openP]
    go_enter Tryz.func199, Tryz.ntmps199
    go_wp2
    go_ret
    exact ⟨ret_bool h'.out.symm, (Below.refl _ _).alloc (Nat.le_refl _) _⟩

def stillP (s : Slot4) : Bool := s.op
def knownP (s : Slot4) : Bool := !s.op && !s.vo



set_option maxHeartbeats 400000 in
theorem known_asks (w0 : World) : Asks 176 #[] knownP w0 := by
  intro s w hb
  obtain ⟨sb, so, sv, sn⟩ := s
  show Calls Tryz.prog 176 #[.agg #[.int .i64 sb, .bool so, .bool sv, .int .i64 sn]] w _
  cases so
  · go_enter Tryz.func176, Tryz.ntmps176
    go_wp2
    go_ret
    exact ⟨rfl, (Below.refl _ _).alloc (Nat.le_refl _) _⟩
  · go_enter Tryz.func176, Tryz.ntmps176
    go_wp2
    go_ret
    exact ⟨rfl, (Below.refl _ _).alloc (Nat.le_refl _) _⟩

/-- A key's slots, as they lie at a place of a block. -/
structure RowAt (w : World) (B off : Nat) (l : List Slot4) : Prop where
  len : l.length ≤ 9
  many : w.cell? ⟨B, off + 36, none⟩ = some (.int .i64 l.length)
  cell : ∀ i, i < l.length → w.cell? ⟨B, off + i * 4, none⟩ = some (.int .i64 (slotAt l i).b) ∧ w.cell? ⟨B, off + i * 4 + 1, none⟩ = some (.bool (slotAt l i).op) ∧
    w.cell? ⟨B, off + i * 4 + 2, none⟩ = some (.bool (slotAt l i).vo) ∧ w.cell? ⟨B, off + i * 4 + 3, none⟩ = some (.int .i64 (slotAt l i).n)

theorem RowAt.later {w w' : World} {B off : Nat} {l : List Slot4} (h : RowAt w B off l) (hb : Below w.heap.size w w') : RowAt w' B off l :=
  ⟨h.len, cell_later hb h.many, fun i hi => by
    obtain ⟨c0, c1, c2, c3⟩ := h.cell i hi
    exact ⟨cell_later hb c0, cell_later hb c1, cell_later hb c2, cell_later hb c3⟩⟩

set_option maxHeartbeats 400000 in
theorem all_row (B off : Nat) (l : List Slot4) (w : World) (h : RowAt w B off l) :
    Calls Tryz.prog 187 #[.pointer (some ⟨B, off, none⟩)] w fun e w' => e = .returned (.slice (some ⟨B, off, none⟩) l.length 9) ∧ w' = w.drew := by
  have hm := h.many
  have hl := h.len
  have hl' : (l.length : Int) ≤ 9 := by omega
  have hB : B < w.heap.size := World.block_lt_of_cell? w _ hm
  go_enter Tryz.func187, Tryz.ntmps187
  go_wp2_with fail
  go_region
  all_goals go_wp2_with fail
  all_goals go_ret
  all_goals exact ⟨rfl, rfl⟩

set_option maxHeartbeats 400000 in
theorem backward_any (v : Value) (a : Option Addr) (len cap : Nat) (hv : v = .slice a len cap) (w : World) :
    Calls Tryz.prog 186 #[v] w fun e w' => e = .returned (.func (.func 192) #[] #[.pointer (some ⟨w.heap.size, 0, none⟩)]) ∧ w' = w.alloc (.cells #[v] 258) := by
  subst hv
  have hmf : ∀ (fn : Fn) (first cap : Array Value) (w : World), (Instr.makeFunc fn first cap).run Tryz.prog w = .ok (.func fn first cap) w := fun _ _ _ _ => rfl
  go_enter Tryz.func186, Tryz.ntmps186
  go_wp2
  go_ret
  exact ⟨rfl, rfl⟩
end Go.Proofs.YtehkjbpgibdgpadGreatDoor
namespace Go.Proofs.YtehkjbpgibdgpadGreatDoor
open Go.RowKit Go.Shelf

attribute [local go_sem] Oper.semAt_some

/-- What has come when k rounds are over. -/
def upto {α : Type} (f : Nat → α) (k : Nat) : List α := (List.range k).map f
theorem upto_succ {α : Type} (f : Nat → α) (k : Nat) : upto f (k + 1) = upto f k ++ [f k] := by simp [upto, List.range_succ]
theorem upto_length {α : Type} (f : Nat → α) (k : Nat) : (upto f k).length = k := by simp [upto]

/-- The number of a slot of a list. -/
abbrev Num (l : List Slot4) := { i : Nat // i < l.length }
/-- The numbers from the last one on. -/
def backN (l : List Slot4) (k : Nat) : List Nat := upto (fun j => l.length - 1 - j) k

set_option maxRecDepth 100000 in
set_option maxHeartbeats 2000000 in
theorem back1_in (F : Fence) (n : Nat) (h68 : F.fn 192) (hro : F.round = none) (hn : 1 ≤ n) (l Bs n₀ B off : Nat) (zs : List Slot4) (hBs' : Bs < n₀) (hb : B < n₀) (J Jx : List (Num zs) → World → Prop)
    (hY : ∀ pre x W, J pre W → pre.length < zs.length → YieldAt F (n - 1) Tryz.prog l #[.int .i64 (x.1 : Int), .agg #[.int .i64 (slotAt zs x.1).b, .bool (slotAt zs x.1).op, .bool (slotAt zs x.1).vo, .int .i64 (slotAt zs x.1).n]] W fun e W' =>
      (e = .returned (.bool true) ∧ J (pre ++ [x]) W' ∧ Below n₀ W W') ∨ (e = .returned (.bool false) ∧ Jx (pre ++ [x]) W'))
    (W : World) (hBs : W.cell? ⟨Bs, 0, none⟩ = some (.slice (some ⟨B, off, none⟩) zs.length 9)) (hc : RowAt W B off zs) (h0 : J [] W) :
    CallsIn F n Tryz.prog 192 #[.func (.yield l) #[] #[], .pointer (some ⟨Bs, 0, none⟩)] W fun e W' => (∃ v, e = .returned v) ∧
      ((∃ ys, ys.map (·.1) = backN zs zs.length ∧ J ys W') ∨ (∃ pre, (∃ k, k ≤ zs.length ∧ pre.map (·.1) = backN zs k) ∧ Jx pre W')) := by
  have hlen := hc.len
  refine callsIn_of_wp Tryz.func192 rfl h68 ?_ hro
  simp only [Tryz.ntmps192, List.size_toArray, List.length_cons, List.length_nil, Nat.reduceAdd, Nat.reduceSub, Array.replicate_succ, Array.replicate_zero, List.push_toArray, List.append_toArray, List.nil_append, List.cons_append]
  gi_wp2
  gi_loopw [3] (fun i wr => ∃ k : Nat, k ≤ zs.length ∧ i = .int .i64 ((zs.length : Int) - 1 - k) ∧ (∃ pre, pre.map (·.1) = backN zs k ∧ J pre wr) ∧ Below n₀ W wr)
    (fun i _ => (intOf i + 1).toNat)
  case atStart => exact ⟨0, Nat.zero_le _, by simp, ⟨[], rfl, h0⟩, Below.refl _ _⟩
  case round =>
    obtain ⟨k, hk, rfl, ⟨pre, hpre, hJs⟩, hnx⟩ := hrel
    have hbx : wr.cell? ⟨Bs, 0, none⟩ = some (.slice (some ⟨B, off, none⟩) zs.length 9) := (hnx.cell (p := ⟨Bs, 0, none⟩) hBs').trans hBs
    have hpl : pre.length = k := by have := congrArg List.length hpre; simpa [backN, upto] using this
    by_cases hlt : k < zs.length
    · obtain ⟨m, hm⟩ : ∃ m : Nat, m = zs.length - 1 - k := ⟨_, rfl⟩
      have hmi : ((zs.length : Int) - 1 - k) = (m : Int) := by omega
      have hmlt : m < zs.length := by omega
      have hback : Hid ((pre ++ [(⟨m, hmlt⟩ : Num zs)]).map (fun x : Num zs => x.1) = backN zs (k + 1)) := by
        show _ = _
        rw [List.map_append, hpre, backN, backN, upto_succ]; simp [← hm]
      have hY' := hY pre ⟨m, hmlt⟩ wr hJs (by omega)
      obtain ⟨c0, c1, c2, c3⟩ := hc.cell m hmlt
      replace c0 := (hnx.cell (p := ⟨B, off + m * 4, none⟩) hb).trans c0
      replace c1 := (hnx.cell (p := ⟨B, off + m * 4 + 1, none⟩) hb).trans c1
      replace c2 := (hnx.cell (p := ⟨B, off + m * 4 + 2, none⟩) hb).trans c2
      replace c3 := (hnx.cell (p := ⟨B, off + m * 4 + 3, none⟩) hb).trans c3
      rw [hmi]
      have HM : Hid (((zs.length : Int) - 1 - k) = (m : Int)) := hmi
      obtain ⟨fn, tmps, assign, body, hy, hR⟩ := hY'
      dsimp only at hy
      clear hm hmi hpre hpl
      gi_wp2
      refine hR.mono ?_
      rintro e W3 (⟨rfl, hJ3, hk3⟩ | ⟨rfl, hJx3⟩)
      · gi_wp2
        go_roundw
        case rel => exact ⟨k + 1, by omega, by have := HM.out; go_num, ⟨_, hback.out, hJ3⟩, hnx.trans hk3⟩
        case measure => simp [intOf]
      · gi_wp2
        refine bodyPost_ret (results_none rfl _ _ _) rfl ?_
        exact ⟨⟨_, rfl⟩, .inr ⟨_, ⟨k + 1, by omega, hback.out⟩, hJx3⟩⟩
    · obtain rfl : k = zs.length := by omega
      have hneg : ((zs.length : Int) - 1 - zs.length) = -1 := by omega
      rw [hneg]
      clear hneg
      gi_wp2
      go_end0
      exact ⟨⟨_, rfl⟩, .inl ⟨_, hpre, hJs⟩⟩

/-- slices.Backward's closure, as the caller's law wants it. -/
theorem back_stops (F : Fence) (n : Nat) (h68 : F.fn 192) (hro : F.round = none) (hn : 1 ≤ n) (Bs B off : Nat) (zs : List Slot4) (w : World)
    (hBs : w.cell? ⟨Bs, 0, none⟩ = some (.slice (some ⟨B, off, none⟩) zs.length 9)) (hc : RowAt w B off zs) :
    SeqStopsK F n Tryz.prog 192 #[.pointer (some ⟨Bs, 0, none⟩)] (fun x : Num zs => #[.int .i64 (x.1 : Int), .agg #[.int .i64 (slotAt zs x.1).b, .bool (slotAt zs x.1).op, .bool (slotAt zs x.1).vo, .int .i64 (slotAt zs x.1).n]]) (Below w.heap.size)
      (fun ys => ys.map (·.1) = backN zs zs.length) (fun pre => ∃ k, k ≤ zs.length ∧ pre.map (·.1) = backN zs k) zs.length w := fun l J Jx W hW _ _ hY h0 =>
  back1_in F n h68 hro hn l Bs w.heap.size B off zs (World.block_lt_of_cell? w _ hBs) (World.block_lt_of_cell? w _ hc.many) J Jx hY W (cell_later hW hBs) (hc.later hW) h0
end Go.Proofs.YtehkjbpgibdgpadGreatDoor
namespace Go.Proofs.YtehkjbpgibdgpadGreatDoor
open Go.RowKit Go.Shelf

attribute [local go_sem] Oper.semAt_some

/-- What a body must achieve that does not panic. -/
def noPanic (Q : Exit → Act → World → Prop) : Exit → Act → World → Prop
  | .panic _, _, _ => False
  | e, a, w => Q e a w
theorem wpIn_noPanic {F : Fence} {n : Nat} {P : Program} {c : Code} {Q : Exit → Act → World → Prop} {a : Act} {w : World} (h : c.wpIn F n P (noPanic Q) a w) : c.wpIn F n P Q a w :=
  Code.wpIn_mono (fun e a w h => by cases e <;> first | exact h | exact False.elim h) h

theorem KeepsFrom.of_below {B : Nat} {W W' : World} (h : Below W.heap.size W W') : KeepsFrom B W W' := ⟨h.size, fun k _ _ hk _ => (h.block k (Array.getElem?_eq_some_iff.1 hk).1).trans hk⟩

theorem lastF_back_none {p : Slot4 → Bool} {l : List Slot4} {ys : List (Num l)} (hy : ys.map (·.1) = backN l l.length) (hp : ∀ q ∈ ys, p (slotAt l q.1) = false) : lastF p l = none := by
  rw [lastF_none]
  intro s hs
  obtain ⟨j, hj, rfl⟩ := List.mem_iff_getElem.1 hs
  have hm : j ∈ ys.map (·.1) := by
    rw [hy, backN, upto]
    exact List.mem_map.2 ⟨l.length - 1 - j, by simp; omega, by omega⟩
  obtain ⟨q, hq, e⟩ := List.mem_map.1 hm
  have := hp q hq
  rw [e, slotAt_get hj] at this
  exact this
theorem lastF_back_some {p : Slot4 → Bool} {l : List Slot4} {ini : List (Num l)} {last : Num l} {k : Nat} (hy : (ini ++ [last]).map (·.1) = backN l k) (hp : ∀ q ∈ ini, p (slotAt l q.1) = false) (hl : p (slotAt l last.1) = true) : lastF p l = some last.1 := by
  cases k with
  | zero => simp [backN, upto] at hy
  | succ k =>
    rw [backN, upto_succ, List.map_append] at hy
    obtain ⟨h1, h2⟩ := List.append_inj' hy rfl
    have h3 : last.1 = l.length - 1 - k := by simpa using h2
    have hlt := last.2
    rw [lastF_some]
    refine ⟨last.2, hl, fun j hj hjl => ?_⟩
    have hm : j ∈ ini.map (·.1) := by
      rw [h1, upto]
      exact List.mem_map.2 ⟨l.length - 1 - j, by simp; omega, by omega⟩
    obtain ⟨q, hq, e⟩ := List.mem_map.1 hm
    have := hp q hq
    rw [e] at this
    exact this

def lastPtr (B k : Nat) (p : Slot4 → Bool) (l : List Slot4) : Option Addr := (lastF p l).map fun i => ⟨B, k * 37 + i * 4, none⟩

set_option maxRecDepth 100000 in
set_option maxHeartbeats 2000000 in
theorem last_any (B k : Nat) (hk : k < 10) (l : List Slot4) (f : Nat) (cap : Array Value) (p : Slot4 → Bool) (w : World) (hrow : RowAt w B (k * 37) l) (hask : Asks f cap p w)
    (ef : ∀ args w, (callFunc f args).run Tryz.prog w = .ok (.enter f args) w) :
    Calls Tryz.prog 175 #[.pointer (some ⟨B, 0, none⟩), .int .i64 (k : Int), .func (.func f) #[] cap] w fun e w' => e = .returned (.pointer (lastPtr B k p l)) ∧ Below w.heap.size w w' := by
  have hB : B < w.heap.size := World.block_lt_of_cell? w _ hrow.many
  have hk' : (k : Int) < 10 := by omega
  have hmx : Tryz.prog.follows .mixedOrders = true := by kernel_rfl
  refine (callsIn_wide (n := 5)).1 ?_
  refine callsIn_of_wp_marks Tryz.func175 rfl trivial (wpIn_noPanic ?_) rfl
  simp only [Tryz.ntmps175, List.size_toArray, List.length_cons, List.length_nil, Nat.reduceAdd, Nat.reduceSub, Array.replicate_succ, Array.replicate_zero, List.push_toArray, List.append_toArray, List.nil_append, List.cons_append]
  gi_wp2_with (refine ⟨trivial, ?_⟩; gi_at_call 185; refine (callsIn_wide.2 (key_in k hk _)).mono ?_; rintro e w' ⟨rfl, rfl⟩)
  have hB0 : Below w.heap.size w ((((w.alloc (.cells #[.pointer (some ⟨B, 0, none⟩)] 210)).alloc (.cells #[.int .i64 (k : Int)] 3)).alloc (.cells #[.func (.func f) #[] cap] 234)).alloc (.cells #[.pointer none] 232)) :=
    ((((Below.refl _ w).alloc (Nat.le_refl _) _).alloc (by simp) _).alloc (by simp; omega) _).alloc (by simp; omega) _
  obtain ⟨W0, e0⟩ : ∃ W0, W0 = ((((w.alloc (.cells #[.pointer (some ⟨B, 0, none⟩)] 210)).alloc (.cells #[.int .i64 (k : Int)] 3)).alloc (.cells #[.func (.func f) #[] cap] 234)).alloc (.cells #[.pointer none] 232)) := ⟨_, rfl⟩
  rw [← e0] at hB0 ⊢
  have hsz : W0.heap.size = w.heap.size + 4 := by rw [e0]; simp
  have b0 : W0.cell? ⟨w.heap.size, 0, none⟩ = some (.pointer (some ⟨B, 0, none⟩)) := by rw [e0]; go_simp
  have b1 : W0.cell? ⟨w.heap.size + 1, 0, none⟩ = some (.int .i64 (k : Int)) := by rw [e0]; go_simp
  have b2 : W0.cell? ⟨w.heap.size + 1 + 1, 0, none⟩ = some (.func (.func f) #[] cap) := by rw [e0]; go_simp
  have b3 : W0.cell? ⟨w.heap.size + 1 + 1 + 1, 0, none⟩ = some (.pointer none) := by rw [e0]; go_simp
  have b4 : W0.frozen? ⟨w.heap.size + 1 + 1 + 1, 0, none⟩ = false := by rw [e0]; go_simp
  clear e0
  have hrow0 := hrow.later hB0
  rename_i K hK
  refine (?_ : _ → _) (hK { tmps := #[.pointer (some ⟨B, 0, none⟩), .int .i64 (k : Int), .func (.func f) #[] cap, .pointer (some ⟨w.heap.size, 0, none⟩), .pointer (some ⟨w.heap.size + 1, 0, none⟩), .pointer (some ⟨w.heap.size + 1 + 1, 0, none⟩), .pointer (some ⟨w.heap.size + 1 + 1 + 1, 0, none⟩), undef, undef, .int .i64 (k : Int), .bool true, .bool false, .pointer (some ⟨B, 0, none⟩), .int .i64 (k : Int), .pointer (some ⟨B, 0, none⟩), .pointer (some ⟨B, 0, none⟩), .pointer (some ⟨B, k * 37, none⟩), .slice (some ⟨B, k * 37, none⟩) l.length 9, .func (.func 192) #[] #[.pointer (some ⟨w.heap.size + 4, 0, none⟩)], undef, undef, undef, undef, undef, undef, undef, undef, undef, undef, undef, undef, undef, undef, undef, undef], defers := [] } (W0.alloc (.cells #[.slice (some ⟨B, k * 37, none⟩) l.length 9] 258)).drew.drew ?_)
  · intro key
    refine wpIn_wide.2 ?_
    go_region_with (first | (go_at_call 187; refine (all_row B (k * 37) l _ (hrow0.later (Below.refl _ _).drew)).mono ?_; rintro e w' ⟨rfl, rfl⟩) | (go_at_call 186; refine (backward_any _ _ _ _ rfl _).mono ?_; rintro e w' ⟨rfl, rfl⟩))
    all_goals exact key
  · clear hK
    gi_wp2
    obtain ⟨W1, e1⟩ : ∃ W1, W1 = (W0.alloc (.cells #[.slice (some ⟨B, k * 37, none⟩) l.length 9] 258)).drew.drew := ⟨_, rfl⟩
    rw [← e1]
    have hB1 : Below w.heap.size w W1 := by rw [e1]; exact (hB0.alloc hB0.size _).drew.drew
    have hB01 : Below W0.heap.size W0 W1 := by rw [e1]; exact ((Below.refl _ _).alloc (Nat.le_refl _) _).drew.drew
    have hsz1 : W1.heap.size = w.heap.size + 5 := by rw [e1]; simp [hsz]
    have b5 : W1.cell? ⟨w.heap.size + 4, 0, none⟩ = some (.slice (some ⟨B, k * 37, none⟩) l.length 9) := by rw [e1, ← hsz]; go_simp
    clear e1
    replace b0 := cell_later hB01 b0
    replace b1 := cell_later hB01 b1
    replace b2 := cell_later hB01 b2
    replace b3 := cell_later hB01 b3
    replace b4 : W1.frozen? ⟨w.heap.size + 1 + 1 + 1, 0, none⟩ = false := (hB01.frozen (p := ⟨w.heap.size + 1 + 1 + 1, 0, none⟩) (by simp; omega)).trans b4
    have hrow1 := hrow.later hB1
    clear hB01 hrow0 hB0 hsz
    refine wpIn_rangeFunc_ownG rfl (by omega) (gf := 192) (lb := #[.pointer (some ⟨w.heap.size + 4, 0, none⟩)]) rfl trivial (enters_of Tryz.func192 (by kernel_rfl) rfl)
      (back_stops Fence.wide _ trivial rfl (by omega) (w.heap.size + 4) B (k * 37) l W1 b5 hrow1) belowK_t (belowK_b (Nat.le_refl _)) (Below.refl _ _) (fun _ => rfl)
      (fun pre W => (∀ q ∈ pre, p (slotAt l q.1) = false) ∧ Below W1.heap.size W1 W)
      (fun c pre W => (c = .ret ∧ ∃ ini last, pre = ini ++ [last] ∧ (∀ q ∈ ini, p (slotAt l q.1) = false) ∧ p (slotAt l last.1) = true ∧ W.cell? ⟨w.heap.size + 1 + 1 + 1, 0, none⟩ = some (.pointer (some ⟨B, k * 37 + last.1 * 4, none⟩))) ∧ Below w.heap.size w W)
      (OwnFrom.and (fun _ _ _ _ hs _ _ => hs) (ownFrom_below (Nat.le_refl _) (Nat.le_refl _)))
      (fun c => OwnFrom.and (Own.from (fun s A B row hs hg hr => by obtain ⟨hc, ini, last, e1, e2, e3, e4⟩ := hs; exact ⟨hc, ini, last, e1, e2, e3, cell_kept e4 hg hr⟩) _) (ownFrom_below (Nat.le_refl _) (by omega)))
      ⟨by simp, Below.refl _ _⟩
      (fun x => { tmps := #[.pointer (some ⟨B, 0, none⟩), .int .i64 (k : Int), .func (.func f) #[] cap, .pointer (some ⟨w.heap.size, 0, none⟩), .pointer (some ⟨w.heap.size + 1, 0, none⟩), .pointer (some ⟨w.heap.size + 1 + 1, 0, none⟩), .pointer (some ⟨w.heap.size + 1 + 1 + 1, 0, none⟩), .int .i64 (x.1 : Int), undef, .int .i64 (k : Int), .bool true, .bool false, .pointer (some ⟨B, 0, none⟩), .int .i64 (k : Int), .pointer (some ⟨B, 0, none⟩), .pointer (some ⟨B, 0, none⟩), .pointer (some ⟨B, k * 37, none⟩), .slice (some ⟨B, k * 37, none⟩) l.length 9, .func (.func 192) #[] #[.pointer (some ⟨w.heap.size + 4, 0, none⟩)], .int .i64 (x.1 : Int), .agg #[.int .i64 (slotAt l x.1).b, .bool (slotAt l x.1).op, .bool (slotAt l x.1).vo, .int .i64 (slotAt l x.1).n], undef, undef, undef, undef, undef, undef, undef, undef, undef, undef, undef, undef, undef, undef], defers := [] }) ?assign ?body ?done ?stop
    case assign =>
      intro l x W K hK
      gi_wp2
      exact hK
    case body =>
      rintro L pre ⟨x, hx⟩ W ⟨hp, hB⟩ _
      have hl9 := hrow1.len
      have hx9 : (x : Int) < 9 := by omega
      replace b0 := cell_later hB b0
      replace b1 := cell_later hB b1
      replace b2 := cell_later hB b2
      replace b3 := cell_later hB b3
      replace b4 : W.frozen? ⟨w.heap.size + 1 + 1 + 1, 0, none⟩ = false := (hB.frozen (p := ⟨w.heap.size + 1 + 1 + 1, 0, none⟩) (by simp; omega)).trans b4
      obtain ⟨c0, c1, c2, c3⟩ := (hrow1.later hB).cell x hx
      gi_wp2
      rename_i K2 hK2
      refine (?_ : _ → _) (hK2 { tmps := #[.pointer (some ⟨B, 0, none⟩), .int .i64 (k : Int), .func (.func f) #[] cap, .pointer (some ⟨w.heap.size, 0, none⟩), .pointer (some ⟨w.heap.size + 1, 0, none⟩), .pointer (some ⟨w.heap.size + 1 + 1, 0, none⟩), .pointer (some ⟨w.heap.size + 1 + 1 + 1, 0, none⟩), .int .i64 (x : Int), .pointer (some ⟨B, k * 37 + x * 4, none⟩), .int .i64 (k : Int), .bool true, .bool false, .pointer (some ⟨B, 0, none⟩), .int .i64 (k : Int), .pointer (some ⟨B, 0, none⟩), .pointer (some ⟨B, 0, none⟩), .pointer (some ⟨B, k * 37, none⟩), .slice (some ⟨B, k * 37, none⟩) l.length 9, .func (.func 192) #[] #[.pointer (some ⟨w.heap.size + 4, 0, none⟩)], .int .i64 (x : Int), .agg #[.int .i64 (slotAt l x).b, .bool (slotAt l x).op, .bool (slotAt l x).vo, .int .i64 (slotAt l x).n], .pointer (some ⟨B, 0, none⟩), .int .i64 (k : Int), .int .i64 (x : Int), .pointer (some ⟨B, 0, none⟩), .pointer (some ⟨B, 0, none⟩), .pointer (some ⟨B, k * 37, none⟩), .pointer (some ⟨B, k * 37, none⟩), .pointer (some ⟨B, k * 37 + x * 4, none⟩), undef, undef, undef, undef, undef, undef], defers := [] } W.drew ?_)
      · intro key
        gi_region_with_o (fail)
        all_goals exact key
      clear hK2
      gi_wp2
      rename_i K3 hK3
      refine (?_ : _ → _) (fun (w'' : World) (hb : Below W.heap.size W w'') => hK3 { tmps := #[.pointer (some ⟨B, 0, none⟩), .int .i64 (k : Int), .func (.func f) #[] cap, .pointer (some ⟨w.heap.size, 0, none⟩), .pointer (some ⟨w.heap.size + 1, 0, none⟩), .pointer (some ⟨w.heap.size + 1 + 1, 0, none⟩), .pointer (some ⟨w.heap.size + 1 + 1 + 1, 0, none⟩), .int .i64 (x : Int), .pointer (some ⟨B, k * 37 + x * 4, none⟩), .int .i64 (k : Int), .bool true, .bool false, .pointer (some ⟨B, 0, none⟩), .int .i64 (k : Int), .pointer (some ⟨B, 0, none⟩), .pointer (some ⟨B, 0, none⟩), .pointer (some ⟨B, k * 37, none⟩), .slice (some ⟨B, k * 37, none⟩) l.length 9, .func (.func 192) #[] #[.pointer (some ⟨w.heap.size + 4, 0, none⟩)], .int .i64 (x : Int), .agg #[.int .i64 (slotAt l x).b, .bool (slotAt l x).op, .bool (slotAt l x).vo, .int .i64 (slotAt l x).n], .pointer (some ⟨B, 0, none⟩), .int .i64 (k : Int), .int .i64 (x : Int), .pointer (some ⟨B, 0, none⟩), .pointer (some ⟨B, 0, none⟩), .pointer (some ⟨B, k * 37, none⟩), .pointer (some ⟨B, k * 37, none⟩), .pointer (some ⟨B, k * 37 + x * 4, none⟩), .func (.func f) #[] cap, .pointer (some ⟨B, k * 37 + x * 4, none⟩), .pointer (some ⟨B, k * 37 + x * 4, none⟩), .agg #[.int .i64 (slotAt l x).b, .bool (slotAt l x).op, .bool (slotAt l x).vo, .int .i64 (slotAt l x).n], .bool (p (slotAt l x)), undef], defers := [] } w'' ?_)
      · intro key
        gi_region_with_o (refine ⟨trivial, ?_⟩; gi_at_fn f; refine (CallsIn.inRound L (callsIn_wide.2 (hask (slotAt l x) _ (hB1.trans ((hB.drew.drew).mono hB1.size))))).mono ?_; rintro e w' ⟨rfl, hbw⟩)
        all_goals exact key _ ((Below.refl _ _).drew.drew.trans hbw)
      clear hK3
      have hBx : Below W1.heap.size W1 w'' := hB.trans (hb.mono hB.size)
      have hBw : Below w.heap.size w w'' := hB1.trans (hBx.mono hB1.size)
      replace b3 := cell_later hb b3
      replace b4 : w''.frozen? ⟨w.heap.size + 1 + 1 + 1, 0, none⟩ = false := (hb.frozen (p := ⟨w.heap.size + 1 + 1 + 1, 0, none⟩) (by have := hB.size; simp; omega)).trans b4
      clear b0 b1 b2 c0 c1 c2 c3
      cases hpx : p (slotAt l x)
      · gi_wp2
        exact ⟨KeepsFrom.of_below hb, hb.mono hB.size, fun q hq => by
          rcases List.mem_append.1 hq with hq | hq
          · exact hp q hq
          · simp at hq; subst hq; exact hpx, hBx⟩
      · gi_wp2
        exact ⟨(KeepsFrom.of_below hb).trans ((KeepsOthers.setCell _ _ _).from _), ⟨rfl, pre, ⟨x, hx⟩, rfl, hp, hpx, World.cell?_setCell_same' _ _ _ (by rw [b3]; rfl)⟩, hBw.setCell (p := ⟨w.heap.size + 1 + 1 + 1, 0, none⟩) (by simp; omega) _⟩
    case done =>
      rintro D ys W hD hS ⟨hp, hB⟩ hK'
      have hBw : Below w.heap.size w W := hB1.trans (hB.mono hB1.size)
      replace b3 := cell_later hB b3
      replace b4 : W.frozen? ⟨w.heap.size + 1 + 1 + 1, 0, none⟩ = false := (hB.frozen (p := ⟨w.heap.size + 1 + 1 + 1, 0, none⟩) (by simp; omega)).trans b4
      have hlast := lastF_back_none hS hp
      clear b0 b1 b2 b5
      gi_wp2
      have hK5 := (KeepsOthers.setCell W ⟨w.heap.size + 1 + 1 + 1, 0, none⟩ (.pointer none)).same D _ hK' rfl
      have hc5 := cell_kept (World.cell?_setCell_same' W ⟨w.heap.size + 1 + 1 + 1, 0, none⟩ (.pointer none) (by rw [b3]; rfl)) (grownBy_putObj' _ D (.deferred none)) (fun r e => by cases e; exact ⟨_, hK5, rfl⟩)
      simp only [noPanic, bodyPostM]
      refine ⟨by simp, .inl ⟨_, _, rfl, run_takeDeferred hK5, ?_⟩⟩
      refine ⟨.pointer none, ?_, by rw [lastPtr, hlast]; rfl, (hBw.setCell (p := ⟨w.heap.size + 1 + 1 + 1, 0, none⟩) (by simp; omega) _).trans (belowK_b (w := w) (Nat.le_refl _) _ D _ _ (by omega) hK5 rfl rfl)⟩
      simp [results, Tryz.results175, go_sem, hc5]
    case stop =>
      rintro D c pre W hD ⟨k', hk', hS⟩ ⟨⟨rfl, ini, last, rfl, hp, hl, hcr⟩, hBw⟩ hK'
      have hlast := lastF_back_some hS hp hl
      gi_wp2
      have hc5 := cell_kept hcr (grownBy_putObj' _ D (.deferred none)) (fun r e => by cases e; exact ⟨_, hK', rfl⟩)
      simp only [noPanic, bodyPostM]
      refine ⟨by simp, .inl ⟨_, _, rfl, run_takeDeferred hK', ?_⟩⟩
      refine ⟨.pointer (some ⟨B, k * 37 + last.1 * 4, none⟩), ?_, by rw [lastPtr, hlast]; rfl, hBw.trans (belowK_b (w := w) (Nat.le_refl _) W D _ _ (by omega) hK' rfl rfl)⟩
      simp [results, Tryz.results175, go_sem, hc5]
end Go.Proofs.YtehkjbpgibdgpadGreatDoor
