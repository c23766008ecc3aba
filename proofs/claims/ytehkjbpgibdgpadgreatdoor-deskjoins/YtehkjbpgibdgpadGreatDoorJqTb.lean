/-
  A table as it lies in memory; the walks of last where there is no such key, settle, Set, Void, Before. The walks of Over and State. The walks of code.Keys and of a row's add. The walk of code.Keys. The walk of table.New.
-/
import Derived.Test.YtehkjbpgibdgpadGreatDoorJqTa
import Derived.Maps.AppendAt
namespace Go.Proofs.YtehkjbpgibdgpadGreatDoor
open Go.RowKit Go.Shelf

structure TabAt (w : World) (B : Nat) (T : Nat → List Slot4) : Prop where
  row : ∀ k, k < 10 → RowAt w B (k * 37) (T k)
  free : ∀ o, w.frozen? ⟨B, o, none⟩ = false

theorem TabAt.lt {w : World} {B : Nat} {T : Nat → List Slot4} (h : TabAt w B T) : B < w.heap.size := World.block_lt_of_cell? w _ (h.row 0 (by omega)).many
theorem TabAt.later {w w' : World} {B : Nat} {T : Nat → List Slot4} (h : TabAt w B T) (hb : Below w.heap.size w w') : TabAt w' B T :=
  ⟨fun k hk => (h.row k hk).later hb, fun o => by rw [hb.frozen (p := ⟨B, o, none⟩) h.lt]; exact h.free o⟩

/-- A slot is laid at a place. -/
def put4 (w : World) (B off : Nat) (s : Slot4) : World :=
  (((w.setCell ⟨B, off, none⟩ (.int .i64 s.b)).setCell ⟨B, off + 1, none⟩ (.bool s.op)).setCell ⟨B, off + 2, none⟩ (.bool s.vo)).setCell ⟨B, off + 3, none⟩ (.int .i64 s.n)

theorem put4_other (w : World) (B off : Nat) (s : Slot4) (o : Nat) (h : o < off ∨ off + 4 ≤ o) : (put4 w B off s).cell? ⟨B, o, none⟩ = w.cell? ⟨B, o, none⟩ := by
  unfold put4
  rw [World.cell?_setCell_other _ _ _ _ (fun h => by simp only [Addr.mk.injEq] at h; omega), World.cell?_setCell_other _ _ _ _ (fun h => by simp only [Addr.mk.injEq] at h; omega),
    World.cell?_setCell_other _ _ _ _ (fun h => by simp only [Addr.mk.injEq] at h; omega), World.cell?_setCell_other _ _ _ _ (fun h => by simp only [Addr.mk.injEq] at h; omega)]
theorem put4_same (w : World) (B off : Nat) (s : Slot4) (h0 : (w.cell? ⟨B, off, none⟩).isSome) (h1 : (w.cell? ⟨B, off + 1, none⟩).isSome) (h2 : (w.cell? ⟨B, off + 2, none⟩).isSome) (h3 : (w.cell? ⟨B, off + 3, none⟩).isSome) :
    (put4 w B off s).cell? ⟨B, off, none⟩ = some (.int .i64 s.b) ∧ (put4 w B off s).cell? ⟨B, off + 1, none⟩ = some (.bool s.op) ∧ (put4 w B off s).cell? ⟨B, off + 2, none⟩ = some (.bool s.vo) ∧ (put4 w B off s).cell? ⟨B, off + 3, none⟩ = some (.int .i64 s.n) := by
  unfold put4
  refine ⟨?_, ?_, ?_, ?_⟩
  · rw [World.cell?_setCell_other _ _ _ _ (fun h => by simp only [Addr.mk.injEq] at h; omega), World.cell?_setCell_other _ _ _ _ (fun h => by simp only [Addr.mk.injEq] at h; omega),
      World.cell?_setCell_other _ _ _ _ (fun h => by simp only [Addr.mk.injEq] at h; omega)]
    exact World.cell?_setCell_same' _ _ _ h0
  · rw [World.cell?_setCell_other _ _ _ _ (fun h => by simp only [Addr.mk.injEq] at h; omega), World.cell?_setCell_other _ _ _ _ (fun h => by simp only [Addr.mk.injEq] at h; omega)]
    exact World.cell?_setCell_same' _ _ _ (by rw [World.cell?_setCell_other _ _ _ _ (fun h => by simp only [Addr.mk.injEq] at h; omega)]; exact h1)
  · rw [World.cell?_setCell_other _ _ _ _ (fun h => by simp only [Addr.mk.injEq] at h; omega)]
    exact World.cell?_setCell_same' _ _ _ (by rw [World.cell?_setCell_other _ _ _ _ (fun h => by simp only [Addr.mk.injEq] at h; omega), World.cell?_setCell_other _ _ _ _ (fun h => by simp only [Addr.mk.injEq] at h; omega)]; exact h2)
  · exact World.cell?_setCell_same' _ _ _ (by rw [World.cell?_setCell_other _ _ _ _ (fun h => by simp only [Addr.mk.injEq] at h; omega), World.cell?_setCell_other _ _ _ _ (fun h => by simp only [Addr.mk.injEq] at h; omega), World.cell?_setCell_other _ _ _ _ (fun h => by simp only [Addr.mk.injEq] at h; omega)]; exact h3)
theorem put4_frozen (w : World) (B off : Nat) (s : Slot4) (a : Addr) : (put4 w B off s).frozen? a = w.frozen? a := by
  unfold put4; simp only [World.frozen?_setCell]
theorem grown_setCell (w : World) (a : Addr) (u : Value) : w.grownBy (w.setCell a u) (some a.block) :=
  ⟨rfl, rfl, rfl, by simp [World.setCell], fun i _ h => Below.heap_setCell _ _ _ _ (fun e => h (by rw [e]))⟩
theorem grown_trans {a b c : World} {row : Option Nat} (h : a.grownBy b row) (k : b.grownBy c row) : a.grownBy c row :=
  ⟨k.os.trans h.os, k.tape.trans h.tape, k.output.trans h.output, Nat.le_trans h.size k.size, fun i hi hn => (k.block i (Nat.lt_of_lt_of_le hi h.size) hn).trans (h.block i hi hn)⟩
theorem put4_grown (w : World) (B off : Nat) (s : Slot4) : w.grownBy (put4 w B off s) (some B) :=
  grown_trans (grown_trans (grown_trans (grown_setCell w ⟨B, off, none⟩ _) (grown_setCell _ ⟨B, off + 1, none⟩ _)) (grown_setCell _ ⟨B, off + 2, none⟩ _)) (grown_setCell _ ⟨B, off + 3, none⟩ _)
theorem below_grown {w w' : World} (h : Below w.heap.size w w') (row : Option Nat) : w.grownBy w' row := ⟨h.os, h.tape, h.output, h.size, fun i hi _ => h.block i hi⟩

theorem RowAt.put {w : World} {B off : Nat} {l : List Slot4} (h : RowAt w B off l) {i : Nat} (hi : i < l.length) (x : Slot4) : RowAt (put4 w B (off + i * 4) x) B off (l.set i x) := by
  have hl := h.len
  refine ⟨by simp [hl], ?_, fun j hj => ?_⟩
  · rw [put4_other _ _ _ _ _ (by omega), List.length_set]; exact h.many
  · rw [List.length_set] at hj
    rw [slotAt_set hi]
    by_cases e : j = i
    · subst e
      obtain ⟨c0, c1, c2, c3⟩ := h.cell j hj
      rw [if_pos rfl]
      exact put4_same _ _ _ _ (by rw [c0]; rfl) (by rw [c1]; rfl) (by rw [c2]; rfl) (by rw [c3]; rfl)
    · rw [if_neg e, put4_other _ _ _ _ _ (by omega), put4_other _ _ _ _ _ (by omega), put4_other _ _ _ _ _ (by omega), put4_other _ _ _ _ _ (by omega)]
      exact h.cell j hj
theorem RowAt.far {w : World} {B off : Nat} {l : List Slot4} (h : RowAt w B off l) {o : Nat} (ho : o + 4 ≤ off ∨ off + 37 ≤ o) (x : Slot4) : RowAt (put4 w B o x) B off l := by
  have hl := h.len
  refine ⟨h.len, by rw [put4_other _ _ _ _ _ (by omega)]; exact h.many, fun j hj => ?_⟩
  rw [put4_other _ _ _ _ _ (by omega), put4_other _ _ _ _ _ (by omega), put4_other _ _ _ _ _ (by omega), put4_other _ _ _ _ _ (by omega)]
  exact h.cell j hj
theorem TabAt.put {w : World} {B : Nat} {T : Nat → List Slot4} (h : TabAt w B T) {k i : Nat} (hk : k < 10) (hi : i < (T k).length) (x : Slot4) : TabAt (put4 w B (k * 37 + i * 4) x) B (putT T k ((T k).set i x)) := by
  have hl := (h.row k hk).len
  refine ⟨fun j hj => ?_, fun o => by rw [put4_frozen]; exact h.free o⟩
  unfold putT
  by_cases e : j = k
  · subst e; rw [if_pos rfl]; exact (h.row j hj).put hi x
  · rw [if_neg e]; exact (h.row j hj).far (by omega) x
theorem TabAt.congr {w : World} {B : Nat} {T U : Nat → List Slot4} (h : TabAt w B T) (e : ∀ k, k < 10 → T k = U k) : TabAt w B U := ⟨fun k hk => by rw [← e k hk]; exact h.row k hk, h.free⟩

set_option maxHeartbeats 1000000 in
theorem last_out (B : Nat) (k : Int) (hk : k < 0 ∨ 10 ≤ k) (f : Nat) (cap : Array Value) (w : World) :
    Calls Tryz.prog 175 #[.pointer (some ⟨B, 0, none⟩), .int .i64 k, .func (.func f) #[] cap] w fun e w' => e = .returned (.pointer none) ∧ Below w.heap.size w w' := by
  go_enter Tryz.func175, Tryz.ntmps175
  go_wp2_with (go_at_call 185; refine (key_out k hk _).mono ?_; rintro e w' ⟨rfl, rfl⟩)
  exact bodyPost_ret (v := .pointer none) (by simp [results, Tryz.results175, go_sem]) rfl ⟨rfl, ((((Below.refl _ w).alloc (Nat.le_refl _) _).alloc (by simp) _).alloc (by simp; omega) _).alloc (by simp; omega) _⟩

theorem asks_enter67 : ∀ args w, (callFunc 199 args).run Tryz.prog w = .ok (.enter 199 args) w := enters_of Tryz.func199 (by kernel_rfl) rfl
theorem asks_enter55 : ∀ args w, (callFunc 198 args).run Tryz.prog w = .ok (.enter 198 args) w := enters_of Tryz.func198 (by kernel_rfl) rfl

theorem asks_enter57 : ∀ args w, (callFunc 176 args).run Tryz.prog w = .ok (.enter 176 args) w := enters_of Tryz.func176 (by kernel_rfl) rfl

set_option maxHeartbeats 1000000 in
theorem settle_out (B : Nat) (k : Int) (hk : k < 0 ∨ 10 ≤ k) (x : Slot4) (w : World) :
    Calls Tryz.prog 197 #[.pointer (some ⟨B, 0, none⟩), .int .i64 k, .agg #[.int .i64 x.b, .bool x.op, .bool x.vo, .int .i64 x.n]] w fun e w' => e = .returned (.bool false) ∧ Below w.heap.size w w' := by
  have hmf : ∀ (fn : Fn) (first cap : Array Value) (w : World), (Instr.makeFunc fn first cap).run Tryz.prog w = .ok (.func fn first cap) w := fun _ _ _ _ => rfl
  have hB0 : Below w.heap.size w (w.alloc (.cells #[.int .i64 x.b, .bool x.op, .bool x.vo, .int .i64 x.n] 231)) := (Below.refl _ _).alloc (Nat.le_refl _) _
  go_enter Tryz.func197, Tryz.ntmps197
  go_wp2_with (go_at_call 175; refine (last_out B k hk _ _ _).mono ?_; rintro e w' ⟨rfl, hb⟩)
  go_ret
  exact ⟨rfl, hB0.trans (hb.mono (by simp))⟩

theorem ret_bool' {a b : Bool} (h : a = b) : Ending.returned (.bool a) = .returned (.bool b) := by rw [h]

set_option maxHeartbeats 1000000 in
theorem settle_key (B k : Nat) (hk : k < 10) (T : Nat → List Slot4) (x : Slot4) (w : World) (h : TabAt w B T) :
    Calls Tryz.prog 197 #[.pointer (some ⟨B, 0, none⟩), .int .i64 (k : Int), .agg #[.int .i64 x.b, .bool x.op, .bool x.vo, .int .i64 x.n]] w fun e w' => e = .returned (.bool (toldF (T k) x.b)) ∧ TabAt w' B (putT T k (settleF (T k) x)) ∧ w.grownBy w' (some B) := by
  have hmf : ∀ (fn : Fn) (first cap : Array Value) (w : World), (Instr.makeFunc fn first cap).run Tryz.prog w = .ok (.func fn first cap) w := fun _ _ _ _ => rfl
  have hB0 : Below w.heap.size w (w.alloc (.cells #[.int .i64 x.b, .bool x.op, .bool x.vo, .int .i64 x.n] 231)) := (Below.refl _ _).alloc (Nat.le_refl _) _
  have q0 : (w.alloc (.cells #[.int .i64 x.b, .bool x.op, .bool x.vo, .int .i64 x.n] 231)).cell? ⟨w.heap.size, 0, none⟩ = some (.int .i64 x.b) := by go_simp
  have q1 : (w.alloc (.cells #[.int .i64 x.b, .bool x.op, .bool x.vo, .int .i64 x.n] 231)).cell? ⟨w.heap.size, 1, none⟩ = some (.bool x.op) := by go_simp
  have q2 : (w.alloc (.cells #[.int .i64 x.b, .bool x.op, .bool x.vo, .int .i64 x.n] 231)).cell? ⟨w.heap.size, 2, none⟩ = some (.bool x.vo) := by go_simp
  have q3 : (w.alloc (.cells #[.int .i64 x.b, .bool x.op, .bool x.vo, .int .i64 x.n] 231)).cell? ⟨w.heap.size, 3, none⟩ = some (.int .i64 x.n) := by go_simp
  have hlast := last_any B k hk (T k) 199 #[.pointer (some ⟨w.heap.size, 0, none⟩)] (openP x.b) _ ((h.row k hk).later hB0) (open_asks w.heap.size x.b _ q0) asks_enter67
  go_enter Tryz.func197, Tryz.ntmps197
  cases hl : lastF (openP x.b) (T k) with
  | none =>
    have hpt : lastPtr B k (openP x.b) (T k) = none := by rw [lastPtr, hl]; rfl
    have ht : Hid (toldF (T k) x.b = false) := by show _ = _; rw [toldF, hl]; rfl
    have hs : Hid (settleF (T k) x = T k) := by show _ = _; rw [settleF, hl]
    rw [hpt] at hlast
    clear hpt hl
    go_wp2_with (go_at_call 175; refine hlast.mono ?_; clear hlast; rintro e w' ⟨rfl, hb⟩)
    go_ret
    have hB1 : Below w.heap.size w w' := hB0.trans (hb.mono (by simp))
    refine ⟨ret_bool' ht.out.symm, (h.later hB1).congr fun j hj => ?_, below_grown hB1 _⟩
    unfold putT
    split
    · rename_i e; subst e; exact hs.out.symm
    · rfl
  | some i =>
    obtain ⟨hi, -, -⟩ := lastF_some.1 hl
    have hpt : lastPtr B k (openP x.b) (T k) = some ⟨B, k * 37 + i * 4, none⟩ := by rw [lastPtr, hl]; rfl
    have ht : Hid (toldF (T k) x.b = true) := by show _ = _; rw [toldF, hl]; rfl
    have hs : Hid (settleF (T k) x = (T k).set i x) := by show _ = _; rw [settleF, hl]
    rw [hpt] at hlast
    clear hpt hl
    go_wp2_with fail
    refine hlast.mono ?_
    clear hlast
    rintro e w' ⟨rfl, hb⟩
    have hB1 : Below w.heap.size w w' := hB0.trans (hb.mono (by simp))
    have hz : w.heap.size < w'.heap.size := by have := hb.size; simp at this; omega
    have h1 := h.later hB1
    have hfr := h1.free
    obtain ⟨c0, c1, c2, c3⟩ := (h1.row k hk).cell i hi
    replace q0 := cell_later hb q0
    replace q1 := cell_later hb q1
    replace q2 := cell_later hb q2
    replace q3 := cell_later hb q3
    clear hB0 hb
    go_wp2_with fail
    go_ret
    refine ⟨ret_bool' ht.out.symm, ?_, grown_trans (below_grown hB1 _) (put4_grown w' B (k * 37 + i * 4) x)⟩
    rw [hs.out]
    exact h1.put hk hi x

theorem settle_any (B : Nat) (k : Int) (T : Nat → List Slot4) (x : Slot4) (w : World) (h : TabAt w B T) :
    Calls Tryz.prog 197 #[.pointer (some ⟨B, 0, none⟩), .int .i64 k, .agg #[.int .i64 x.b, .bool x.op, .bool x.vo, .int .i64 x.n]] w fun e w' => e = .returned (.bool (toldT T k x.b)) ∧ TabAt w' B (settleT T k x) ∧ w.grownBy w' (some B) := by
  unfold settleT toldT
  by_cases hk : 0 ≤ k ∧ k < 10
  · obtain ⟨m, rfl⟩ : ∃ m : Nat, k = (m : Int) := ⟨k.toNat, by omega⟩
    rw [if_pos hk, if_pos hk, Int.toNat_natCast]
    exact settle_key B m (by omega) T x w h
  · rw [if_neg hk, if_neg hk]
    refine (settle_out B k (by omega) x w).mono ?_
    rintro e w' ⟨rfl, hb⟩
    exact ⟨rfl, h.later hb, below_grown hb _⟩

set_option maxHeartbeats 1000000 in
theorem set_any (B : Nat) (k b n : Int) (T : Nat → List Slot4) (w : World) (h : TabAt w B T) :
    Calls Tryz.prog 194 #[.pointer (some ⟨B, 0, none⟩), .int .i64 k, .int .i64 b, .int .i64 n] w fun e w' => e = .returned (.bool (toldT T k b)) ∧ TabAt w' B (settleT T k ⟨b, false, false, n⟩) ∧ w.grownBy w' (some B) := by
  have hs := settle_any B k T ⟨b, false, false, n⟩ w h
  dsimp only at hs
  go_enter Tryz.func194, Tryz.ntmps194
  go_wp2_with fail
  refine hs.mono ?_
  rintro e w' ⟨rfl, h1, h2⟩
  clear hs
  go_wp2_with fail
  go_ret
  exact ⟨rfl, h1, h2⟩

set_option maxHeartbeats 1000000 in
theorem void_any (B : Nat) (k b : Int) (T : Nat → List Slot4) (w : World) (h : TabAt w B T) :
    Calls Tryz.prog 195 #[.pointer (some ⟨B, 0, none⟩), .int .i64 k, .int .i64 b] w fun e w' => e = .returned (.bool (toldT T k b)) ∧ TabAt w' B (settleT T k ⟨b, false, true, 0⟩) ∧ w.grownBy w' (some B) := by
  have hs := settle_any B k T ⟨b, false, true, 0⟩ w h
  dsimp only at hs
  go_enter Tryz.func195, Tryz.ntmps195
  go_wp2_with fail
  refine hs.mono ?_
  rintro e w' ⟨rfl, h1, h2⟩
  clear hs
  go_wp2_with fail
  go_ret
  exact ⟨rfl, h1, h2⟩

theorem ret_two {a b : Int} {p : Int × Int} (h : p = (a, b)) : Ending.returned (.tuple #[.int .i64 a, .int .i64 b]) = .returned (.tuple #[.int .i64 p.1, .int .i64 p.2]) := by rw [h]

set_option maxHeartbeats 1000000 in
theorem before_out (B : Nat) (k b : Int) (hk : k < 0 ∨ 10 ≤ k) (w : World) :
    Calls Tryz.prog 196 #[.pointer (some ⟨B, 0, none⟩), .int .i64 k, .int .i64 b] w fun e w' => e = .returned (.tuple #[.int .i64 0, .int .i64 (-1)]) ∧ Below w.heap.size w w' := by
  have hmf : ∀ (fn : Fn) (first cap : Array Value) (w : World), (Instr.makeFunc fn first cap).run Tryz.prog w = .ok (.func fn first cap) w := fun _ _ _ _ => rfl
  have hB0 : Below w.heap.size w (w.alloc (.cells #[.int .i64 b] 3)) := (Below.refl _ _).alloc (Nat.le_refl _) _
  have hlast := last_out B k hk 198 #[.pointer (some ⟨w.heap.size, 0, none⟩)] (w.alloc (.cells #[.int .i64 b] 3))
  go_enter Tryz.func196, Tryz.ntmps196
  go_wp2_with fail
  refine hlast.mono ?_
  clear hlast
  rintro e w' ⟨rfl, hb⟩
  have hB1 : Below w.heap.size w w' := hB0.trans (hb.mono (by simp))
  clear hB0 hb
  go_wp2_with fail
  exact bodyPost_ret (v := .tuple #[.int .i64 0, .int .i64 (-1)]) (by simp [results, Tryz.results196, go_sem]) rfl ⟨rfl, hB1⟩

set_option maxHeartbeats 1000000 in
theorem before_key (B k : Nat) (hk : k < 10) (b : Int) (T : Nat → List Slot4) (w : World) (h : TabAt w B T) :
    Calls Tryz.prog 196 #[.pointer (some ⟨B, 0, none⟩), .int .i64 (k : Int), .int .i64 b] w fun e w' => e = .returned (.tuple #[.int .i64 (beforeF (T k) b).1, .int .i64 (beforeF (T k) b).2]) ∧ Below w.heap.size w w' := by
  have hmf : ∀ (fn : Fn) (first cap : Array Value) (w : World), (Instr.makeFunc fn first cap).run Tryz.prog w = .ok (.func fn first cap) w := fun _ _ _ _ => rfl
  have hB0 : Below w.heap.size w (w.alloc (.cells #[.int .i64 b] 3)) := (Below.refl _ _).alloc (Nat.le_refl _) _
  have q0 : (w.alloc (.cells #[.int .i64 b] 3)).cell? ⟨w.heap.size, 0, none⟩ = some (.int .i64 b) := by go_simp
  have hlast := last_any B k hk (T k) 198 #[.pointer (some ⟨w.heap.size, 0, none⟩)] (aheadP b) _ ((h.row k hk).later hB0) (ahead_asks w.heap.size b _ q0) asks_enter55
  clear q0
  cases hl : lastF (aheadP b) (T k) with
  | none =>
    have hpt : lastPtr B k (aheadP b) (T k) = none := by rw [lastPtr, hl]; rfl
    have hf : Hid (beforeF (T k) b = (0, -1)) := by show _ = _; rw [beforeF, hl]
    rw [hpt] at hlast
    clear hpt hl
    go_enter Tryz.func196, Tryz.ntmps196
    go_wp2_with fail
    refine hlast.mono ?_
    clear hlast
    rintro e w' ⟨rfl, hb⟩
    have hB1 : Below w.heap.size w w' := hB0.trans (hb.mono (by simp))
    clear hB0 hb
    go_wp2_with fail
    exact bodyPost_ret (v := .tuple #[.int .i64 0, .int .i64 (-1)]) (by simp [results, Tryz.results196, go_sem]) rfl ⟨ret_two hf.out, hB1⟩
  | some i =>
    obtain ⟨hi, -, -⟩ := lastF_some.1 hl
    have hpt : lastPtr B k (aheadP b) (T k) = some ⟨B, k * 37 + i * 4, none⟩ := by rw [lastPtr, hl]; rfl
    rw [hpt] at hlast
    clear hpt
    cases ho : (slotAt (T k) i).op with
    | true =>
      have hf : Hid (beforeF (T k) b = (0, (slotAt (T k) i).b)) := by show _ = _; rw [beforeF, hl]; simp [ho]
      clear hl
      go_enter Tryz.func196, Tryz.ntmps196
      go_wp2_with fail
      refine hlast.mono ?_
      clear hlast
      rintro e w' ⟨rfl, hb⟩
      have hB1 : Below w.heap.size w w' := hB0.trans (hb.mono (by simp))
      obtain ⟨c0, c1, c2, c3⟩ := ((h.row k hk).later hB1).cell i hi
      rw [ho] at c1
      clear hB0 hb ho
      go_wp2_with fail
      go_quiet (fail)
      go_wp2_with fail
      exact bodyPost_ret (v := .tuple #[.int .i64 0, .int .i64 (slotAt (T k) i).b]) (by simp [results, Tryz.results196, go_sem]) rfl ⟨ret_two hf.out, drewN_below hB1 _⟩
    | false =>
      have hf : Hid (beforeF (T k) b = ((slotAt (T k) i).n, -1)) := by show _ = _; rw [beforeF, hl]; simp [ho]
      clear hl
      go_enter Tryz.func196, Tryz.ntmps196
      go_wp2_with fail
      refine hlast.mono ?_
      clear hlast
      rintro e w' ⟨rfl, hb⟩
      have hB1 : Below w.heap.size w w' := hB0.trans (hb.mono (by simp))
      obtain ⟨c0, c1, c2, c3⟩ := ((h.row k hk).later hB1).cell i hi
      rw [ho] at c1
      clear hB0 hb ho
      go_wp2_with fail
      exact bodyPost_ret (v := .tuple #[.int .i64 (slotAt (T k) i).n, .int .i64 (-1)]) (by simp [results, Tryz.results196, go_sem]) rfl ⟨ret_two hf.out, hB1⟩

theorem before_any (B : Nat) (k b : Int) (T : Nat → List Slot4) (w : World) (h : TabAt w B T) :
    Calls Tryz.prog 196 #[.pointer (some ⟨B, 0, none⟩), .int .i64 k, .int .i64 b] w fun e w' => e = .returned (.tuple #[.int .i64 (beforeT T k b).1, .int .i64 (beforeT T k b).2]) ∧ Below w.heap.size w w' := by
  unfold beforeT
  by_cases hk : 0 ≤ k ∧ k < 10
  · obtain ⟨m, rfl⟩ : ∃ m : Nat, k = (m : Int) := ⟨k.toNat, by omega⟩
    rw [if_pos hk, Int.toNat_natCast]
    exact before_key B m (by omega) b T w h
  · rw [if_neg hk]
    exact before_out B k b (by omega) w
end Go.Proofs.YtehkjbpgibdgpadGreatDoor
namespace Go.Proofs.YtehkjbpgibdgpadGreatDoor
open Go.RowKit Go.Shelf

/-- Is no slot open? -/
def overF (T : Nat → List Slot4) : Bool := (List.range 10).all fun k => (T k).all fun s => !s.op
theorem overF_true {T : Nat → List Slot4} : overF T = true ↔ ∀ k, k < 10 → lastF stillP (T k) = none := by
  unfold overF
  rw [List.all_eq_true]
  constructor
  · intro h k hk
    rw [lastF_none]
    intro s hs
    have := List.all_eq_true.1 (h k (by simpa using hk)) s hs
    simpa [stillP] using this
  · intro h k hk
    rw [List.all_eq_true]
    intro s hs
    have := lastF_none.1 (h k (by simpa using hk)) s hs
    simpa [stillP] using this



/-- What the last known slot has. -/
def valF (l : List Slot4) : Int := match lastF knownP l with | none => 0 | some i => (slotAt l i).n

theorem below_ten {B : Nat} {w W : World} (h : Below B w W) {b : Nat} (h1 : B ≤ b) (x0 x1 x2 x3 x4 x5 x6 x7 x8 x9 : Value) : Below B w ((((((((((W.setCell ⟨b, 0, none⟩ x0).setCell ⟨b, 1, none⟩ x1).setCell ⟨b, 2, none⟩ x2).setCell ⟨b, 3, none⟩ x3).setCell ⟨b, 4, none⟩ x4).setCell ⟨b, 5, none⟩ x5).setCell ⟨b, 6, none⟩ x6).setCell ⟨b, 7, none⟩ x7).setCell ⟨b, 8, none⟩ x8).setCell ⟨b, 9, none⟩ x9) :=
  (((((((((h.setCell (p := ⟨b, 0, none⟩) h1 x0).setCell (p := ⟨b, 1, none⟩) h1 x1).setCell (p := ⟨b, 2, none⟩) h1 x2).setCell (p := ⟨b, 3, none⟩) h1 x3).setCell (p := ⟨b, 4, none⟩) h1 x4).setCell (p := ⟨b, 5, none⟩) h1 x5).setCell (p := ⟨b, 6, none⟩) h1 x6).setCell (p := ⟨b, 7, none⟩) h1 x7).setCell (p := ⟨b, 8, none⟩) h1 x8).setCell (p := ⟨b, 9, none⟩) h1 x9
theorem box_zero (w : World) : Box (w.alloc (.cells #[.int .i64 0, .int .i64 0, .int .i64 0, .int .i64 0, .int .i64 0, .int .i64 0, .int .i64 0, .int .i64 0, .int .i64 0, .int .i64 0] 32)) w.heap.size (fun _ => 0) := box_new w (fun _ => 0)

theorem ret_st {s t : Nat → Int} (h : ∀ i, i < 10 → s i = t i) : Ending.returned (stV s) = .returned (stV t) := by
  unfold stV
  rw [h 0 (by omega), h 1 (by omega), h 2 (by omega), h 3 (by omega), h 4 (by omega), h 5 (by omega), h 6 (by omega), h 7 (by omega), h 8 (by omega), h 9 (by omega)]

set_option maxHeartbeats 1000000 in
theorem state_any (B : Nat) (T : Nat → List Slot4) (w : World) (h : TabAt w B T) (hk : ∀ k, k < 10 → lastF knownP (T k) ≠ none) :
    Calls Tryz.prog 161 #[.pointer (some ⟨B, 0, none⟩)] w fun e w' => e = .returned (stV (fun k => valF (T k))) ∧ Below w.heap.size w w' := by
  have HK : Hid (∀ k, k < 10 → lastF knownP (T k) ≠ none) := hk
  clear hk
  go_enter Tryz.func161, Tryz.ntmps161
  go_wp2_with fail
  obtain ⟨W0, e0⟩ : ∃ W0, W0 = ((w.alloc (.cells #[.int .i64 0, .int .i64 0, .int .i64 0, .int .i64 0, .int .i64 0, .int .i64 0, .int .i64 0, .int .i64 0, .int .i64 0, .int .i64 0] 32)).alloc (.cells #[.int .i64 0, .int .i64 0, .int .i64 0, .int .i64 0, .int .i64 0, .int .i64 0, .int .i64 0, .int .i64 0, .int .i64 0, .int .i64 0] 32)) := ⟨_, rfl⟩
  rw [← e0]
  have hB0 : Below w.heap.size w W0 := by rw [e0]; exact ((Below.refl _ _).alloc (Nat.le_refl _) _).alloc (by simp) _
  have hsz : W0.heap.size = w.heap.size + 2 := by rw [e0]; simp
  have hX0 : Box W0 w.heap.size (fun _ => 0) := by rw [e0]; exact (box_zero w).later ((Below.refl _ _).alloc (Nat.le_refl _) _)
  have hY0 : Box W0 (w.heap.size + 1) (fun _ => 0) := by rw [e0]; have := box_zero (w.alloc (.cells #[.int .i64 0, .int .i64 0, .int .i64 0, .int .i64 0, .int .i64 0, .int .i64 0, .int .i64 0, .int .i64 0, .int .i64 0, .int .i64 0] 32)); rw [World.size_alloc] at this; exact this
  have hf0 : ∀ o, W0.frozen? ⟨w.heap.size, o, none⟩ = false := fun o => by rw [e0]; go_simp
  have hf1 : ∀ o, W0.frozen? ⟨w.heap.size + 1, o, none⟩ = false := fun o => by rw [e0]; go_simp
  clear e0
  go_loopg [5] 10 (fun g i wr => ∃ j : Nat, j ≤ 10 ∧ g = 10 - j ∧ i = .int .i64 j ∧ (∃ s : Nat → Int, Box wr (w.heap.size + 1) s ∧ Hid (∀ k, k < j → s k = valF (T k))) ∧ (∀ o, wr.frozen? ⟨w.heap.size + 1, o, none⟩ = false) ∧ Below (w.heap.size + 1) W0 wr)
  case atStart => exact ⟨0, by omega, by omega, rfl, ⟨_, hY0, fun k hk => by omega⟩, hf1, Below.refl _ _⟩
  case round =>
    obtain ⟨j, hj, hg, rfl, ⟨s, hs, hF⟩, hfr, hB⟩ := hrel
    have hBw : Below w.heap.size w wr := hB0.trans (hB.mono (by omega))
    have hzw : w.heap.size + 1 < wr.heap.size := World.block_lt_of_cell? wr _ (hs 0 (by omega))
    by_cases hlt : j < 10
    · have hlast := last_any B j hlt (T j) 176 #[] knownP _ ((h.row j hlt).later hBw) (known_asks _) asks_enter57
      have p1 : (j : Int) < 10 := by omega
      cases hl : lastF knownP (T j) with
      | none => exact absurd hl (HK.out j hlt)
      | some i =>
        obtain ⟨hi, -, -⟩ := lastF_some.1 hl
        have hpt : lastPtr B j knownP (T j) = some ⟨B, j * 37 + i * 4, none⟩ := by rw [lastPtr, hl]; rfl
        rw [hpt] at hlast
        have hv : valF (T j) = (slotAt (T j) i).n := by rw [valF, hl]
        clear hpt hl
        go_wp2_with fail
        refine hlast.mono ?_
        clear hlast
        rintro e w' ⟨rfl, hb⟩
        have hB1 : Below (w.heap.size + 1) W0 w' := hB.trans (hb.mono (by omega))
        have hBw1 : Below w.heap.size w w' := hBw.trans (hb.mono hBw.size)
        obtain ⟨c0, c1, c2, c3⟩ := ((h.row j hlt).later hBw1).cell i hi
        have hs1 := hs.later hb
        have hcj := hs1 j hlt
        have hfr1 : ∀ o, w'.frozen? ⟨w.heap.size + 1, o, none⟩ = false := fun o => by rw [hb.frozen (p := ⟨w.heap.size + 1, o, none⟩) hzw]; exact hfr o
        have hF' : Hid (∀ k, k < j + 1 → putAt s j (slotAt (T j) i).n k = valF (T k)) := fun k hk => by
          unfold putAt
          split
          · rename_i e; rw [e, hv]
          · exact hF.out k (by omega)
        have hs2 := hs1.set hlt (slotAt (T j) i).n
        have HS2 : Hid (Box (w'.setCell ⟨w.heap.size + 1, j, none⟩ (.int .i64 (slotAt (T j) i).n)) (w.heap.size + 1) (putAt s j (slotAt (T j) i).n)) := hs2
        clear hB hb hfr hs hF hs1 hs2 hv
        go_wp2_with fail
        go_roundg (10 - (j + 1))
        case measure => omega
        case rel => exact ⟨j + 1, by omega, rfl, by go_num, ⟨_, HS2.out, hF'⟩, fun o => by rw [World.frozen?_setCell]; exact hfr1 o, hB1.setCell (p := ⟨w.heap.size + 1, j, none⟩) (by simp) _⟩
    · obtain rfl : j = 10 := by omega
      have hx : Box wr w.heap.size (fun _ => 0) := fun i hi => by rw [hB.cell (p := ⟨w.heap.size, i, none⟩) (by simp)]; exact hX0 i hi
      have hfx : ∀ o, wr.frozen? ⟨w.heap.size, o, none⟩ = false := fun o => by rw [hB.frozen (p := ⟨w.heap.size, o, none⟩) (by simp)]; exact hf0 o
      obtain ⟨k0, k1, k2, k3, k4, k5, k6, k7, k8, k9⟩ := hs.ten
      obtain ⟨y0, y1, y2, y3, y4, y5, y6, y7, y8, y9⟩ := hx.ten
      clear hX0 hY0 hf0 hf1 hB
      go_wp2_with fail
      exact bodyPost_ret (v := stV s) (by simp [results, Tryz.results161, go_sem, stV, y0, y1, y2, y3, y4, y5, y6, y7, y8, y9]) rfl ⟨ret_st fun i hi => hF.out i hi, below_ten hBw (Nat.le_refl _) _ _ _ _ _ _ _ _ _ _⟩
end Go.Proofs.YtehkjbpgibdgpadGreatDoor
namespace Go.Proofs.YtehkjbpgibdgpadGreatDoor
open Go.RowKit Go.Shelf

/-- All cells of a table. -/
def Room (w : World) (B : Nat) : Prop := ∀ o, o < 370 → (w.cell? ⟨B, o, none⟩).isSome
theorem Room.later {w w' : World} {B : Nat} (h : Room w B) (hb : Below w.heap.size w w') : Room w' B := fun o ho => by
  obtain ⟨v, hv⟩ := Option.isSome_iff_exists.1 (h o ho)
  rw [cell_later hb hv]; rfl
theorem Room.set {w : World} {B : Nat} (h : Room w B) (m : Nat) (u : Value) : Room (w.setCell ⟨B, m, none⟩ u) B := fun o ho => by
  by_cases e : o = m
  · subst e; rw [World.cell?_setCell_same' _ _ _ (h o ho)]; rfl
  · rw [World.cell?_setCell_other _ _ _ _ (fun h => by simp only [Addr.mk.injEq] at h; omega)]; exact h o ho
theorem Room.put {w : World} {B : Nat} (h : Room w B) (m : Nat) (x : Slot4) : Room (put4 w B m x) B := (((h.set _ _).set _ _).set _ _).set _ _

theorem slotAt_append (l : List Slot4) (x : Slot4) (j : Nat) (hj : j < l.length + 1) : slotAt (l ++ [x]) j = if j = l.length then x else slotAt l j := by
  unfold slotAt
  by_cases e : j = l.length
  · subst e; simp
  · rw [if_neg e, List.getElem?_append_left (by omega)]

theorem RowAt.add {w : World} {B off : Nat} {l : List Slot4} (h : RowAt w B off l) (hl : l.length < 9) (hr : ∀ o, o < 37 → (w.cell? ⟨B, off + o, none⟩).isSome) (x : Slot4) :
    RowAt ((put4 w B (off + l.length * 4) x).setCell ⟨B, off + 36, none⟩ (.int .i64 ((l.length : Int) + 1))) B off (l ++ [x]) := by
  have hlen : (l ++ [x]).length = l.length + 1 := by simp
  refine ⟨by omega, ?_, fun j hj => ?_⟩
  · rw [World.cell?_setCell_same' _ _ _ (by rw [put4_other _ _ _ _ _ (by omega), h.many]; rfl), hlen]; simp
  · rw [hlen] at hj
    rw [World.cell?_setCell_other _ _ _ _ (fun h => by simp only [Addr.mk.injEq] at h; omega), World.cell?_setCell_other _ _ _ _ (fun h => by simp only [Addr.mk.injEq] at h; omega),
      World.cell?_setCell_other _ _ _ _ (fun h => by simp only [Addr.mk.injEq] at h; omega), World.cell?_setCell_other _ _ _ _ (fun h => by simp only [Addr.mk.injEq] at h; omega)]
    rw [slotAt_append _ _ _ hj]
    by_cases e : j = l.length
    · subst e
      rw [if_pos rfl]
      exact put4_same _ _ _ _ (hr _ (by omega)) (by rw [Nat.add_assoc]; exact hr _ (by omega)) (by rw [Nat.add_assoc]; exact hr _ (by omega)) (by rw [Nat.add_assoc]; exact hr _ (by omega))
    · rw [if_neg e, put4_other _ _ _ _ _ (by omega), put4_other _ _ _ _ _ (by omega), put4_other _ _ _ _ _ (by omega), put4_other _ _ _ _ _ (by omega)]
      exact h.cell j (by omega)
theorem RowAt.far' {w : World} {B off : Nat} {l : List Slot4} (h : RowAt w B off l) {o : Nat} (ho : o < off ∨ off + 37 ≤ o) (u : Value) : RowAt (w.setCell ⟨B, o, none⟩ u) B off l := by
  have hl := h.len
  refine ⟨h.len, by rw [World.cell?_setCell_other _ _ _ _ (fun h => by simp only [Addr.mk.injEq] at h; omega)]; exact h.many, fun j hj => ?_⟩
  rw [World.cell?_setCell_other _ _ _ _ (fun h => by simp only [Addr.mk.injEq] at h; omega), World.cell?_setCell_other _ _ _ _ (fun h => by simp only [Addr.mk.injEq] at h; omega),
    World.cell?_setCell_other _ _ _ _ (fun h => by simp only [Addr.mk.injEq] at h; omega), World.cell?_setCell_other _ _ _ _ (fun h => by simp only [Addr.mk.injEq] at h; omega)]
  exact h.cell j hj
theorem RowAt.drew {w : World} {B off : Nat} {l : List Slot4} (h : RowAt w B off l) : RowAt w.drew B off l := ⟨h.len, h.many, h.cell⟩

theorem Room.drew {w : World} {B : Nat} (h : Room w B) : Room w.drew B := h
theorem grown_drew (w : World) (row : Option Nat) : w.grownBy w.drew row := ⟨rfl, rfl, rfl, Nat.le_refl _, fun _ _ _ => rfl⟩
theorem TabAt.drew {w : World} {B : Nat} {T : Nat → List Slot4} (h : TabAt w B T) : TabAt w.drew B T := ⟨fun k hk => (h.row k hk).drew, h.free⟩
theorem TabAt.add {w : World} {B : Nat} {T : Nat → List Slot4} (h : TabAt w B T) (hr : Room w B) {k : Nat} (hk : k < 10) (hl : (T k).length < 9) (x : Slot4) :
    TabAt ((put4 w B (k * 37 + (T k).length * 4) x).setCell ⟨B, k * 37 + 36, none⟩ (.int .i64 (((T k).length : Int) + 1))) B (putT T k (T k ++ [x])) := by
  refine ⟨fun j hj => ?_, fun o => by rw [World.frozen?_setCell, put4_frozen]; exact h.free o⟩
  unfold putT
  by_cases e : j = k
  · subst e; rw [if_pos rfl]; exact (h.row j hj).add hl (fun o ho => hr _ (by omega)) x
  · rw [if_neg e]; exact ((h.row j hj).far (by omega) x).far' (by omega) _

set_option maxHeartbeats 1000000 in
theorem add_tab (B k : Nat) (hk : k < 10) (T : Nat → List Slot4) (x : Slot4) (w : World) (h : TabAt w B T) (hr : Room w B) (hl : (T k).length < 9) :
    Calls Tryz.prog 180 #[.pointer (some ⟨B, k * 37, none⟩), .agg #[.int .i64 x.b, .bool x.op, .bool x.vo, .int .i64 x.n]] w fun e w' => (∃ v, e = .returned v) ∧ TabAt w' B (putT T k (T k ++ [x])) ∧ Room w' B ∧ w.grownBy w' (some B) := by
  have hB : B < w.heap.size := h.lt
  have hB0 : Below w.heap.size w (w.alloc (.cells #[.int .i64 x.b, .bool x.op, .bool x.vo, .int .i64 x.n] 231)) := (Below.refl _ _).alloc (Nat.le_refl _) _
  have p1 : ((T k).length : Int) < 9 := by omega
  have h0 := h.later hB0
  have hr0 := hr.later hB0
  have hadd : Hid _ := h0.add hr0 hk hl x
  have hroom : Hid _ := ((hr0.put (k * 37 + (T k).length * 4) x)).set (k * 37 + 36) (.int .i64 (((T k).length : Int) + 1))
  have hgr : Hid _ := grown_trans (grown_trans (below_grown hB0 (some B)) (put4_grown _ B (k * 37 + (T k).length * 4) x)) (grown_setCell _ ⟨B, k * 37 + 36, none⟩ (.int .i64 (((T k).length : Int) + 1)))
  go_enter Tryz.func180, Tryz.ntmps180
  go_wp2_with fail
  obtain ⟨W0, e0⟩ : ∃ W0, W0 = w.alloc (.cells #[.int .i64 x.b, .bool x.op, .bool x.vo, .int .i64 x.n] 231) := ⟨_, rfl⟩
  have q0 : W0.cell? ⟨w.heap.size, 0, none⟩ = some (.int .i64 x.b) := by rw [e0]; go_simp
  have q1 : W0.cell? ⟨w.heap.size, 1, none⟩ = some (.bool x.op) := by rw [e0]; go_simp
  have q2 : W0.cell? ⟨w.heap.size, 2, none⟩ = some (.bool x.vo) := by rw [e0]; go_simp
  have q3 : W0.cell? ⟨w.heap.size, 3, none⟩ = some (.int .i64 x.n) := by rw [e0]; go_simp
  rw [← e0] at h0 hr0 hB0 hadd hroom hgr ⊢
  simp only [put4] at hadd hroom hgr
  clear e0
  have hm := (h0.row k hk).many
  obtain ⟨v0, c0⟩ := Option.isSome_iff_exists.1 (hr0 (k * 37 + (T k).length * 4) (by omega))
  obtain ⟨v1, c1⟩ := Option.isSome_iff_exists.1 (hr0 (k * 37 + (T k).length * 4 + 1) (by omega))
  obtain ⟨v2, c2⟩ := Option.isSome_iff_exists.1 (hr0 (k * 37 + (T k).length * 4 + 2) (by omega))
  obtain ⟨v3, c3⟩ := Option.isSome_iff_exists.1 (hr0 (k * 37 + (T k).length * 4 + 3) (by omega))
  have hfr := h0.free
  have hz : ¬ B = w.heap.size := by omega
  clear hB0 h hr h0 hr0
  go_region
  all_goals go_wp2_with fail
  all_goals go_end0
  all_goals exact ⟨⟨_, rfl⟩, hadd.out.drew, Room.drew hroom.out, grown_trans hgr.out (grown_drew _ _)⟩
end Go.Proofs.YtehkjbpgibdgpadGreatDoor
namespace Go.Proofs.YtehkjbpgibdgpadGreatDoor
open Go.RowKit Go.Shelf

theorem index_bool (b : Nat → Bool) (w : World) : ∀ j : Nat, j < 10 → (Instr.index 262 (.agg #[.bool (b 0), .bool (b 1), .bool (b 2), .bool (b 3), .bool (b 4), .bool (b 5), .bool (b 6), .bool (b 7), .bool (b 8), .bool (b 9)]) (.int .i64 (j : Int))).run Tryz.prog w = .ok (.bool (b j)) w
  | 0, _ => by kernel_rfl
  | 1, _ => by kernel_rfl
  | 2, _ => by kernel_rfl
  | 3, _ => by kernel_rfl
  | 4, _ => by kernel_rfl
  | 5, _ => by kernel_rfl
  | 6, _ => by kernel_rfl
  | 7, _ => by kernel_rfl
  | 8, _ => by kernel_rfl
  | 9, _ => by kernel_rfl
theorem index_int (b : Nat → Int) (w : World) : ∀ j : Nat, j < 10 → (Instr.index 32 (.agg #[.int .i64 (b 0), .int .i64 (b 1), .int .i64 (b 2), .int .i64 (b 3), .int .i64 (b 4), .int .i64 (b 5), .int .i64 (b 6), .int .i64 (b 7), .int .i64 (b 8), .int .i64 (b 9)]) (.int .i64 (j : Int))).run Tryz.prog w = .ok (.int .i64 (b j)) w
  | 0, _ => by kernel_rfl
  | 1, _ => by kernel_rfl
  | 2, _ => by kernel_rfl
  | 3, _ => by kernel_rfl
  | 4, _ => by kernel_rfl
  | 5, _ => by kernel_rfl
  | 6, _ => by kernel_rfl
  | 7, _ => by kernel_rfl
  | 8, _ => by kernel_rfl
  | 9, _ => by kernel_rfl
theorem frozen_alloc_lt {w : World} {a : Addr} (o : Obj) (h : a.block < w.heap.size) : (w.alloc o).frozen? a = w.frozen? a := ((Below.refl w.heap.size w).alloc (Nat.le_refl _) o).frozen h
theorem size_setCell (w : World) (a : Addr) (u : Value) : (w.setCell a u).heap.size = w.heap.size := by simp [World.setCell]

theorem info3 : (Tryz.prog.info? 3).map (fun i => (i.zero, i.size, i.bytes)) = some (some (.int .i64 0), 1, 8) := by kernel_rfl

/-- Ten bools in a block. -/
def Bits (w : World) (B : Nat) (b : Nat → Bool) : Prop := ∀ i, i < 10 → w.cell? ⟨B, i, none⟩ = some (.bool (b i))
theorem Bits.later {w w' : World} {B : Nat} {b : Nat → Bool} (h : Bits w B b) (hb : Below w.heap.size w w') : Bits w' B b := fun i hi => cell_later hb (h i hi)
theorem Bits.ten {w : World} {B : Nat} {s : Nat → Bool} (h : Bits w B s) : w.cell? ⟨B, 0, none⟩ = some (.bool (s 0)) ∧ w.cell? ⟨B, 1, none⟩ = some (.bool (s 1)) ∧ w.cell? ⟨B, 2, none⟩ = some (.bool (s 2)) ∧ w.cell? ⟨B, 3, none⟩ = some (.bool (s 3)) ∧ w.cell? ⟨B, 4, none⟩ = some (.bool (s 4)) ∧ w.cell? ⟨B, 5, none⟩ = some (.bool (s 5)) ∧ w.cell? ⟨B, 6, none⟩ = some (.bool (s 6)) ∧ w.cell? ⟨B, 7, none⟩ = some (.bool (s 7)) ∧ w.cell? ⟨B, 8, none⟩ = some (.bool (s 8)) ∧ w.cell? ⟨B, 9, none⟩ = some (.bool (s 9)) :=
  ⟨h 0 (by omega), h 1 (by omega), h 2 (by omega), h 3 (by omega), h 4 (by omega), h 5 (by omega), h 6 (by omega), h 7 (by omega), h 8 (by omega), h 9 (by omega)⟩
theorem Bits.set {w : World} {B : Nat} {s : Nat → Bool} (h : Bits w B s) {m : Nat} (hm : m < 10) : Bits (w.setCell ⟨B, m, none⟩ (.bool true)) B (fun i => if i = m then true else s i) := fun i hi => by
  by_cases e : i = m
  · subst e; rw [World.cell?_setCell_same _ _ _ (h i hi)]; simp
  · rw [World.cell?_setCell_other _ _ _ _ (fun h => by simp only [Addr.mk.injEq] at h; omega), h i hi]; simp [e]

theorem storesF_take {d : List Op5} {j : Nat} (hj : j < d.length) (k : Nat) : storesF (d.take (j + 1)) k = (storesF (d.take j) k || ((d[j].k == 7) && (d[j].a == (k : Int)))) := by
  unfold storesF
  rw [List.take_succ_eq_append_getElem hj, List.any_append]
  simp

set_option maxHeartbeats 1000000 in
theorem keys_any (v : Value) (d : List Op5) (w : World) (hd : DeedAt w v d) (hlen : d.length ≤ 14) :
    Calls Tryz.prog 181 #[v] w fun e w' => (∃ u, e = .returned u ∧ w'.ownsRow w.heap.size 3 1 u (keysF d).length ((keysF d).map fun k : Nat => .int .i64 (k : Int))) ∧ Below w.heap.size w w' := by
  obtain ⟨i0, hi, hz0, hz1, hz2⟩ := info_parts info3
  obtain ⟨a, cap, rfl, hd⟩ := hd
  go_enter Tryz.func181, Tryz.ntmps181
  go_wp2_with fail
  go_loopg [11] d.length (fun g i wr => ∃ j : Nat, j ≤ d.length ∧ g = d.length - j ∧ i = .int .i64 j ∧ (∃ b : Nat → Bool, Bits wr w.heap.size b ∧ Hid (∀ k, k < 10 → b k = storesF (d.take j) k)) ∧ (∀ o, wr.frozen? ⟨w.heap.size, o, none⟩ = false) ∧ Below w.heap.size w wr)
  case atStart =>
    refine ⟨0, by omega, by omega, rfl, ⟨fun _ => false, ?_, fun k _ => by simp [storesF]⟩, fun o => by go_simp, (Below.refl _ _).alloc (Nat.le_refl _) _⟩
    exact lt10 (by go_simp) (by go_simp) (by go_simp) (by go_simp) (by go_simp) (by go_simp) (by go_simp) (by go_simp) (by go_simp) (by go_simp)
  case round =>
    obtain ⟨j, hj, hg, rfl, ⟨b, hb, hF⟩, hfr, hB⟩ := hrel
    have hz : w.heap.size < wr.heap.size := World.block_lt_of_cell? wr _ (hb 0 (by omega))
    by_cases hlt : j < d.length
    · obtain ⟨bb, off, rfl, c0, c1, c2, c3, c4⟩ := hd j hlt
      replace c0 := cell_later hB c0
      replace c1 := cell_later hB c1
      replace c2 := cell_later hB c2
      replace c3 := cell_later hB c3
      replace c4 := cell_later hB c4
      have hst : Hid (∀ k, storesF (d.take (j + 1)) k = (storesF (d.take j) k || ((d[j].k == 7) && (d[j].a == (k : Int))))) := storesF_take hlt
      clear hd
      by_cases h7 : d[j].k = 7
      · have t7 : (d[j].k == 7) = true := by simp [h7]
        by_cases hk : 0 ≤ d[j].a ∧ d[j].a < 10
        · obtain ⟨m, hm⟩ : ∃ m : Nat, d[j].a = (m : Int) := ⟨d[j].a.toNat, by omega⟩
          have hm10 : m < 10 := by omega
          have hmi : (m : Int) < 10 := by omega
          have hcm := hb m hm10
          have hF' : Hid (∀ k, k < 10 → (if k = m then true else b k) = storesF (d.take (j + 1)) k) := fun k hk => by
            rw [hst.out k, ← hF.out k hk, t7, hm]
            by_cases e : k = m
            · subst e; simp
            · have : ((m : Int) == (k : Int)) = false := by simp; omega
              simp [e, this]
          rw [hm] at c1
          clear hst hF hk
          generalize d[j].k = xk at *
          generalize d[j].b = xb at *
          generalize d[j].c = xc at *
          generalize d[j].n = xn at *
          clear hm h7
          go_wp2_with fail
          go_roundg (d.length - (j + 1))
          case measure => omega
          case rel => exact ⟨j + 1, by omega, rfl, by go_num, ⟨_, (hb.set hm10).later ((Below.refl _ _).alloc (Nat.le_refl _) _), hF'⟩, fun o => by rw [frozen_alloc_lt _ (by rw [size_setCell]; exact hz), World.frozen?_setCell]; exact hfr o, (hB.setCell (p := ⟨w.heap.size, m, none⟩) (Nat.le_refl _) _).alloc (by rw [size_setCell]; exact hB.size) _⟩
        · have hF' : Hid (∀ k, k < 10 → b k = storesF (d.take (j + 1)) k) := fun k hk' => by
            have : (d[j].a == (k : Int)) = false := by simp; omega
            rw [hst.out k, ← hF.out k hk', this]; simp
          clear hst hF h7
          by_cases ha : d[j].a < 0
          · have ha' : ¬ 0 ≤ d[j].a := by omega
            go_wp2_with fail
            go_roundg (d.length - (j + 1))
            case measure => omega
            case rel => exact ⟨j + 1, by omega, rfl, by go_num, ⟨_, hb.later ((Below.refl _ _).alloc (Nat.le_refl _) _), hF'⟩, fun o => by rw [frozen_alloc_lt _ hz]; exact hfr o, hB.alloc hB.size _⟩
          · have ha' : 0 ≤ d[j].a := by omega
            have ha'' : ¬ d[j].a < 10 := by omega
            go_wp2_with fail
            go_roundg (d.length - (j + 1))
            case measure => omega
            case rel => exact ⟨j + 1, by omega, rfl, by go_num, ⟨_, hb.later ((Below.refl _ _).alloc (Nat.le_refl _) _), hF'⟩, fun o => by rw [frozen_alloc_lt _ hz]; exact hfr o, hB.alloc hB.size _⟩
      · have t7 : (d[j].k == 7) = false := by simp [h7]
        have hF' : Hid (∀ k, k < 10 → b k = storesF (d.take (j + 1)) k) := fun k hk' => by
          rw [hst.out k, ← hF.out k hk', t7]; simp
        clear hst hF h7
        go_wp2_with fail
        go_roundg (d.length - (j + 1))
        case measure => omega
        case rel => exact ⟨j + 1, by omega, rfl, by go_num, ⟨_, hb.later ((Below.refl _ _).alloc (Nat.le_refl _) _), hF'⟩, fun o => by rw [frozen_alloc_lt _ hz]; exact hfr o, hB.alloc hB.size _⟩
    · obtain rfl : j = d.length := by omega
      have hF' : Hid (keysF d = (List.range 10).filter b) := by
        show _ = _
        unfold keysF
        apply List.filter_congr
        intro k hk
        have := hF.out k (by simpa using hk)
        rw [List.take_length] at this
        exact this.symm
      obtain ⟨k0, k1, k2, k3, k4, k5, k6, k7, k8, k9⟩ := hb.ten
      clear hd hF hfr hb
      go_wp2_with fail
      go_loopg [6, 33] 10 (fun g v i wq => ∃ m : Nat, ∃ u : Value, m ≤ 10 ∧ g = 10 - m ∧ i = .int .i64 m ∧ u = v ∧ wq.ownsRow w.heap.size 3 1 u ((List.range m).filter b).length (((List.range m).filter b).map fun k : Nat => .int .i64 (k : Int)) ∧ Below w.heap.size w wq)
      case atStart => exact ⟨0, _, by omega, by omega, rfl, rfl, by simpa using World.ownsRow_nil _ _ _ _, hB⟩
      case round =>
        obtain ⟨m, u, hm, hg', rfl, hu, hown, hBq⟩ := hrel
        subst hu
        clear hB k0 k1 k2 k3 k4 k5 k6 k7 k8 k9 hz
        have hln : ((List.range m).filter b).length ≤ 10 := by
          have := List.length_filter_le b (List.range m)
          simp at this; omega
        by_cases hlt : m < 10
        · have hix := index_bool b wr m hlt
          have hmi : (m : Int) < 10 := by omega
          cases hbm : b m with
          | false =>
            rw [hbm] at hix
            have hf : Hid ((List.range (m + 1)).filter b = (List.range m).filter b) := by
              show _ = _
              rw [List.range_succ, List.filter_append]; simp [hbm]
            clear hbm
            go_wp2_with fail
            go_roundg (10 - (m + 1))
            case measure => omega
            case rel => exact ⟨m + 1, _, by omega, rfl, by go_num, rfl, by rw [hf.out]; exact hown, hBq⟩
          | true =>
            rw [hbm] at hix
            have hf : Hid ((List.range (m + 1)).filter b = (List.range m).filter b ++ [m]) := by
              show _ = _
              rw [List.range_succ, List.filter_append]; simp [hbm]
            clear hbm
            go_wp2_with (at_builtin; refine wpList_append_own _ rfl _ _ 72 rfl w.heap.size 3 i0 (.int .i64 0) 1 8 Tryz.underlying72 hi hz0 hz1 hz2 rfl (by decide) _ _ _ rfl (hown.alloc _) ⟨wr.heap.size, 0, none⟩ 1 1 [.int .i64 (m : Int)] rfl rfl (cell_one_new _ _ _) (by simp [Value.oneCell']) (by unfold maxLen; omega) (by omega) (by have := hBq.size; simp; omega) ?_; intro v' w1 hown' hgrow hnil)
            go_roundg (10 - (m + 1))
            case measure => omega
            case rel =>
              refine ⟨m + 1, _, by omega, rfl, by go_num, rfl, by rw [hf.out]; simpa using hown', ?_⟩
              exact (hBq.alloc hBq.size _).grown hgrow (by have := hBq.size; simp; omega) (fun k hk => (hown.lt k hk).1)
        · obtain rfl : m = 10 := by omega
          have ho : Hid (wr.ownsRow w.heap.size 3 1 u (keysF d).length ((keysF d).map fun k : Nat => .int .i64 (k : Int))) := by
            show World.ownsRow _ _ _ _ _ _ _
            rw [hF'.out]; exact hown
          go_wp2_with fail
          go_ret
          exact ⟨⟨_, rfl, ho.out⟩, hBq⟩
end Go.Proofs.YtehkjbpgibdgpadGreatDoor
namespace Go.Proofs.YtehkjbpgibdgpadGreatDoor
open Go.RowKit Go.Shelf

set_option maxHeartbeats 1000000 in
theorem new_bad (v : Value) (r : List (List Op5)) (s : Nat → Int) (w : World) (hr : RoundAt w v r) (hf : Fits r) (h0 : ¬ roundF r = 0) (hL : Lim w) :
    Calls Tryz.prog 170 #[stV s, v] w fun e w' => e = .returned (.tuple #[.pointer none, .int .i64 (roundF r)]) ∧ Below w.heap.size w w' := by
  have hrd := fun w' hr' hL' => round_any v r w' hr' hf hL'
  obtain ⟨c, hc⟩ : ∃ c, c = roundF r := ⟨_, rfl⟩
  rw [← hc] at h0 hrd ⊢
  have t0 : (c != 0) = true := by simp [h0]
  clear hc h0
  show Calls Tryz.prog 170 #[.agg #[.int .i64 (s 0), .int .i64 (s 1), .int .i64 (s 2), .int .i64 (s 3), .int .i64 (s 4), .int .i64 (s 5), .int .i64 (s 6), .int .i64 (s 7), .int .i64 (s 8), .int .i64 (s 9)], _] w _
  have hB0 : Below w.heap.size w (w.alloc (.cells #[.int .i64 (s 0), .int .i64 (s 1), .int .i64 (s 2), .int .i64 (s 3), .int .i64 (s 4), .int .i64 (s 5), .int .i64 (s 6), .int .i64 (s 7), .int .i64 (s 8), .int .i64 (s 9)] 32)) := (Below.refl _ _).alloc (Nat.le_refl _) _
  go_enter Tryz.func170, Tryz.ntmps170
  go_wp2_with fail
  refine (hrd _ (hr.later hB0) (hL.later hB0)).mono ?_
  rintro e w1 ⟨rfl, hb1⟩
  have hB1 : Below w.heap.size w w1 := hB0.trans (hb1.mono (by simp))
  clear hB0 hb1
  go_wp2_with fail
  exact bodyPost_ret (v := .tuple #[.pointer none, .int .i64 c]) (by simp [results, Tryz.results170, go_sem]) rfl ⟨rfl, hB1⟩

theorem zero_run (w : World) : (zeroValue 246).run Tryz.prog w = .ok (.agg Tryz.zeroCells246) w := by kernel_rfl
theorem zero_size : Tryz.zeroCells246.size = 370 := by kernel_rfl
theorem zero_many : ∀ k, k < 10 → Tryz.zeroCells246[k * 37 + 36]? = some (.int .i64 0)
  | 0, _ => by kernel_rfl
  | 1, _ => by kernel_rfl
  | 2, _ => by kernel_rfl
  | 3, _ => by kernel_rfl
  | 4, _ => by kernel_rfl
  | 5, _ => by kernel_rfl
  | 6, _ => by kernel_rfl
  | 7, _ => by kernel_rfl
  | 8, _ => by kernel_rfl
  | 9, _ => by kernel_rfl
theorem zero_ne : Tryz.zeroCells246 ≠ #[] := fun e => by have := zero_size; rw [e] at this; cases this
theorem cell_new (w : World) (cs : Array Value) (t : TypeId) (o : Nat) : (w.alloc (.cells cs t)).cell? ⟨w.heap.size, o, none⟩ = cs[o]? := by simp
theorem tab_new (w : World) : TabAt (w.alloc (.cells Tryz.zeroCells246 246)) w.heap.size (fun _ => []) ∧ Room (w.alloc (.cells Tryz.zeroCells246 246)) w.heap.size := by
  refine ⟨⟨fun k hk => ⟨by simp, by rw [cell_new, zero_many k hk]; rfl, fun i hi => by simp at hi⟩, fun o => by simp⟩, fun o ho => ?_⟩
  rw [cell_new, Array.getElem?_eq_getElem (by rw [zero_size]; exact ho)]; rfl

/-- The keys that a call has told, in memory beyond a block. -/
def KeysAt (w : World) (B : Nat) (u : Value) (ks : List Nat) : Prop :=
  ∃ a cap, u = .slice a ks.length cap ∧ ∀ i (h : i < ks.length), ∃ g, B < g ∧ a = some ⟨g, 0, none⟩ ∧ w.cell? ⟨g, i, none⟩ = some (.int .i64 (ks[i] : Int))
theorem KeysAt.kept {w w' : World} {B : Nat} {u : Value} {ks : List Nat} (h : KeysAt w B u ks) (hg : w.grownBy w' (some B)) : KeysAt w' B u ks := by
  obtain ⟨a, cap, e, h⟩ := h
  refine ⟨a, cap, e, fun i hi => ?_⟩
  obtain ⟨g, h1, h2, h3⟩ := h i hi
  refine ⟨g, h1, h2, ?_⟩
  have hlt := World.block_lt_of_cell? w _ h3
  rw [World.cell?_of_block (w := w) (hg.block g hlt (fun e => by cases e; omega))]; exact h3
theorem keysAt_of_owns {w : World} {base B : Nat} {u : Value} {ks : List Nat} (h : w.ownsRow base 3 1 u ks.length (ks.map fun k : Nat => .int .i64 (k : Int))) (hB : B < base) : KeysAt w B u ks := by
  have hc := h
  rcases h.2 with ⟨rfl, h0⟩ | ⟨g, cap, cur, rfl, hg, -⟩
  · exact ⟨none, 0, by rw [h0], fun i hi => by omega⟩
  · refine ⟨_, cap, rfl, fun i hi => ⟨g, by omega, rfl, ?_⟩⟩
    have := hc.cells (g := g) rfl i (.int .i64 (ks[i] : Int)) (by simp [hi])
    rw [show (⟨g, 0, none⟩ : Addr).add i = ⟨g, i, none⟩ by unfold Addr.add; split <;> simp_all] at this
    exact this

theorem take_mem {ks : List Nat} {m : Nat} (hm : m < ks.length) (k : Nat) : k ∈ ks.take (m + 1) ↔ k ∈ ks.take m ∨ k = ks[m] := by
  rw [List.take_succ_eq_append_getElem hm, List.mem_append, List.mem_singleton]

theorem newF_take (s : Nat → Int) (r : List (List Op5)) {j : Nat} (hj : j < r.length) (k : Nat) : newF s (r.take (j + 1)) k = newF s (r.take j) k ++ (if storesF r[j] k then [⟨(j : Int), true, false, 0⟩] else []) := by
  unfold newF
  rw [List.take_succ_eq_append_getElem hj, slotsF_append, List.length_take, Nat.min_eq_left (by omega)]
  simp only [slotsF, Nat.zero_add, List.cons_append]
theorem newF_length (s : Nat → Int) (r : List (List Op5)) (j k : Nat) : (newF s (r.take j) k).length ≤ j + 1 := by
  have := slotsF_length k 0 (r.take j)
  rw [List.length_take] at this
  simp only [newF, List.length_cons]; omega
/-- The table while the slots of deed j are laid. -/
def midF (s : Nat → Int) (r : List (List Op5)) (j m : Nat) (ks : List Nat) : Nat → List Slot4 := fun k => newF s (r.take j) k ++ (if k ∈ ks.take m then [⟨(j : Int), true, false, 0⟩] else [])
theorem midF_step {s : Nat → Int} {r : List (List Op5)} {j m : Nat} {ks : List Nat} (hm : m < ks.length) (hn : ks.Nodup) : putT (midF s r j m ks) ks[m] (midF s r j m ks ks[m] ++ [⟨(j : Int), true, false, 0⟩]) = midF s r j (m + 1) ks := by
  have hno : ¬ ks[m] ∈ ks.take m := fun h => by
    obtain ⟨i, hi, e⟩ := List.mem_iff_getElem.1 h
    rw [List.length_take] at hi
    rw [List.getElem_take] at e
    have := (List.nodup_iff_pairwise_ne.1 hn)
    exact List.pairwise_iff_getElem.1 this i m (by omega) hm (by omega) e
  funext k
  unfold putT
  by_cases e : k = ks[m]
  · subst e
    rw [if_pos rfl]
    unfold midF
    rw [if_neg hno, if_pos ((take_mem hm _).2 (.inr rfl))]
    simp
  · rw [if_neg e]
    unfold midF
    congr 1
    by_cases h : k ∈ ks.take m
    · rw [if_pos h, if_pos ((take_mem hm k).2 (.inl h))]
    · rw [if_neg h, if_neg (fun h' => by rcases (take_mem hm k).1 h' with h' | h'; exact h h'; exact e h')]
theorem midF_length {s : Nat → Int} {r : List (List Op5)} {j m : Nat} {ks : List Nat} (hm : m < ks.length) (hn : ks.Nodup) : (midF s r j m ks ks[m]).length ≤ j + 1 := by
  have hno : ¬ ks[m] ∈ ks.take m := fun h => by
    obtain ⟨i, hi, e⟩ := List.mem_iff_getElem.1 h
    rw [List.length_take] at hi
    rw [List.getElem_take] at e
    have := (List.nodup_iff_pairwise_ne.1 hn)
    exact List.pairwise_iff_getElem.1 this i m (by omega) hm (by omega) e
  unfold midF
  rw [if_neg hno]
  simpa using newF_length s r j ks[m]
theorem keysF_nodup (d : List Op5) : (keysF d).Nodup := (List.filter_sublist).nodup List.nodup_range
theorem keysF_lt {d : List Op5} {k : Nat} (h : k ∈ keysF d) : k < 10 := by
  have := (List.mem_filter.1 h).1; simpa using this
theorem midF_done {s : Nat → Int} {r : List (List Op5)} {j : Nat} (hj : j < r.length) : ∀ k, k < 10 → midF s r j (keysF r[j]).length (keysF r[j]) k = newF s (r.take (j + 1)) k := fun k hk => by
  rw [newF_take s r hj, midF, List.take_length]
  congr 1
  by_cases h : storesF r[j] k = true
  · rw [if_pos h, if_pos (show k ∈ keysF r[j] from List.mem_filter.2 ⟨by simpa using hk, h⟩)]
  · rw [if_neg h, if_neg (fun h' : k ∈ keysF r[j] => h (List.mem_filter.1 h').2)]
/-- The table while the slots of what keys had are laid. -/
def baseF (s : Nat → Int) (j : Nat) : Nat → List Slot4 := fun k => if k < j then [⟨-1, false, false, s k⟩] else []
theorem baseF_step (s : Nat → Int) (j : Nat) : putT (baseF s j) j (baseF s j j ++ [⟨-1, false, false, s j⟩]) = baseF s (j + 1) := by
  funext k
  unfold putT baseF
  by_cases e : k = j
  · subst e; simp
  · rw [if_neg e]
    by_cases h : k < j
    · rw [if_pos h, if_pos (by omega)]
    · rw [if_neg h, if_neg (by omega)]

set_option maxRecDepth 100000 in
set_option maxHeartbeats 1000000 in
theorem new_good (v : Value) (r : List (List Op5)) (s : Nat → Int) (w : World) (hr : RoundAt w v r) (hf : Fits r) (h0 : roundF r = 0) (hL : Lim w) :
    Calls Tryz.prog 170 #[stV s, v] w fun e w' => ∃ B, e = .returned (.tuple #[.pointer (some ⟨B, 0, none⟩), .int .i64 0]) ∧ w.heap.size ≤ B ∧ TabAt w' B (newF s r) ∧ Below w.heap.size w w' := by
  have hrd := fun w' hr' hL' => round_any v r w' hr' hf hL'
  rw [h0] at hrd
  show Calls Tryz.prog 170 #[.agg #[.int .i64 (s 0), .int .i64 (s 1), .int .i64 (s 2), .int .i64 (s 3), .int .i64 (s 4), .int .i64 (s 5), .int .i64 (s 6), .int .i64 (s 7), .int .i64 (s 8), .int .i64 (s 9)], _] w _
  have hB0 : Below w.heap.size w (w.alloc (.cells #[.int .i64 (s 0), .int .i64 (s 1), .int .i64 (s 2), .int .i64 (s 3), .int .i64 (s 4), .int .i64 (s 5), .int .i64 (s 6), .int .i64 (s 7), .int .i64 (s 8), .int .i64 (s 9)] 32)) := (Below.refl _ _).alloc (Nat.le_refl _) _
  have hX0 := box_new w s
  obtain ⟨hr8, hck⟩ := roundF_zero.1 h0
  have HR := hr
  obtain ⟨a, cap, rfl, hr⟩ := hr
  clear h0
  go_enter Tryz.func170, Tryz.ntmps170
  go_wp2_with fail
  refine (hrd _ (HR.later hB0) (hL.later hB0)).mono ?_
  rintro e w1 ⟨rfl, hb1⟩
  have hB1 : Below w.heap.size w w1 := hB0.trans (hb1.mono (by simp))
  have hX1 := hX0.later hb1
  obtain ⟨k0, k1, k2, k3, k4, k5, k6, k7, k8, k9⟩ := hX1.ten
  have hz1 : w.heap.size < w1.heap.size := World.block_lt_of_cell? w1 _ k0
  clear hB0 hb1 hX0 hrd
  have hzv := zero_run
  have hzs := zero_size
  have hzn := zero_ne
  go_wp2_with fail
  clear hzv hzs hzn
  obtain ⟨W, eW⟩ : ∃ W, W = w1.alloc (.cells Tryz.zeroCells246 246) := ⟨_, rfl⟩
  obtain ⟨B, eB⟩ : ∃ B, B = w1.heap.size := ⟨_, rfl⟩
  have hW : TabAt W B (baseF s 0) ∧ Room W B := by rw [eW, eB]; exact tab_new w1
  have hBW : Below w.heap.size w W := by rw [eW]; exact hB1.alloc hB1.size _
  have hB : w.heap.size ≤ B := by omega
  rw [← eW, ← eB]
  clear eW eB hX1 k0 k1 k2 k3 k4 k5 k6 k7 k8 k9 hz1 hB1
  go_loopg [21] 10 (fun g i wr => ∃ j : Nat, j ≤ 10 ∧ g = 10 - j ∧ i = .int .i64 j ∧ TabAt wr B (baseF s j) ∧ Room wr B ∧ Below w.heap.size w wr)
  case atStart => exact ⟨0, by omega, by omega, rfl, hW.1, hW.2, hBW⟩
  case round =>
    obtain ⟨j, hj, hg, rfl, hT, hR, hBl⟩ := hrel
    by_cases hlt : j < 10
    · have hix := index_int s wr j hlt
      have hji : (j : Int) < 10 := by omega
      have hadd := add_tab B j hlt (baseF s j) ⟨-1, false, false, s j⟩ wr hT hR (by simp [baseF])
      rw [baseF_step] at hadd
      dsimp only at hadd
      go_wp2_with fail
      refine hadd.mono ?_
      clear hadd
      rintro e w2 ⟨⟨u, rfl⟩, hT2, hR2, hg2⟩
      have hBl2 : Below w.heap.size w w2 := hBl.grown hg2 hBl.size (fun q hq => by cases hq; exact hB)
      clear hT hR hg2 hix
      go_wp2_with fail
      go_roundg (10 - (j + 1))
      case measure => omega
      case rel => exact ⟨j + 1, by omega, rfl, by go_num, hT2, hR2, hBl2⟩
    · obtain rfl : j = 10 := by omega
      have hT0 : TabAt wr B (newF s (r.take 0)) := hT.congr fun k hk => by simp [baseF, newF, slotsF, hk]
      clear hT hW hBW
      go_wp2_with fail
      go_loopg [36] r.length (fun g i wr => ∃ j : Nat, j ≤ r.length ∧ g = r.length - j ∧ i = .int .i64 j ∧ TabAt wr B (newF s (r.take j)) ∧ Room wr B ∧ Below w.heap.size w wr)
      case atStart => exact ⟨0, by omega, by omega, rfl, hT0, hR, hBl⟩
      case round =>
        clear hT0 hR hBl
        obtain ⟨j, hj, hg, rfl, hT, hR, hBl⟩ := hrel
        by_cases hlt : j < r.length
        · obtain ⟨b, off, rfl, dv, c0, hD⟩ := hr j hlt
          replace c0 := cell_later hBl c0
          replace hD := hD.later hBl
          have hc14 : r[j].length ≤ 14 := by
            have h := hck _ (List.getElem_mem hlt)
            unfold checkF at h
            split at h
            · exact absurd h (by decide)
            · omega
          have hkeys := keys_any dv r[j] wr hD hc14
          obtain ⟨ks, hks⟩ : ∃ ks, ks = keysF r[j] := ⟨_, rfl⟩
          have hdone : Hid (∀ k, k < 10 → midF s r j ks.length ks k = newF s (r.take (j + 1)) k) := by
            show ∀ k, _
            rw [hks]; exact midF_done hlt
          have hnd : ks.Nodup := by rw [hks]; exact keysF_nodup _
          have hk10 : ∀ i (h : i < ks.length), ks[i] < 10 := fun i h => keysF_lt (d := r[j]) (by rw [← hks]; exact List.getElem_mem h)
          have hkl : ks.length ≤ 10 := by
            rw [hks, keysF]
            have := List.length_filter_le (storesF r[j]) (List.range 10)
            simpa using this
          rw [← hks] at hkeys
          clear hks hr hD
          have hBz := hT.lt
          go_wp2_with fail
          refine hkeys.mono ?_
          clear hkeys
          rintro e w2 ⟨⟨u, rfl, hown⟩, hb2⟩
          have hK : KeysAt w2 B u ks := keysAt_of_owns hown hBz
          have hT2 : TabAt w2 B (midF s r j 0 ks) := (hT.later hb2).congr fun k hk => by simp [midF]
          have hR2 := hR.later hb2
          have hBl2 : Below w.heap.size w w2 := hBl.trans (hb2.mono hBl.size)
          clear hT hR hBl hb2 hown c0
          obtain ⟨ua, ucap, rfl, hcell⟩ := hK
          have hK : KeysAt w2 B (.slice ua ks.length ucap) ks := ⟨ua, ucap, rfl, hcell⟩
          clear hcell
          go_wp2_with fail
          go_loopg [44] ks.length (fun g i wr => ∃ m : Nat, m ≤ ks.length ∧ g = ks.length - m ∧ i = .int .i64 m ∧ KeysAt wr B (.slice ua ks.length ucap) ks ∧ TabAt wr B (midF s r j m ks) ∧ Room wr B ∧ Below w.heap.size w wr)
          case atStart => exact ⟨0, by omega, by omega, rfl, hK, hT2, hR2, hBl2⟩
          case round =>
            clear hK hT2 hR2 hBl2
            obtain ⟨m, hm, hg', rfl, hK, hT, hR, hBl⟩ := hrel
            by_cases hml : m < ks.length
            · obtain ⟨ua', ucap', e1, hcell⟩ := hK
              obtain ⟨gg, hgB, e2, hcm⟩ := hcell m hml
              cases e1
              subst e2
              have hK : Hid (KeysAt wr B (.slice (some ⟨gg, 0, none⟩) ks.length ucap) ks) := ⟨_, ucap, rfl, hcell⟩
              have hkm := hk10 m hml
              have hlen := midF_length (s := s) (r := r) (j := j) hml hnd
              have hadd := add_tab B ks[m] hkm (midF s r j m ks) ⟨(j : Int), true, false, 0⟩ wr hT hR (by omega)
              rw [midF_step hml hnd] at hadd
              dsimp only at hadd
              have hki : (ks[m] : Int) < 10 := by omega
              clear hcell hlen
              go_wp2_with fail
              refine hadd.mono ?_
              clear hadd
              rintro e w3 ⟨⟨u, rfl⟩, hT3, hR3, hg3⟩
              have hBl3 : Below w.heap.size w w3 := hBl.grown hg3 hBl.size (fun q hq => by cases hq; exact hB)
              have hK3 : Hid _ := hK.out.kept hg3
              clear hT hR hg3 hcm hK
              go_wp2_with fail
              go_roundg (ks.length - (m + 1))
              case measure => omega
              case rel => exact ⟨m + 1, by omega, rfl, by go_num, hK3.out, hT3, hR3, hBl3⟩
            · obtain rfl : m = ks.length := by omega
              have hT' : TabAt wr B (newF s (r.take (j + 1))) := hT.congr hdone.out
              clear hT hK
              go_wp2_with fail
              go_roundg (r.length - (j + 1))
              case measure => omega
              case rel => exact ⟨j + 1, by omega, rfl, by go_num, hT', hR, hBl⟩
        · obtain rfl : j = r.length := by omega
          rw [List.take_length] at hT
          clear hr
          go_wp2_with fail
          exact bodyPost_ret (v := .tuple #[.pointer (some ⟨B, 0, none⟩), .int .i64 0]) (by simp [results, Tryz.results170, go_sem]) rfl ⟨B, rfl, hB, hT, hBl⟩
end Go.Proofs.YtehkjbpgibdgpadGreatDoor
