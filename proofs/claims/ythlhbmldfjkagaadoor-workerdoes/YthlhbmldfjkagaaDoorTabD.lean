/-
  A table as it lies in memory; the walks of last where there is no such key, settle, Set, Void, Before.
-/
import Derived.Test.YthlhbmldfjkagaaDoorTabC
namespace Go.Proofs.YthlhbmldfjkagaaDoor
open Go.RowKit Go.Shelf

structure TabAt (w : World) (B : Nat) (T : Nat → List Slot4) : Prop where
  row : ∀ k, k < 10 → RowAt w B (k * 37) (T k)
  free : ∀ o, w.frozen? ⟨B, o, none⟩ = false

theorem TabAt.lt {w : World} {B : Nat} {T : Nat → List Slot4} (h : TabAt w B T) : B < w.heap.size := World.block_lt_of_cell? w _ (h.row 0 (by omega)).many
theorem TabAt.later {w w' : World} {B : Nat} {T : Nat → List Slot4} (h : TabAt w B T) (hb : Below w.heap.size w w') : TabAt w' B T :=
  ⟨fun k hk => (h.row k hk).later hb, fun o => by rw [hb.frozen (p := ⟨B, o, none⟩) h.lt]; exact h.free o⟩

/-- A slot is laid at a place. -/
def put4 (w : World) (B off : Nat) (s : Slot4) : World :=
  (((w.setCell ⟨B, off, none⟩ (.int .i64 s.b)).setCell ⟨B, off + 1, none⟩ (.bool s.op)).setCell ⟨B, off + 2, none⟩ (.bool s.vo)).setCell ⟨B, off + 3, none⟩ (.int .i64 s.n)

theorem put4_other (w : World) (B off : Nat) (s : Slot4) (o : Nat) (h : o < off ∨ off + 4 ≤ o) : (put4 w B off s).cell? ⟨B, o, none⟩ = w.cell? ⟨B, o, none⟩ := by
  unfold put4
  rw [World.cell?_setCell_other _ _ _ _ (fun h => by simp only [Addr.mk.injEq] at h; omega), World.cell?_setCell_other _ _ _ _ (fun h => by simp only [Addr.mk.injEq] at h; omega),
    World.cell?_setCell_other _ _ _ _ (fun h => by simp only [Addr.mk.injEq] at h; omega), World.cell?_setCell_other _ _ _ _ (fun h => by simp only [Addr.mk.injEq] at h; omega)]
theorem put4_same (w : World) (B off : Nat) (s : Slot4) (h0 : (w.cell? ⟨B, off, none⟩).isSome) (h1 : (w.cell? ⟨B, off + 1, none⟩).isSome) (h2 : (w.cell? ⟨B, off + 2, none⟩).isSome) (h3 : (w.cell? ⟨B, off + 3, none⟩).isSome) :
    (put4 w B off s).cell? ⟨B, off, none⟩ = some (.int .i64 s.b) ∧ (put4 w B off s).cell? ⟨B, off + 1, none⟩ = some (.bool s.op) ∧ (put4 w B off s).cell? ⟨B, off + 2, none⟩ = some (.bool s.vo) ∧ (put4 w B off s).cell? ⟨B, off + 3, none⟩ = some (.int .i64 s.n) := by
  unfold put4
  refine ⟨?_, ?_, ?_, ?_⟩
  · rw [World.cell?_setCell_other _ _ _ _ (fun h => by simp only [Addr.mk.injEq] at h; omega), World.cell?_setCell_other _ _ _ _ (fun h => by simp only [Addr.mk.injEq] at h; omega),
      World.cell?_setCell_other _ _ _ _ (fun h => by simp only [Addr.mk.injEq] at h; omega)]
    exact World.cell?_setCell_same' _ _ _ h0
  · rw [World.cell?_setCell_other _ _ _ _ (fun h => by simp only [Addr.mk.injEq] at h; omega), World.cell?_setCell_other _ _ _ _ (fun h => by simp only [Addr.mk.injEq] at h; omega)]
    exact World.cell?_setCell_same' _ _ _ (by rw [World.cell?_setCell_other _ _ _ _ (fun h => by simp only [Addr.mk.injEq] at h; omega)]; exact h1)
  · rw [World.cell?_setCell_other _ _ _ _ (fun h => by simp only [Addr.mk.injEq] at h; omega)]
    exact World.cell?_setCell_same' _ _ _ (by rw [World.cell?_setCell_other _ _ _ _ (fun h => by simp only [Addr.mk.injEq] at h; omega), World.cell?_setCell_other _ _ _ _ (fun h => by simp only [Addr.mk.injEq] at h; omega)]; exact h2)
  · exact World.cell?_setCell_same' _ _ _ (by rw [World.cell?_setCell_other _ _ _ _ (fun h => by simp only [Addr.mk.injEq] at h; omega), World.cell?_setCell_other _ _ _ _ (fun h => by simp only [Addr.mk.injEq] at h; omega), World.cell?_setCell_other _ _ _ _ (fun h => by simp only [Addr.mk.injEq] at h; omega)]; exact h3)
theorem put4_frozen (w : World) (B off : Nat) (s : Slot4) (a : Addr) : (put4 w B off s).frozen? a = w.frozen? a := by
  unfold put4; simp only [World.frozen?_setCell]
theorem grown_setCell (w : World) (a : Addr) (u : Value) : w.grownBy (w.setCell a u) (some a.block) :=
  ⟨rfl, rfl, rfl, by simp [World.setCell], fun i _ h => Below.heap_setCell _ _ _ _ (fun e => h (by rw [e]))⟩
theorem grown_trans {a b c : World} {row : Option Nat} (h : a.grownBy b row) (k : b.grownBy c row) : a.grownBy c row :=
  ⟨k.os.trans h.os, k.tape.trans h.tape, k.output.trans h.output, Nat.le_trans h.size k.size, fun i hi hn => (k.block i (Nat.lt_of_lt_of_le hi h.size) hn).trans (h.block i hi hn)⟩
theorem put4_grown (w : World) (B off : Nat) (s : Slot4) : w.grownBy (put4 w B off s) (some B) :=
  grown_trans (grown_trans (grown_trans (grown_setCell w ⟨B, off, none⟩ _) (grown_setCell _ ⟨B, off + 1, none⟩ _)) (grown_setCell _ ⟨B, off + 2, none⟩ _)) (grown_setCell _ ⟨B, off + 3, none⟩ _)
theorem below_grown {w w' : World} (h : Below w.heap.size w w') (row : Option Nat) : w.grownBy w' row := ⟨h.os, h.tape, h.output, h.size, fun i hi _ => h.block i hi⟩

theorem RowAt.put {w : World} {B off : Nat} {l : List Slot4} (h : RowAt w B off l) {i : Nat} (hi : i < l.length) (x : Slot4) : RowAt (put4 w B (off + i * 4) x) B off (l.set i x) := by
  have hl := h.len
  refine ⟨by simp [hl], ?_, fun j hj => ?_⟩
  · rw [put4_other _ _ _ _ _ (by omega), List.length_set]; exact h.many
  · rw [List.length_set] at hj
    rw [slotAt_set hi]
    by_cases e : j = i
    · subst e
      obtain ⟨c0, c1, c2, c3⟩ := h.cell j hj
      rw [if_pos rfl]
      exact put4_same _ _ _ _ (by rw [c0]; rfl) (by rw [c1]; rfl) (by rw [c2]; rfl) (by rw [c3]; rfl)
    · rw [if_neg e, put4_other _ _ _ _ _ (by omega), put4_other _ _ _ _ _ (by omega), put4_other _ _ _ _ _ (by omega), put4_other _ _ _ _ _ (by omega)]
      exact h.cell j hj
theorem RowAt.far {w : World} {B off : Nat} {l : List Slot4} (h : RowAt w B off l) {o : Nat} (ho : o + 4 ≤ off ∨ off + 37 ≤ o) (x : Slot4) : RowAt (put4 w B o x) B off l := by
  have hl := h.len
  refine ⟨h.len, by rw [put4_other _ _ _ _ _ (by omega)]; exact h.many, fun j hj => ?_⟩
  rw [put4_other _ _ _ _ _ (by omega), put4_other _ _ _ _ _ (by omega), put4_other _ _ _ _ _ (by omega), put4_other _ _ _ _ _ (by omega)]
  exact h.cell j hj
theorem TabAt.put {w : World} {B : Nat} {T : Nat → List Slot4} (h : TabAt w B T) {k i : Nat} (hk : k < 10) (hi : i < (T k).length) (x : Slot4) : TabAt (put4 w B (k * 37 + i * 4) x) B (putT T k ((T k).set i x)) := by
  have hl := (h.row k hk).len
  refine ⟨fun j hj => ?_, fun o => by rw [put4_frozen]; exact h.free o⟩
  unfold putT
  by_cases e : j = k
  · subst e; rw [if_pos rfl]; exact (h.row j hj).put hi x
  · rw [if_neg e]; exact (h.row j hj).far (by omega) x
theorem TabAt.congr {w : World} {B : Nat} {T U : Nat → List Slot4} (h : TabAt w B T) (e : ∀ k, k < 10 → T k = U k) : TabAt w B U := ⟨fun k hk => by rw [← e k hk]; exact h.row k hk, h.free⟩

set_option maxHeartbeats 1000000 in
theorem last_out (B : Nat) (k : Int) (hk : k < 0 ∨ 10 ≤ k) (f : Nat) (cap : Array Value) (w : World) :
    Calls Tryd.prog 61 #[.pointer (some ⟨B, 0, none⟩), .int .i64 k, .func (.func f) #[] cap] w fun e w' => e = .returned (.pointer none) ∧ Below w.heap.size w w' := by
  go_enter Tryd.func61, Tryd.ntmps61
  go_wp2_with (go_at_call 39; refine (key_out k hk _).mono ?_; rintro e w' ⟨rfl, rfl⟩)
  exact bodyPost_ret (v := .pointer none) (by simp [results, Tryd.results61, go_sem]) rfl ⟨rfl, ((((Below.refl _ w).alloc (Nat.le_refl _) _).alloc (by simp) _).alloc (by simp; omega) _).alloc (by simp; omega) _⟩

theorem asks_enter67 : ∀ args w, (callFunc 80 args).run Tryd.prog w = .ok (.enter 80 args) w := enters_of Tryd.func80 (by kernel_rfl) rfl
theorem asks_enter55 : ∀ args w, (callFunc 62 args).run Tryd.prog w = .ok (.enter 62 args) w := enters_of Tryd.func62 (by kernel_rfl) rfl
theorem asks_enter56 : ∀ args w, (callFunc 63 args).run Tryd.prog w = .ok (.enter 63 args) w := enters_of Tryd.func63 (by kernel_rfl) rfl
theorem asks_enter57 : ∀ args w, (callFunc 64 args).run Tryd.prog w = .ok (.enter 64 args) w := enters_of Tryd.func64 (by kernel_rfl) rfl

set_option maxHeartbeats 1000000 in
theorem settle_out (B : Nat) (k : Int) (hk : k < 0 ∨ 10 ≤ k) (x : Slot4) (w : World) :
    Calls Tryd.prog 65 #[.pointer (some ⟨B, 0, none⟩), .int .i64 k, .agg #[.int .i64 x.b, .bool x.op, .bool x.vo, .int .i64 x.n]] w fun e w' => e = .returned (.bool false) ∧ Below w.heap.size w w' := by
  have hmf : ∀ (fn : Fn) (first cap : Array Value) (w : World), (Instr.makeFunc fn first cap).run Tryd.prog w = .ok (.func fn first cap) w := fun _ _ _ _ => rfl
  have hB0 : Below w.heap.size w (w.alloc (.cells #[.int .i64 x.b, .bool x.op, .bool x.vo, .int .i64 x.n] 103)) := (Below.refl _ _).alloc (Nat.le_refl _) _
  go_enter Tryd.func65, Tryd.ntmps65
  go_wp2_with (go_at_call 61; refine (last_out B k hk _ _ _).mono ?_; rintro e w' ⟨rfl, hb⟩)
  go_ret
  exact ⟨rfl, hB0.trans (hb.mono (by simp))⟩

theorem ret_bool' {a b : Bool} (h : a = b) : Ending.returned (.bool a) = .returned (.bool b) := by rw [h]

set_option maxHeartbeats 1000000 in
theorem settle_key (B k : Nat) (hk : k < 10) (T : Nat → List Slot4) (x : Slot4) (w : World) (h : TabAt w B T) :
    Calls Tryd.prog 65 #[.pointer (some ⟨B, 0, none⟩), .int .i64 (k : Int), .agg #[.int .i64 x.b, .bool x.op, .bool x.vo, .int .i64 x.n]] w fun e w' => e = .returned (.bool (toldF (T k) x.b)) ∧ TabAt w' B (putT T k (settleF (T k) x)) ∧ w.grownBy w' (some B) := by
  have hmf : ∀ (fn : Fn) (first cap : Array Value) (w : World), (Instr.makeFunc fn first cap).run Tryd.prog w = .ok (.func fn first cap) w := fun _ _ _ _ => rfl
  have hB0 : Below w.heap.size w (w.alloc (.cells #[.int .i64 x.b, .bool x.op, .bool x.vo, .int .i64 x.n] 103)) := (Below.refl _ _).alloc (Nat.le_refl _) _
  have q0 : (w.alloc (.cells #[.int .i64 x.b, .bool x.op, .bool x.vo, .int .i64 x.n] 103)).cell? ⟨w.heap.size, 0, none⟩ = some (.int .i64 x.b) := by go_simp
  have q1 : (w.alloc (.cells #[.int .i64 x.b, .bool x.op, .bool x.vo, .int .i64 x.n] 103)).cell? ⟨w.heap.size, 1, none⟩ = some (.bool x.op) := by go_simp
  have q2 : (w.alloc (.cells #[.int .i64 x.b, .bool x.op, .bool x.vo, .int .i64 x.n] 103)).cell? ⟨w.heap.size, 2, none⟩ = some (.bool x.vo) := by go_simp
  have q3 : (w.alloc (.cells #[.int .i64 x.b, .bool x.op, .bool x.vo, .int .i64 x.n] 103)).cell? ⟨w.heap.size, 3, none⟩ = some (.int .i64 x.n) := by go_simp
  have hlast := last_any B k hk (T k) 80 #[.pointer (some ⟨w.heap.size, 0, none⟩)] (openP x.b) _ ((h.row k hk).later hB0) (open_asks w.heap.size x.b _ q0) asks_enter67
  go_enter Tryd.func65, Tryd.ntmps65
  cases hl : lastF (openP x.b) (T k) with
  | none =>
    have hpt : lastPtr B k (openP x.b) (T k) = none := by rw [lastPtr, hl]; rfl
    have ht : Hid (toldF (T k) x.b = false) := by show _ = _; rw [toldF, hl]; rfl
    have hs : Hid (settleF (T k) x = T k) := by show _ = _; rw [settleF, hl]
    rw [hpt] at hlast
    clear hpt hl
    go_wp2_with (go_at_call 61; refine hlast.mono ?_; clear hlast; rintro e w' ⟨rfl, hb⟩)
    go_ret
    have hB1 : Below w.heap.size w w' := hB0.trans (hb.mono (by simp))
    refine ⟨ret_bool' ht.out.symm, (h.later hB1).congr fun j hj => ?_, below_grown hB1 _⟩
    unfold putT
    split
    · rename_i e; subst e; exact hs.out.symm
    · rfl
  | some i =>
    obtain ⟨hi, -, -⟩ := lastF_some.1 hl
    have hpt : lastPtr B k (openP x.b) (T k) = some ⟨B, k * 37 + i * 4, none⟩ := by rw [lastPtr, hl]; rfl
    have ht : Hid (toldF (T k) x.b = true) := by show _ = _; rw [toldF, hl]; rfl
    have hs : Hid (settleF (T k) x = (T k).set i x) := by show _ = _; rw [settleF, hl]
    rw [hpt] at hlast
    clear hpt hl
    go_wp2_with fail
    refine hlast.mono ?_
    clear hlast
    rintro e w' ⟨rfl, hb⟩
    have hB1 : Below w.heap.size w w' := hB0.trans (hb.mono (by simp))
    have hz : w.heap.size < w'.heap.size := by have := hb.size; simp at this; omega
    have h1 := h.later hB1
    have hfr := h1.free
    obtain ⟨c0, c1, c2, c3⟩ := (h1.row k hk).cell i hi
    replace q0 := cell_later hb q0
    replace q1 := cell_later hb q1
    replace q2 := cell_later hb q2
    replace q3 := cell_later hb q3
    clear hB0 hb
    go_wp2_with fail
    go_ret
    refine ⟨ret_bool' ht.out.symm, ?_, grown_trans (below_grown hB1 _) (put4_grown w' B (k * 37 + i * 4) x)⟩
    rw [hs.out]
    exact h1.put hk hi x

theorem settle_any (B : Nat) (k : Int) (T : Nat → List Slot4) (x : Slot4) (w : World) (h : TabAt w B T) :
    Calls Tryd.prog 65 #[.pointer (some ⟨B, 0, none⟩), .int .i64 k, .agg #[.int .i64 x.b, .bool x.op, .bool x.vo, .int .i64 x.n]] w fun e w' => e = .returned (.bool (toldT T k x.b)) ∧ TabAt w' B (settleT T k x) ∧ w.grownBy w' (some B) := by
  unfold settleT toldT
  by_cases hk : 0 ≤ k ∧ k < 10
  · obtain ⟨m, rfl⟩ : ∃ m : Nat, k = (m : Int) := ⟨k.toNat, by omega⟩
    rw [if_pos hk, if_pos hk, Int.toNat_natCast]
    exact settle_key B m (by omega) T x w h
  · rw [if_neg hk, if_neg hk]
    refine (settle_out B k (by omega) x w).mono ?_
    rintro e w' ⟨rfl, hb⟩
    exact ⟨rfl, h.later hb, below_grown hb _⟩

set_option maxHeartbeats 1000000 in
theorem set_any (B : Nat) (k b n : Int) (T : Nat → List Slot4) (w : World) (h : TabAt w B T) :
    Calls Tryd.prog 40 #[.pointer (some ⟨B, 0, none⟩), .int .i64 k, .int .i64 b, .int .i64 n] w fun e w' => e = .returned (.bool (toldT T k b)) ∧ TabAt w' B (settleT T k ⟨b, false, false, n⟩) ∧ w.grownBy w' (some B) := by
  have hs := settle_any B k T ⟨b, false, false, n⟩ w h
  dsimp only at hs
  go_enter Tryd.func40, Tryd.ntmps40
  go_wp2_with fail
  refine hs.mono ?_
  rintro e w' ⟨rfl, h1, h2⟩
  clear hs
  go_wp2_with fail
  go_ret
  exact ⟨rfl, h1, h2⟩

set_option maxHeartbeats 1000000 in
theorem void_any (B : Nat) (k b : Int) (T : Nat → List Slot4) (w : World) (h : TabAt w B T) :
    Calls Tryd.prog 42 #[.pointer (some ⟨B, 0, none⟩), .int .i64 k, .int .i64 b] w fun e w' => e = .returned (.bool (toldT T k b)) ∧ TabAt w' B (settleT T k ⟨b, false, true, 0⟩) ∧ w.grownBy w' (some B) := by
  have hs := settle_any B k T ⟨b, false, true, 0⟩ w h
  dsimp only at hs
  go_enter Tryd.func42, Tryd.ntmps42
  go_wp2_with fail
  refine hs.mono ?_
  rintro e w' ⟨rfl, h1, h2⟩
  clear hs
  go_wp2_with fail
  go_ret
  exact ⟨rfl, h1, h2⟩

theorem ret_two {a b : Int} {p : Int × Int} (h : p = (a, b)) : Ending.returned (.tuple #[.int .i64 a, .int .i64 b]) = .returned (.tuple #[.int .i64 p.1, .int .i64 p.2]) := by rw [h]

set_option maxHeartbeats 1000000 in
theorem before_out (B : Nat) (k b : Int) (hk : k < 0 ∨ 10 ≤ k) (w : World) :
    Calls Tryd.prog 33 #[.pointer (some ⟨B, 0, none⟩), .int .i64 k, .int .i64 b] w fun e w' => e = .returned (.tuple #[.int .i64 0, .int .i64 (-1)]) ∧ Below w.heap.size w w' := by
  have hmf : ∀ (fn : Fn) (first cap : Array Value) (w : World), (Instr.makeFunc fn first cap).run Tryd.prog w = .ok (.func fn first cap) w := fun _ _ _ _ => rfl
  have hB0 : Below w.heap.size w (w.alloc (.cells #[.int .i64 b] 3)) := (Below.refl _ _).alloc (Nat.le_refl _) _
  have hlast := last_out B k hk 62 #[.pointer (some ⟨w.heap.size, 0, none⟩)] (w.alloc (.cells #[.int .i64 b] 3))
  go_enter Tryd.func33, Tryd.ntmps33
  go_wp2_with fail
  refine hlast.mono ?_
  clear hlast
  rintro e w' ⟨rfl, hb⟩
  have hB1 : Below w.heap.size w w' := hB0.trans (hb.mono (by simp))
  clear hB0 hb
  go_wp2_with fail
  exact bodyPost_ret (v := .tuple #[.int .i64 0, .int .i64 (-1)]) (by simp [results, Tryd.results33, go_sem]) rfl ⟨rfl, hB1⟩

set_option maxHeartbeats 1000000 in
theorem before_key (B k : Nat) (hk : k < 10) (b : Int) (T : Nat → List Slot4) (w : World) (h : TabAt w B T) :
    Calls Tryd.prog 33 #[.pointer (some ⟨B, 0, none⟩), .int .i64 (k : Int), .int .i64 b] w fun e w' => e = .returned (.tuple #[.int .i64 (beforeF (T k) b).1, .int .i64 (beforeF (T k) b).2]) ∧ Below w.heap.size w w' := by
  have hmf : ∀ (fn : Fn) (first cap : Array Value) (w : World), (Instr.makeFunc fn first cap).run Tryd.prog w = .ok (.func fn first cap) w := fun _ _ _ _ => rfl
  have hB0 : Below w.heap.size w (w.alloc (.cells #[.int .i64 b] 3)) := (Below.refl _ _).alloc (Nat.le_refl _) _
  have q0 : (w.alloc (.cells #[.int .i64 b] 3)).cell? ⟨w.heap.size, 0, none⟩ = some (.int .i64 b) := by go_simp
  have hlast := last_any B k hk (T k) 62 #[.pointer (some ⟨w.heap.size, 0, none⟩)] (aheadP b) _ ((h.row k hk).later hB0) (ahead_asks w.heap.size b _ q0) asks_enter55
  clear q0
  cases hl : lastF (aheadP b) (T k) with
  | none =>
    have hpt : lastPtr B k (aheadP b) (T k) = none := by rw [lastPtr, hl]; rfl
    have hf : Hid (beforeF (T k) b = (0, -1)) := by show _ = _; rw [beforeF, hl]
    rw [hpt] at hlast
    clear hpt hl
    go_enter Tryd.func33, Tryd.ntmps33
    go_wp2_with fail
    refine hlast.mono ?_
    clear hlast
    rintro e w' ⟨rfl, hb⟩
    have hB1 : Below w.heap.size w w' := hB0.trans (hb.mono (by simp))
    clear hB0 hb
    go_wp2_with fail
    exact bodyPost_ret (v := .tuple #[.int .i64 0, .int .i64 (-1)]) (by simp [results, Tryd.results33, go_sem]) rfl ⟨ret_two hf.out, hB1⟩
  | some i =>
    obtain ⟨hi, -, -⟩ := lastF_some.1 hl
    have hpt : lastPtr B k (aheadP b) (T k) = some ⟨B, k * 37 + i * 4, none⟩ := by rw [lastPtr, hl]; rfl
    rw [hpt] at hlast
    clear hpt
    cases ho : (slotAt (T k) i).op with
    | true =>
      have hf : Hid (beforeF (T k) b = (0, (slotAt (T k) i).b)) := by show _ = _; rw [beforeF, hl]; simp [ho]
      clear hl
      go_enter Tryd.func33, Tryd.ntmps33
      go_wp2_with fail
      refine hlast.mono ?_
      clear hlast
      rintro e w' ⟨rfl, hb⟩
      have hB1 : Below w.heap.size w w' := hB0.trans (hb.mono (by simp))
      obtain ⟨c0, c1, c2, c3⟩ := ((h.row k hk).later hB1).cell i hi
      rw [ho] at c1
      clear hB0 hb ho
      go_wp2_with fail
      go_quiet (fail)
      go_wp2_with fail
      exact bodyPost_ret (v := .tuple #[.int .i64 0, .int .i64 (slotAt (T k) i).b]) (by simp [results, Tryd.results33, go_sem]) rfl ⟨ret_two hf.out, drewN_below hB1 _⟩
    | false =>
      have hf : Hid (beforeF (T k) b = ((slotAt (T k) i).n, -1)) := by show _ = _; rw [beforeF, hl]; simp [ho]
      clear hl
      go_enter Tryd.func33, Tryd.ntmps33
      go_wp2_with fail
      refine hlast.mono ?_
      clear hlast
      rintro e w' ⟨rfl, hb⟩
      have hB1 : Below w.heap.size w w' := hB0.trans (hb.mono (by simp))
      obtain ⟨c0, c1, c2, c3⟩ := ((h.row k hk).later hB1).cell i hi
      rw [ho] at c1
      clear hB0 hb ho
      go_wp2_with fail
      exact bodyPost_ret (v := .tuple #[.int .i64 (slotAt (T k) i).n, .int .i64 (-1)]) (by simp [results, Tryd.results33, go_sem]) rfl ⟨ret_two hf.out, hB1⟩

theorem before_any (B : Nat) (k b : Int) (T : Nat → List Slot4) (w : World) (h : TabAt w B T) :
    Calls Tryd.prog 33 #[.pointer (some ⟨B, 0, none⟩), .int .i64 k, .int .i64 b] w fun e w' => e = .returned (.tuple #[.int .i64 (beforeT T k b).1, .int .i64 (beforeT T k b).2]) ∧ Below w.heap.size w w' := by
  unfold beforeT
  by_cases hk : 0 ≤ k ∧ k < 10
  · obtain ⟨m, rfl⟩ : ∃ m : Nat, k = (m : Int) := ⟨k.toNat, by omega⟩
    rw [if_pos hk, Int.toNat_natCast]
    exact before_key B m (by omega) b T w h
  · rw [if_neg hk]
    exact before_out B k b (by omega) w
end Go.Proofs.YthlhbmldfjkagaaDoor
