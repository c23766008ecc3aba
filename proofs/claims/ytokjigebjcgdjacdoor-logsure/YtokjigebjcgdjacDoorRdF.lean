/-
  The walks of codec.read and of the function that it defers.
-/
import Derived.Test.YtokjigebjcgdjacDoorRdE
import Derived.Defers
import Derived.Recover
namespace Go.Proofs.YtokjigebjcgdjacDoor
open Go.RowKit

theorem eql_nil (w : World) : (binOp .eql 20 (.iface 83 (.agg #[])) .nilIface).run Tryd.prog w = .ok (.bool false) w := by kernel_rfl
theorem eql_gave (w : World) : (binOp .eql 20 (.iface 83 (.agg #[])) (.iface 83 (.agg #[]))).run Tryd.prog w = .ok (.bool true) w := by kernel_rfl

set_option maxRecDepth 100000 in
set_option maxHeartbeats 400000 in
theorem catch_gave (B : Nat) (v u : Value) (w : World) (hp : w.cell? ⟨B, 0, none⟩ = some v) (hq : w.cell? ⟨B + 1, 0, none⟩ = some u) (fp : w.frozen? ⟨B, 0, none⟩ = false) (fq : w.frozen? ⟨B + 1, 0, none⟩ = false) :
    CallsD Tryd.prog 45 #[.pointer (some ⟨B, 0, none⟩), .pointer (some ⟨B + 1, 0, none⟩)] (.panicking gave) w fun e u' w' =>
      e = .returned (.tuple #[]) ∧ u' = .panicking [{ v := .iface 83 (.agg #[]), recovered := true }] ∧ w' = (w.setCell ⟨B, 0, none⟩ (.slice none 0 0)).setCell ⟨B + 1, 0, none⟩ (.bool false) := by
  refine callsD_of_wpS Tryd.func45 rfl fun c₀ cs hu => ?_
  have h1 := eql_nil
  have h2 := eql_gave
  apply wpS_seq
  apply wpS_region
  simp [wpOpsS, go_sem, recoverD, hu, gave, Tryd.ntmps45, Exit.thenS]
  refine wpS_of_wp ?_
  go_wp2
  simp [bodyPostS, results, Tryd.results45]

theorem eql_none (w : World) : (binOp .eql 20 .nilIface .nilIface).run Tryd.prog w = .ok (.bool true) w := by kernel_rfl

set_option maxRecDepth 100000 in
set_option maxHeartbeats 400000 in
theorem catch_idle (p q : Addr) (w : World) :
    CallsD Tryd.prog 45 #[.pointer (some p), .pointer (some q)] .returning w fun e u' w' => e = .returned (.tuple #[]) ∧ u' = .returning ∧ w' = w := by
  refine callsD_of_wpS Tryd.func45 rfl fun c₀ cs hu => ?_
  have h1 := eql_none
  apply wpS_seq
  apply wpS_region
  simp [wpOpsS, go_sem, recoverD, hu, Tryd.ntmps45, Exit.thenS]
  refine wpS_of_wp ?_
  go_wp2
  cases c₀
  simp_all [bodyPostS, results, Tryd.results45]

theorem readAll_some {l : List Int} {r : List (List Op5)} (h : readAll l = some r) : readRound l = some (r, []) := by
  unfold readAll at h
  split at h
  · rename_i r' e; cases h; exact e
  · cases h
theorem readAll_none {l : List Int} (h : readAll l = none) : readRound l = none ∨ ∃ r x m, readRound l = some (r, x :: m) := by
  unfold readAll at h
  split at h
  · cases h
  · rename_i hne
    cases e : readRound l with
    | none => exact .inl rfl
    | some y =>
      obtain ⟨r, m⟩ := y
      cases m with
      | nil => exact absurd e (hne r)
      | cons x m => exact .inr ⟨r, x, m, rfl⟩

/-- The two results' variables, and the reader, as read lays them. -/
structure Beg (w W : World) (l : List Int) : Prop where
  rd : ReadAt W w.heap.size (w.heap.size + 1 + 1) l
  c0 : ∃ v, W.cell? ⟨w.heap.size, 0, none⟩ = some (.slice v 0 0)
  c1 : W.cell? ⟨w.heap.size + 1, 0, none⟩ = some (.bool false)
  f0 : W.frozen? ⟨w.heap.size, 0, none⟩ = false
  f1 : W.frozen? ⟨w.heap.size + 1, 0, none⟩ = false
  lt : w.heap.size + 1 + 1 < W.heap.size
  be : Below w.heap.size w W
theorem beg_new {w : World} {a : Option Addr} {cap : Nat} {l : List Int} (hb : AllB l) (h : BytesIn (fun b => b < w.heap.size) w (.slice a l.length cap) l) :
    Beg w (((w.alloc (.cells #[.slice none 0 0] 23)).alloc (.cells #[.bool false] 4)).alloc (.cells #[.slice a l.length cap] 86)) l := by
  have hB : Below w.heap.size w (((w.alloc (.cells #[.slice none 0 0] 23)).alloc (.cells #[.bool false] 4)).alloc (.cells #[.slice a l.length cap] 86)) := (((Below.refl _ _).alloc (Nat.le_refl _) _).alloc (by simp) _).alloc (by simp; omega) _
  exact ⟨⟨by omega, hb, _, by go_simp, by go_simp, h.grew (S := fun _ => False) (Grew.of_below hB) (fun _ _ h => h)⟩, ⟨none, by go_simp⟩, by go_simp, by go_simp, by go_simp, by simp, hB⟩

/-- The results are read behind the deferred call. -/
theorem done_results {W : World} {B : Nat} {u b : Value} {ts : Array Value} (h0 : W.cell? ⟨B, 0, none⟩ = some u) (h1 : W.cell? ⟨B + 1, 0, none⟩ = some b) (t0 : ts[2]? = some (.pointer (some ⟨B, 0, none⟩))) (t1 : ts[3]? = some (.pointer (some ⟨B + 1, 0, none⟩))) : (results Tryd.f30 ts).run Tryd.prog W = .ok (.tuple #[u, b]) W := by
  simp [results, Tryd.results30, go_sem, t0, t1, h0, h1]
theorem done_ok {w w1 W : World} {r : List (List Op5)} {ua v0 : Option Addr} {ucap : Nat} {ts : Array Value} (c0 : w1.cell? ⟨w.heap.size, 0, none⟩ = some (.slice v0 0 0)) (c1 : w1.cell? ⟨w.heap.size + 1, 0, none⟩ = some (.bool false)) (hlt : w.heap.size + 1 + 1 < W.heap.size) (hU : RoundIn (fun b => W.heap.size ≤ b) w1 (.slice ua r.length ucap) r) (hB : Below w.heap.size w w1)
    (t0 : ts[2]? = some (.pointer (some ⟨w.heap.size, 0, none⟩))) (t1 : ts[3]? = some (.pointer (some ⟨w.heap.size + 1, 0, none⟩))) :
    Leaves Tryd.prog Tryd.f30 ts (fun e w' => (∃ u, e = .returned (.tuple #[u, .bool true]) ∧ RoundAt w' u r) ∧ Below w.heap.size w w') [] (settle .returning) (((w1.setCell ⟨w.heap.size, 0, none⟩ (.slice ua r.length ucap)).setCell ⟨w.heap.size, 0, none⟩ (.slice ua r.length ucap)).setCell ⟨w.heap.size + 1, 0, none⟩ (.bool true)) := by
  have d0 : (w1.setCell ⟨w.heap.size, 0, none⟩ (.slice ua r.length ucap)).cell? ⟨w.heap.size, 0, none⟩ = some (.slice ua r.length ucap) := World.cell?_setCell_same _ _ _ c0
  have d1 : ((w1.setCell ⟨w.heap.size, 0, none⟩ (.slice ua r.length ucap)).setCell ⟨w.heap.size, 0, none⟩ (.slice ua r.length ucap)).cell? ⟨w.heap.size + 1, 0, none⟩ = some (.bool false) := by
    rw [World.cell?_setCell_other _ _ _ _ (fun h => by simp only [Addr.mk.injEq] at h; omega), World.cell?_setCell_other _ _ _ _ (fun h => by simp only [Addr.mk.injEq] at h; omega)]; exact c1
  refine ⟨.tuple #[.slice ua r.length ucap, .bool true], done_results ?_ (World.cell?_setCell_same _ _ _ d1) t0 t1, ⟨_, rfl, ?_⟩, ?_⟩
  · rw [World.cell?_setCell_other _ _ _ _ (fun h => by simp only [Addr.mk.injEq] at h; omega)]; exact World.cell?_setCell_same _ _ _ d0
  · exact (((hU.grew (grew_cellC _ _ _ _) (fun b hb e => by omega)).grew (grew_cellC _ _ _ _) (fun b hb e => by omega)).grew (grew_cellC _ _ _ _) (fun b hb e => by omega)).at
  · exact ((hB.setCell (p := ⟨w.heap.size, 0, none⟩) (Nat.le_refl _) _).setCell (p := ⟨w.heap.size, 0, none⟩) (Nat.le_refl _) _).setCell (p := ⟨w.heap.size + 1, 0, none⟩) (by simp) _
/-- A reader gave up: the results are none, and false. -/
theorem done_gave {w w1 : World} {u : Value} {ts : Array Value} (c0 : w1.cell? ⟨w.heap.size, 0, none⟩ = some u) (c1 : w1.cell? ⟨w.heap.size + 1, 0, none⟩ = some (.bool false)) (hB : Below w.heap.size w w1)
    (t0 : ts[2]? = some (.pointer (some ⟨w.heap.size, 0, none⟩))) (t1 : ts[3]? = some (.pointer (some ⟨w.heap.size + 1, 0, none⟩))) :
    Leaves Tryd.prog Tryd.f30 ts (fun e w' => e = .returned (.tuple #[.slice none 0 0, .bool false]) ∧ Below w.heap.size w w') [] (settle (.panicking [{ v := .iface 83 (.agg #[]), recovered := true }])) ((w1.setCell ⟨w.heap.size, 0, none⟩ (.slice none 0 0)).setCell ⟨w.heap.size + 1, 0, none⟩ (.bool false)) := by
  have d1 : (w1.setCell ⟨w.heap.size, 0, none⟩ (.slice none 0 0)).cell? ⟨w.heap.size + 1, 0, none⟩ = some (.bool false) := by
    rw [World.cell?_setCell_other _ _ _ _ (fun h => by simp only [Addr.mk.injEq] at h; omega)]; exact c1
  refine ⟨.tuple #[.slice none 0 0, .bool false], done_results ?_ (World.cell?_setCell_same _ _ _ d1) t0 t1, rfl, ?_⟩
  · rw [World.cell?_setCell_other _ _ _ _ (fun h => by simp only [Addr.mk.injEq] at h; omega)]; exact World.cell?_setCell_same _ _ _ c0
  · exact (hB.setCell (p := ⟨w.heap.size, 0, none⟩) (Nat.le_refl _) _).setCell (p := ⟨w.heap.size + 1, 0, none⟩) (by simp) _

set_option maxRecDepth 100000 in
set_option maxHeartbeats 1000000 in
theorem read_some {l : List Int} {r : List (List Op5)} {v : Value} {w : World} (h : BytesAt w v l) (hb : AllB l) (e : readAll l = some r) :
    Calls Tryd.prog 30 #[v] w fun e w' => (∃ u, e = .returned (.tuple #[u, .bool true]) ∧ RoundAt w' u r) ∧ Below w.heap.size w w' := by
  have hmf : ∀ (fn : Fn) (first cap : Array Value) (w : World), (Instr.makeFunc fn first cap).run Tryd.prog w = .ok (.func fn first cap) w := fun _ _ _ _ => rfl
  have h' := h.inside
  obtain ⟨a, cap, rfl, -⟩ := h
  have hbeg := beg_new hb h'
  go_enter_defers Tryd.func30, Tryd.ntmps30
  go_wp2_with fail
  generalize ((w.alloc (.cells #[.slice none 0 0] 23)).alloc (.cells #[.bool false] 4)).alloc (.cells #[.slice a l.length cap] 86) = W at *
  obtain ⟨hR, ⟨v0, c0⟩, c1, f0, f1, hlt, hB⟩ := hbeg
  refine (round_some hR (readAll_some e)).mono ?_
  rintro e w1 ⟨⟨u, rfl, hU⟩, hR1, hG1⟩
  replace c0 := hG1.cell c0 (show ¬ w.heap.size = w.heap.size + 1 + 1 by omega)
  replace c1 := hG1.cell c1 (show ¬ w.heap.size + 1 = w.heap.size + 1 + 1 by omega)
  replace f0 := (hG1.frozen (p := ⟨w.heap.size, 0, none⟩) (by simp; omega) (show ¬ w.heap.size = w.heap.size + 1 + 1 by omega)).trans f0
  replace f1 := (hG1.frozen (p := ⟨w.heap.size + 1, 0, none⟩) (by simp; omega) (show ¬ w.heap.size + 1 = w.heap.size + 1 + 1 by omega)).trans f1
  have hB1 : Below w.heap.size w w1 := hG1.below hB hB.size (fun k hk => by omega)
  have hlt1 : w.heap.size + 1 + 1 < w1.heap.size := Nat.lt_of_lt_of_le hlt hG1.size
  have hU0 := hU
  obtain ⟨ua, ucap, rfl, -⟩ := hU
  clear hR hG1
  go_wp2_with fail
  refine (end_none (hR1.other (Nat.le_refl _) (by omega) 0 _)).mono ?_
  rintro e w2 ⟨rfl, rfl⟩
  go_wp2_with fail
  refine leaves_cons (f := 45) (args := #[.pointer (some ⟨w.heap.size, 0, none⟩), .pointer (some ⟨w.heap.size + 1, 0, none⟩)]) (by simp) (by simp [go_sem]) ?_
  refine (catch_idle ⟨w.heap.size, 0, none⟩ ⟨w.heap.size + 1, 0, none⟩ _).mono ?_
  rintro e u' w'' ⟨rfl, rfl, rfl⟩
  exact done_ok c0 c1 hlt hU0 hB1 rfl rfl

set_option maxRecDepth 100000 in
set_option maxHeartbeats 1000000 in
theorem read_none {l : List Int} {v : Value} {w : World} (h : BytesAt w v l) (hb : AllB l) (e : readAll l = none) :
    Calls Tryd.prog 30 #[v] w fun e w' => e = .returned (.tuple #[.slice none 0 0, .bool false]) ∧ Below w.heap.size w w' := by
  have hmf : ∀ (fn : Fn) (first cap : Array Value) (w : World), (Instr.makeFunc fn first cap).run Tryd.prog w = .ok (.func fn first cap) w := fun _ _ _ _ => rfl
  have h' := h.inside
  obtain ⟨a, cap, rfl, -⟩ := h
  have hbeg := beg_new hb h'
  go_enter_defers Tryd.func30, Tryd.ntmps30
  go_wp2_with fail
  generalize ((w.alloc (.cells #[.slice none 0 0] 23)).alloc (.cells #[.bool false] 4)).alloc (.cells #[.slice a l.length cap] 86) = W at *
  obtain ⟨hR, ⟨v0, c0⟩, c1, f0, f1, hlt, hB⟩ := hbeg
  rcases readAll_none e with e | ⟨r, x, m, e⟩
  · refine (round_none hR e).mono ?_
    rintro e w1 ⟨rfl, hG1⟩
    replace c0 := hG1.cell c0 (show ¬ w.heap.size = w.heap.size + 1 + 1 by omega)
    replace c1 := hG1.cell c1 (show ¬ w.heap.size + 1 = w.heap.size + 1 + 1 by omega)
    replace f0 := (hG1.frozen (p := ⟨w.heap.size, 0, none⟩) (by simp; omega) (show ¬ w.heap.size = w.heap.size + 1 + 1 by omega)).trans f0
    replace f1 := (hG1.frozen (p := ⟨w.heap.size + 1, 0, none⟩) (by simp; omega) (show ¬ w.heap.size + 1 = w.heap.size + 1 + 1 by omega)).trans f1
    have hB1 : Below w.heap.size w w1 := hG1.below hB hB.size (fun k hk => by omega)
    refine leaves_cons (f := 45) (args := #[.pointer (some ⟨w.heap.size, 0, none⟩), .pointer (some ⟨w.heap.size + 1, 0, none⟩)]) (by simp) (by simp [go_sem]) ?_
    refine (catch_gave w.heap.size _ _ _ c0 c1 f0 f1).mono ?_
    rintro e u' w'' ⟨rfl, rfl, rfl⟩
    exact done_gave c0 c1 hB1 rfl rfl
  · refine (round_some hR e).mono ?_
    rintro e w1 ⟨⟨u, rfl, hU⟩, hR1, hG1⟩
    replace c0 := hG1.cell c0 (show ¬ w.heap.size = w.heap.size + 1 + 1 by omega)
    replace c1 := hG1.cell c1 (show ¬ w.heap.size + 1 = w.heap.size + 1 + 1 by omega)
    replace f0 := (hG1.frozen (p := ⟨w.heap.size, 0, none⟩) (by simp; omega) (show ¬ w.heap.size = w.heap.size + 1 + 1 by omega)).trans f0
    replace f1 := (hG1.frozen (p := ⟨w.heap.size + 1, 0, none⟩) (by simp; omega) (show ¬ w.heap.size + 1 = w.heap.size + 1 + 1 by omega)).trans f1
    have hB1 : Below w.heap.size w w1 := hG1.below hB hB.size (fun k hk => by omega)
    obtain ⟨ua, ucap, rfl, -⟩ := hU
    clear hR hG1
    go_wp2_with fail
    refine (end_some (hR1.other (Nat.le_refl _) (by omega) 0 _)).mono ?_
    rintro e w2 ⟨rfl, rfl⟩
    have d0 : (w1.setCell ⟨w.heap.size, 0, none⟩ (.slice ua r.length ucap)).cell? ⟨w.heap.size, 0, none⟩ = some (.slice ua r.length ucap) := World.cell?_setCell_same _ _ _ c0
    have d1 : (w1.setCell ⟨w.heap.size, 0, none⟩ (.slice ua r.length ucap)).cell? ⟨w.heap.size + 1, 0, none⟩ = some (.bool false) := by
      rw [World.cell?_setCell_other _ _ _ _ (fun h => by simp only [Addr.mk.injEq] at h; omega)]; exact c1
    refine leaves_cons (f := 45) (args := #[.pointer (some ⟨w.heap.size, 0, none⟩), .pointer (some ⟨w.heap.size + 1, 0, none⟩)]) (by simp) (by simp [go_sem]) ?_
    refine (catch_gave w.heap.size _ _ _ d0 d1 (by rw [World.frozen?_setCell]; exact f0) (by rw [World.frozen?_setCell]; exact f1)).mono ?_
    rintro e u' w'' ⟨rfl, rfl, rfl⟩
    exact done_gave d0 d1 (hB1.setCell (p := ⟨w.heap.size, 0, none⟩) (Nat.le_refl _) _) rfl rfl
end Go.Proofs.YtokjigebjcgdjacDoor
