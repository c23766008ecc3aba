/-
  The walks of a reader's deed and round.
-/
import Derived.Test.YtokjigebjcgdjacDoorRdC
import Derived.Laws.MakeOwn
import Derived.Deep.LoopGhost
namespace Go.Proofs.YtokjigebjcgdjacDoor
open Go.RowKit

theorem infoDeed : (Tryd.prog.info? 61).map (fun i => (i.zero, i.size, i.bytes)) = some (some (.slice none 0 0), 1, 24) := by kernel_rfl
theorem infoOp : (Tryd.prog.info? 63).map (fun i => (i.zero, i.size, i.bytes)) = some (some (.agg #[.int .i64 0, .int .i64 0, .int .i64 0, .int .i64 0, .int .i64 0]), 5, 40) := by kernel_rfl

theorem makeDeed (n : Nat) (hn : n < 256) : ∃ cs : Array Value, cs.size = n * 5 ∧ ∀ w, (Instr.makeSlice 61 (.int .u8 (n : Int)) (.int .u8 (n : Int))).run Tryd.prog w = .ok (.slice (some ⟨w.heap.size, 0, none⟩) n n) (w.alloc (.cells cs 63)) := by
  obtain ⟨i, hi, hz, hs, hb⟩ := info_parts infoOp
  refine ⟨madeCells (Value.agg #[.int .i64 0, .int .i64 0, .int .i64 0, .int .i64 0, .int .i64 0]).cells (n * i.size), ?_, fun w => ?_⟩
  · rw [size_madeCells, hs]
  · have := run_make (P := Tryd.prog) w 61 63 i _ Tryd.underlying61 hi hz .u8 .u8 n n (by omega) (Int.le_refl _) (by rw [hb]; omega) (by omega)
    simp only [Int.toNat_natCast] at this
    exact this
theorem makeRound (n : Nat) (hn : n < 256) : ∃ cs : Array Value, cs.size = n ∧ ∀ w, (Instr.makeSlice 23 (.int .u8 (n : Int)) (.int .u8 (n : Int))).run Tryd.prog w = .ok (.slice (some ⟨w.heap.size, 0, none⟩) n n) (w.alloc (.cells cs 61)) := by
  obtain ⟨i, hi, hz, hs, hb⟩ := info_parts infoDeed
  refine ⟨madeCells (Value.slice none 0 0).cells (n * i.size), ?_, fun w => ?_⟩
  · rw [size_madeCells, hs, Nat.mul_one]
  · have := run_make (P := Tryd.prog) w 23 61 i _ Tryd.underlying23 hi hz .u8 .u8 n n (by omega) (Int.le_refl _) (by rw [hb]; omega) (by omega)
    simp only [Int.toNat_natCast] at this
    exact this

/-- A row of n operations whose first ones are laid. -/
structure PartAt (w : World) (g n : Nat) (os : List Op5) : Prop where
  have_ : ∀ i, i < n * 5 → ∃ u, w.cell? ⟨g, i, none⟩ = some u
  fr : ∀ o, w.frozen? ⟨g, o, none⟩ = false
  lt : g < w.heap.size
  cell : ∀ i (h : i < os.length), w.cell? ⟨g, i * 5, none⟩ = some (.int .i64 os[i].k) ∧ w.cell? ⟨g, i * 5 + 1, none⟩ = some (.int .i64 os[i].a) ∧ w.cell? ⟨g, i * 5 + 2, none⟩ = some (.int .i64 os[i].b) ∧ w.cell? ⟨g, i * 5 + 3, none⟩ = some (.int .i64 os[i].c) ∧ w.cell? ⟨g, i * 5 + 4, none⟩ = some (.int .i64 os[i].n)
theorem PartAt.grew {S : Nat → Prop} {w w' : World} {g n : Nat} {os : List Op5} (h : PartAt w g n os) (hg : Grew S w w') (hn : ¬ S g) : PartAt w' g n os :=
  ⟨fun i hi => by obtain ⟨u, hu⟩ := h.have_ i hi; exact ⟨u, hg.cell hu hn⟩, fun o => by rw [hg.frozen (p := ⟨g, o, none⟩) h.lt hn]; exact h.fr o, Nat.lt_of_lt_of_le h.lt hg.size, fun i hi => by
    obtain ⟨c0, c1, c2, c3, c4⟩ := h.cell i hi
    exact ⟨hg.cell c0 hn, hg.cell c1 hn, hg.cell c2 hn, hg.cell c3 hn, hg.cell c4 hn⟩⟩
theorem set_have {w : World} {g i m : Nat} {u : Value} (x : Value) (h : w.cell? ⟨g, i, none⟩ = some u) : ∃ u, (w.setCell ⟨g, m, none⟩ x).cell? ⟨g, i, none⟩ = some u := by
  by_cases e : i = m
  · subst e; exact ⟨x, World.cell?_setCell_same _ _ _ h⟩
  · exact ⟨u, by rw [cell_apart' _ e]; exact h⟩
theorem PartAt.put {w : World} {g n : Nat} {os : List Op5} (h : PartAt w g n os) (hlt : os.length < n) (o : Op5) : PartAt (((((w.setCell ⟨g, os.length * 5, none⟩ (.int .i64 o.k)).setCell ⟨g, os.length * 5 + 1, none⟩ (.int .i64 o.a)).setCell ⟨g, os.length * 5 + 2, none⟩ (.int .i64 o.b)).setCell ⟨g, os.length * 5 + 3, none⟩ (.int .i64 o.c)).setCell ⟨g, os.length * 5 + 4, none⟩ (.int .i64 o.n)) g n (os ++ [o]) := by
  obtain ⟨u0, h0⟩ := h.have_ (os.length * 5) (by omega)
  obtain ⟨u1, h1⟩ := h.have_ (os.length * 5 + 1) (by omega)
  obtain ⟨u2, h2⟩ := h.have_ (os.length * 5 + 2) (by omega)
  obtain ⟨u3, h3⟩ := h.have_ (os.length * 5 + 3) (by omega)
  obtain ⟨u4, h4⟩ := h.have_ (os.length * 5 + 4) (by omega)
  refine ⟨fun i hi => ?_, fun o => by simp only [World.frozen?_setCell]; exact h.fr o, ?_, fun i hi => ?_⟩
  · obtain ⟨u, hu⟩ := h.have_ i hi
    obtain ⟨u, hu⟩ := set_have (m := os.length * 5) (.int .i64 o.k) hu
    obtain ⟨u, hu⟩ := set_have (m := os.length * 5 + 1) (.int .i64 o.a) hu
    obtain ⟨u, hu⟩ := set_have (m := os.length * 5 + 2) (.int .i64 o.b) hu
    obtain ⟨u, hu⟩ := set_have (m := os.length * 5 + 3) (.int .i64 o.c) hu
    exact set_have (m := os.length * 5 + 4) (.int .i64 o.n) hu
  · simp only [World.setCell, Array.size_modify]; exact h.lt
  · by_cases hi' : i < os.length
    · rw [List.getElem_append_left hi']
      obtain ⟨c0, c1, c2, c3, c4⟩ := h.cell i hi'
      refine ⟨?_, ?_, ?_, ?_, ?_⟩
      all_goals rw [cell_apart' _ (by omega), cell_apart' _ (by omega), cell_apart' _ (by omega), cell_apart' _ (by omega), cell_apart' _ (by omega)]
      all_goals assumption
    · obtain rfl : i = os.length := by simp at hi; omega
      rw [List.getElem_append_right (Nat.le_refl _)]
      simp only [Nat.sub_self, List.getElem_cons_zero]
      refine ⟨?_, ?_, ?_, ?_, ?_⟩
      · rw [cell_apart' _ (by omega), cell_apart' _ (by omega), cell_apart' _ (by omega), cell_apart' _ (by omega)]
        exact World.cell?_setCell_same _ _ _ h0
      · rw [cell_apart' _ (by omega), cell_apart' _ (by omega), cell_apart' _ (by omega)]
        exact World.cell?_setCell_same _ _ _ (by rw [cell_apart' _ (by omega)]; exact h1)
      · rw [cell_apart' _ (by omega), cell_apart' _ (by omega)]
        exact World.cell?_setCell_same _ _ _ (by rw [cell_apart' _ (by omega), cell_apart' _ (by omega)]; exact h2)
      · rw [cell_apart' _ (by omega)]
        exact World.cell?_setCell_same _ _ _ (by rw [cell_apart' _ (by omega), cell_apart' _ (by omega), cell_apart' _ (by omega)]; exact h3)
      · exact World.cell?_setCell_same _ _ _ (by rw [cell_apart' _ (by omega), cell_apart' _ (by omega), cell_apart' _ (by omega), cell_apart' _ (by omega)]; exact h4)
theorem part_new (w : World) (cs : Array Value) (n : Nat) (t : TypeId) (hcs : cs.size = n * 5) : PartAt (w.alloc (.cells cs t)) w.heap.size n [] := by
  have hg := heap_alloc_new w (.cells cs t)
  refine ⟨fun i hi => ⟨cs[i]'(by omega), ?_⟩, fun o => by go_simp, by simp, fun i hi => by simp at hi⟩
  rw [cell_of_row _ _ i cs t (0, 0) hg]
  simp [show i < cs.size by omega]
theorem PartAt.deed {w : World} {g : Nat} {os : List Op5} (P : Nat → Prop) (hP : P g) (h : PartAt w g os.length os) : DeedIn P w (.slice (some ⟨g, 0, none⟩) os.length os.length) os :=
  ⟨_, _, rfl, fun i hi => ⟨g, 0, hP, rfl, by simpa using h.cell i hi⟩⟩

theorem grew_at5 {C : Nat} {w W : World} (h : Grew (fun b => b = C) w W) {b : Nat} (hb : w.heap.size ≤ b) (o0 o1 o2 o3 o4 : Nat) (x0 x1 x2 x3 x4 : Value) : Grew (fun b => b = C) w (((((W.setCell ⟨b, o0, none⟩ x0).setCell ⟨b, o1, none⟩ x1).setCell ⟨b, o2, none⟩ x2).setCell ⟨b, o3, none⟩ x3).setCell ⟨b, o4, none⟩ x4) := grew_one (grew_one (grew_one (grew_one (grew_one h hb o0 x0) hb o1 x1) hb o2 x2) hb o3 x3) hb o4 x4
theorem read_at5 {w : World} {N C g : Nat} {l : List Int} (h : ReadAt w N C l) (hg : C < g) (o0 o1 o2 o3 o4 : Nat) (x0 x1 x2 x3 x4 : Value) : ReadAt (((((w.setCell ⟨g, o0, none⟩ x0).setCell ⟨g, o1, none⟩ x1).setCell ⟨g, o2, none⟩ x2).setCell ⟨g, o3, none⟩ x3).setCell ⟨g, o4, none⟩ x4) N C l := ((((h.apart hg o0 x0).apart hg o1 x1).apart hg o2 x2).apart hg o3 x3).apart hg o4 x4

set_option maxRecDepth 100000 in
set_option maxHeartbeats 1000000 in
theorem deed_some {N C : Nat} {l l' : List Int} {d : List Op5} {w : World} (h : ReadAt w N C l) (e : readDeed l = some (d, l')) :
    Calls Tryd.prog 53 #[.pointer (some ⟨C, 0, none⟩)] w fun e w' => (∃ dv, e = .returned dv ∧ DeedIn (fun b => w.heap.size ≤ b) w' dv d) ∧ ReadAt w' N C l' ∧ Grew (fun b => b = C) w w' := by
  cases l with
  | nil => simp [readDeed] at e
  | cons x l =>
    have hx := h.all.head
    unfold IsB at hx
    obtain ⟨n, rfl⟩ := Int.eq_ofNat_of_zero_le hx.1
    simp only [readDeed, Int.toNat_natCast] at e
    obtain ⟨cs, hcs, hm⟩ := makeDeed n (by omega)
    have hlt := h.lt
    have hd : d.length = n := (opsB_readOps h.all.tail e).1
    go_enter Tryd.func53, Tryd.ntmps53
    go_wp2_with fail
    refine (next_some h).mono ?_
    rintro e w1 ⟨rfl, hR1, hG1, hS1⟩
    go_wp2_with fail
    have hP0 := part_new w1 cs n 63 hcs
    have hG0 : Grew (fun b => b = C) w (w1.alloc (.cells cs 63)) := hG1.trans (grew_new _ _ _)
    have hR0 := hR1.alloc (.cells cs 63)
    rw [hS1] at hP0
    generalize w1.alloc (.cells cs 63) = W0 at *
    clear hR1 hG1 hS1 w1 hm hcs h
    go_loopg [10] n (fun g i wr => ∃ os d' rest, d = os ++ d' ∧ g = n - os.length ∧ i = .int .i64 (os.length : Int) ∧ Hid (readOps d'.length rest = some (d', l')) ∧ ReadAt wr N C rest ∧ Grew (fun b => b = C) w wr ∧ PartAt wr w.heap.size n os)
    case atStart => exact ⟨[], d, l, rfl, by simp, rfl, by rw [hd]; exact e, hR0, hG0, hP0⟩
    case round =>
      obtain ⟨os, d', rest, hdd, hg, rfl, hr, hR, hG, hP⟩ := hrel
      clear hR0 hG0 hP0 e
      have hlen : os.length + d'.length = n := by rw [← hd, hdd, List.length_append]
      cases d' with
      | nil =>
        have hr' := hr.out
        simp only [List.length_nil, readOps, Option.some.injEq, Prod.mk.injEq, true_and] at hr'
        subst hr'
        simp only [List.append_nil] at hdd
        simp only [List.length_nil, Nat.add_zero] at hlen
        subst hdd
        have hlt' : ¬ ((d.length : Int) < (n : Int)) := by omega
        clear hr
        go_wp2_with fail
        go_ret
        refine ⟨⟨_, rfl, ?_⟩, hR, hG⟩
        rw [← hlen] at hP ⊢
        exact hP.deed _ (Nat.le_refl _)
      | cons o d' =>
        have hr' := hr.out
        simp only [List.length_cons, readOps] at hr' hlen
        clear hr
        cases h1 : readOp rest with
        | none => rw [h1] at hr'; simp at hr'
        | some y =>
          obtain ⟨o1, rest1⟩ := y
          rw [h1] at hr'
          simp only at hr'
          cases h2 : readOps d'.length rest1 with
          | none => rw [h2] at hr'; simp at hr'
          | some z =>
            obtain ⟨d2, l2⟩ := z
            rw [h2] at hr'
            simp only [Option.some.injEq, Prod.mk.injEq, List.cons.injEq] at hr'
            obtain ⟨⟨rfl, rfl⟩, rfl⟩ := hr'
            have hlt' : ((os.length : Int) < (n : Int)) := by omega
            have H2 : Hid (readOps d2.length rest1 = some (d2, l2)) := h2
            clear h2
            go_wp2_with fail
            refine (op_some hR h1).mono ?_
            rintro e w2 ⟨rfl, hR2, hG2⟩
            have hP2 := hP.grew hG2 (by omega)
            have hG' := hG.trans hG2
            clear hR hG hP hG2 h1
            have hPP := hP2.put (by omega) o1
            obtain ⟨u0, q0⟩ := hP2.have_ (os.length * 5) (by omega)
            obtain ⟨u1, q1⟩ := hP2.have_ (os.length * 5 + 1) (by omega)
            obtain ⟨u2, q2⟩ := hP2.have_ (os.length * 5 + 2) (by omega)
            obtain ⟨u3, q3⟩ := hP2.have_ (os.length * 5 + 3) (by omega)
            obtain ⟨u4, q4⟩ := hP2.have_ (os.length * 5 + 4) (by omega)
            have q5 := hP2.fr
            clear hP2
            unfold opV
            go_wp2_with fail
            go_roundg (n - (os.length + 1))
            case measure => omega
            case rel => exact ⟨os ++ [o1], d2, rest1, by rw [hdd, List.append_assoc]; rfl, by simp, by simp, H2, read_at5 hR2 (by omega) _ _ _ _ _ _ _ _ _ _, grew_at5 hG' (Nat.le_refl _) _ _ _ _ _ _ _ _ _ _, hPP⟩

set_option maxRecDepth 100000 in
set_option maxHeartbeats 1000000 in
theorem deed_none {N C : Nat} {l : List Int} {w : World} (h : ReadAt w N C l) (e : readDeed l = none) :
    Calls Tryd.prog 53 #[.pointer (some ⟨C, 0, none⟩)] w fun e w' => e = .panicked gave ∧ Grew (fun b => b = C) w w' := by
  cases l with
  | nil =>
    go_enter Tryd.func53, Tryd.ntmps53
    go_wp2_with fail
    refine (next_none h).mono ?_
    rintro e w1 ⟨rfl, rfl⟩
    exact ⟨rfl, rfl, Grew.refl _ _⟩
  | cons x l =>
    have hx := h.all.head
    unfold IsB at hx
    obtain ⟨n, rfl⟩ := Int.eq_ofNat_of_zero_le hx.1
    simp only [readDeed, Int.toNat_natCast] at e
    obtain ⟨cs, hcs, hm⟩ := makeDeed n (by omega)
    have hlt := h.lt
    go_enter Tryd.func53, Tryd.ntmps53
    go_wp2_with fail
    refine (next_some h).mono ?_
    rintro e w1 ⟨rfl, hR1, hG1, hS1⟩
    go_wp2_with fail
    have hP0 := part_new w1 cs n 63 hcs
    have hG0 : Grew (fun b => b = C) w (w1.alloc (.cells cs 63)) := hG1.trans (grew_new _ _ _)
    have hR0 := hR1.alloc (.cells cs 63)
    rw [hS1] at hP0
    generalize w1.alloc (.cells cs 63) = W0 at *
    clear hR1 hG1 hS1 w1 hm hcs h
    go_loopg [10] n (fun g i wr => ∃ os rest, os.length ≤ n ∧ g = n - os.length ∧ i = .int .i64 (os.length : Int) ∧ Hid (readOps (n - os.length) rest = none) ∧ ReadAt wr N C rest ∧ Grew (fun b => b = C) w wr ∧ PartAt wr w.heap.size n os)
    case atStart => exact ⟨[], l, by simp, by simp, rfl, e, hR0, hG0, hP0⟩
    case round =>
      obtain ⟨os, rest, hlen, hg, rfl, hr, hR, hG, hP⟩ := hrel
      clear hR0 hG0 hP0 e
      have hr' := hr.out
      clear hr
      obtain ⟨m, hm⟩ : ∃ m, n - os.length = m := ⟨_, rfl⟩
      rw [hm] at hr'
      cases m with
      | zero => simp [readOps] at hr'
      | succ m =>
        simp only [readOps] at hr'
        have hlt' : ((os.length : Int) < (n : Int)) := by omega
        cases h1 : readOp rest with
        | none =>
          go_wp2_with fail
          refine (op_none hR h1).mono ?_
          rintro e w2 ⟨rfl, hG2⟩
          exact ⟨rfl, rfl, hG.trans hG2⟩
        | some y =>
          obtain ⟨o1, rest1⟩ := y
          rw [h1] at hr'
          simp only at hr'
          cases h2 : readOps m rest1 with
          | some z => rw [h2] at hr'; simp at hr'
          | none =>
            have H2 : Hid (readOps m rest1 = none) := h2
            clear h2 hr'
            go_wp2_with fail
            refine (op_some hR h1).mono ?_
            rintro e w2 ⟨rfl, hR2, hG2⟩
            have hP2 := hP.grew hG2 (by omega)
            have hG' := hG.trans hG2
            clear hR hG hP hG2 h1
            have hPP := hP2.put (by omega) o1
            obtain ⟨u0, q0⟩ := hP2.have_ (os.length * 5) (by omega)
            obtain ⟨u1, q1⟩ := hP2.have_ (os.length * 5 + 1) (by omega)
            obtain ⟨u2, q2⟩ := hP2.have_ (os.length * 5 + 2) (by omega)
            obtain ⟨u3, q3⟩ := hP2.have_ (os.length * 5 + 3) (by omega)
            obtain ⟨u4, q4⟩ := hP2.have_ (os.length * 5 + 4) (by omega)
            have q5 := hP2.fr
            clear hP2
            unfold opV
            go_wp2_with fail
            go_roundg (n - (os.length + 1))
            case measure => omega
            case rel => exact ⟨os ++ [o1], rest1, by simp; omega, by simp, by simp, by rw [List.length_append, show n - (os.length + [o1].length) = m by simp; omega]; exact H2, read_at5 hR2 (by omega) _ _ _ _ _ _ _ _ _ _, grew_at5 hG' (Nat.le_refl _) _ _ _ _ _ _ _ _ _ _, hPP⟩
end Go.Proofs.YtokjigebjcgdjacDoor
