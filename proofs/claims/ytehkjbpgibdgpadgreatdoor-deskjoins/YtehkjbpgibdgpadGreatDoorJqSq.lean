/-
  A row of numbers stays where nothing that lay there changes. The walks of slices.Clone at results, and of a store's New, Done, State, Last.
-/
import Derived.Test.YtehkjbpgibdgpadGreatDoorMatQJ
import Derived.Test.YtehkjbpgibdgpadGreatDoorLawQJ
import Derived.Test.YtehkjbpgibdgpadGreatDoorJqEq
import Derived.Lib.SliceRun
namespace Go.Proofs.YtehkjbpgibdgpadGreatDoor
open Go.RowKit

theorem NumsAt.later {w w' : World} {v : Value} {l : List Int} (h : NumsAt w v l) (hb : Below w.heap.size w w') : NumsAt w' v l := by
  obtain ⟨a, cap, rfl, h⟩ := h
  exact ⟨a, cap, rfl, fun i hi => by
    obtain ⟨b, off, e, hc⟩ := h i hi
    exact ⟨b, off, e, cell_later hb hc⟩⟩

end Go.Proofs.YtehkjbpgibdgpadGreatDoor
namespace Go.Proofs.YtehkjbpgibdgpadGreatDoor
open Go.RowKit Go.Shelf

theorem nilR (w : World) (a : Option Addr) (n c n' c' : Nat) : (binOp .eql 33 (.slice a n c) (.slice none n' c')).run Tryz.prog w = .ok (.bool a.isNone) w := Lib.run_eql_slice_nil w _ _ a n c n' c' Tryz.underlying33
theorem rowC_one (co : Nat → Int) (re : Nat → Nat → Int) : ∀ n, ∀ u ∈ rowC co re n, u.oneCell' = true
  | 0, u, hu => by cases hu
  | n + 1, u, hu => by
    simp only [rowC, List.mem_append, List.mem_cons, List.not_mem_nil, or_false] at hu
    rcases hu with hu | rfl | rfl | rfl | rfl | rfl
    · exact rowC_one co re n u hu
    · rfl
    · rfl
    · rfl
    · rfl
    · rfl
theorem ResRow.cells {w : World} {g n : Nat} {co : Nat → Int} {re : Nat → Nat → Int} (h : ResRow w g n co re) : ∀ j u, (rowC co re n)[j]? = some u → w.cell? ((⟨g, 0, none⟩ : Addr).add j) = some u := by
  intro j u hu
  have hj : j < n * 5 := by
    have := (List.getElem?_eq_some_iff.1 hu).1
    rw [rowC_length] at this; exact this
  obtain ⟨q, m, hm, rfl⟩ : ∃ q m, m < 5 ∧ j = q * 5 + m := ⟨j / 5, j % 5, by omega, by omega⟩
  obtain ⟨c0, c1, c2, c3, c4⟩ := h.at' q (by omega)
  obtain ⟨p0, p1, p2, p3, p4⟩ := rowC_at co re n q (by omega)
  rw [addr_add, Nat.zero_add]
  have : m = 0 ∨ m = 1 ∨ m = 2 ∨ m = 3 ∨ m = 4 := by omega
  rcases this with rfl | rfl | rfl | rfl | rfl
  · rw [Nat.add_zero] at hu ⊢; rw [p0] at hu; cases hu; exact c0
  · rw [p1] at hu; cases hu; exact c1
  · rw [p2] at hu; cases hu; exact c2
  · rw [p3] at hu; cases hu; exact c3
  · rw [p4] at hu; cases hu; exact c4
theorem resIn_of_owns {w : World} {base n : Nat} {v : Value} {e : TypeId} {co : Nat → Int} {re : Nat → Nat → Int} (h : w.ownsRow base e 5 v n (rowC co re n)) : ResIn (fun b => base ≤ b) w v n co re := by
  obtain ⟨a, cap, rfl, hc⟩ := owns_slice h
  refine ⟨a, cap, rfl, hc, fun hn => ?_⟩
  obtain ⟨g, cap', e', hcell⟩ := owns_cells h hn
  cases e'
  refine ⟨g, rfl, (owns_lt h rfl).1, ⟨fun i hi => ?_⟩⟩
  obtain ⟨p0, p1, p2, p3, p4⟩ := rowC_at co re n i hi
  exact ⟨hcell _ _ p0, hcell _ _ p1, hcell _ _ p2, hcell _ _ p3, hcell _ _ p4⟩

/-- append of no results. -/
theorem run_append_noR (w : World) (ty : TypeId) (g n cap c : Nat) (hn : n ≤ cap) (da : Option Addr) : (Builtin.append_ #[33, 33] ty #[.slice (some ⟨g, 0, none⟩) n cap, .slice da 0 c]).run Tryz.prog w = .ok (.slice (some ⟨g, 0, none⟩) n cap) w := by
  obtain ⟨i, hi, -, hs, -⟩ := info_parts infoR
  have hl : ∀ (x : Addr), (loadCells x 0).run Tryz.prog w = .ok #[] w := fun x => by simpa using run_loadCells_list (P := Tryz.prog) w x [] (by simp)
  cases da <;> simp [Builtin.append_, run_underlying Tryz.underlying33, Builtin.lenOf, Builtin.firstCells, sizeOf, typeInfo, hi, hl, hn, storeCells]
theorem wpList_append_noR {w : World} {ops : Array Oper} {rest : List Oper} {o : Oper} {a : Act} {Q : Exit → Act → World → Prop} (hgd : o.guard = none) (x y : Operand)
    (ho : o.op = .call { callee := .builtin .append, args := #[x, y], argTypes := #[33, 33] }) (g n cap : Nat) (hx : a.eval x = .slice (some ⟨g, 0, none⟩) n cap) (hn : n ≤ cap) (da : Option Addr) (c : Nat) (hy : a.eval y = .slice da 0 c)
    (h : wpList Tryz.prog ops Q rest (a.put o.dst (.slice (some ⟨g, 0, none⟩) n cap)) w) : wpList Tryz.prog ops Q (o :: rest) a w := by
  refine wpList_plain hgd fun K hK => ?_
  have hrun := run_append_noR w o.type g n cap c hn da
  unfold Oper.wp
  simp [execOp, ho, resolve, invoke, builtin, hx, hy, hrun, Result.andThen]
  exact hK _ _ h

set_option maxRecDepth 100000 in
set_option maxHeartbeats 400000 in
theorem cloneR_any {P : Nat → Prop} {v : Value} {n : Nat} {co : Nat → Int} {re : Nat → Nat → Int} {w : World} (h : ResIn P w v n co re) (hn : n ≤ 8) :
    Calls Tryz.prog 115 #[v] w fun e w' => (∃ u, e = .returned u ∧ ResIn (fun b => w.heap.size ≤ b) w' u n co re) ∧ Below w.heap.size w w' := by
  obtain ⟨i0, hi, hz0, hz1, hz2⟩ := info_parts infoR
  have hnil := nilR
  obtain ⟨a, cap, rfl, -, hr⟩ := h
  cases a with
  | none =>
    obtain rfl : n = 0 := by
      rcases Nat.eq_zero_or_pos n with h0 | h0
      · exact h0
      · obtain ⟨g, e, -⟩ := hr h0; cases e
    clear hr
    go_enter Tryz.func115, Tryz.ntmps115
    go_wp2_with fail
    go_ret
    exact ⟨⟨_, rfl, none, 0, rfl, Nat.le_refl _, fun h => absurd h (by omega)⟩, Below.refl _ _⟩
  | some ad =>
    have hB0 : Below w.heap.size w (w.alloc (.cells #[] 102)) := (Below.refl _ _).alloc (Nat.le_refl _) _
    have hO : (w.alloc (.cells #[] 102)).ownsRow w.heap.size 102 5 (.slice (some ⟨w.heap.size, 0, none⟩) 0 0) 0 [] := ⟨rfl, .inr ⟨w.heap.size, 0, #[], rfl, Nat.le_refl _, heap_alloc_new w _, Nat.le_refl _, by decide, rfl, rfl⟩⟩
    by_cases h0 : 0 < n
    · obtain ⟨g, e, -, hrow⟩ := hr h0
      cases e
      have HN : Hid (∀ j u, (rowC co re n)[j]? = some u → (w.alloc (.cells #[] 102)).cell? ((⟨g, 0, none⟩ : Addr).add j) = some u) := (hrow.later hB0).cells
      have HL : Hid ((rowC co re n).length = n * 5) := rowC_length co re n
      clear hr hrow
      go_enter Tryz.func115, Tryz.ntmps115
      go_wp2_with (at_builtin; refine wpList_append_own _ rfl _ _ 33 rfl w.heap.size 102 i0 (.agg #[.int .i64 0, .int .i64 0, .int .i64 0, .int .i64 0, .int .i64 0]) 5 40 Tryz.underlying33 hi hz0 hz1 hz2 rfl (by decide) _ 0 [] rfl hO ⟨g, 0, none⟩ n cap (rowC co re n) rfl HL.out HN.out (rowC_one _ _ _) (by unfold maxLen; omega) (by omega) (by simp) ?_; intro v4 w4 hO4 hgrow4 hnil4; rw [Nat.zero_add, List.nil_append] at hO4)
      go_ret
      exact ⟨⟨_, rfl, resIn_of_owns hO4⟩, hB0.grown hgrow4 (by simp) (fun k hk => by cases hk; exact Nat.le_refl _)⟩
    · obtain rfl : n = 0 := by omega
      clear hr
      go_enter Tryz.func115, Tryz.ntmps115
      go_wp2_with (at_builtin; refine wpList_append_noR rfl _ _ rfl w.heap.size 0 0 rfl (Nat.le_refl _) (some ad) cap rfl ?_)
      go_ret
      exact ⟨⟨_, rfl, _, 0, rfl, Nat.le_refl _, fun h => absurd h (by omega)⟩, hB0⟩

section
variable {P : Nat → Prop} {w : World} {S : Nat} {l : List (List (List Op5))} {k m : Nat}

set_option maxHeartbeats 400000 in
theorem stDone_any (h : StAt P w S l k m) : Calls Tryz.prog 88 #[.pointer (some ⟨S, 0, none⟩)] w fun e w' => e = .returned (.int .i64 (m : Int)) ∧ w' = w := by
  obtain ⟨C, vl, h⟩ := h
  have c1 := h.c1
  clear h
  go_enter Tryz.func88, Tryz.ntmps88
  go_wp2_with fail
  go_ret
  exact ⟨rfl, rfl⟩

theorem StRaw.ten {C : Nat} {vl : Value} (h : StRaw P w S C l k m vl) : w.cell? ⟨S, 2, none⟩ = some (.int .i64 (stN l m 0)) ∧ w.cell? ⟨S, 3, none⟩ = some (.int .i64 (stN l m 1)) ∧ w.cell? ⟨S, 4, none⟩ = some (.int .i64 (stN l m 2)) ∧ w.cell? ⟨S, 5, none⟩ = some (.int .i64 (stN l m 3)) ∧ w.cell? ⟨S, 6, none⟩ = some (.int .i64 (stN l m 4)) ∧ w.cell? ⟨S, 7, none⟩ = some (.int .i64 (stN l m 5)) ∧ w.cell? ⟨S, 8, none⟩ = some (.int .i64 (stN l m 6)) ∧ w.cell? ⟨S, 9, none⟩ = some (.int .i64 (stN l m 7)) ∧ w.cell? ⟨S, 10, none⟩ = some (.int .i64 (stN l m 8)) ∧ w.cell? ⟨S, 11, none⟩ = some (.int .i64 (stN l m 9)) :=
  ⟨h.st 0 (by omega), h.st 1 (by omega), h.st 2 (by omega), h.st 3 (by omega), h.st 4 (by omega), h.st 5 (by omega), h.st 6 (by omega), h.st 7 (by omega), h.st 8 (by omega), h.st 9 (by omega)⟩

set_option maxHeartbeats 400000 in
theorem stState_any (h : StAt P w S l k m) : Calls Tryz.prog 57 #[.pointer (some ⟨S, 0, none⟩)] w fun e w' => e = .returned (stV (stN l m)) ∧ Below w.heap.size w w' := by
  obtain ⟨C, vl, h⟩ := h
  obtain ⟨z0, z1, z2, z3, z4, z5, z6, z7, z8, z9⟩ := h.ten
  have hlt := h.lt
  clear h
  generalize stN l m = s at *
  go_enter Tryz.func57, Tryz.ntmps57
  go_wp2_with fail
  exact bodyPost_ret (v := stV s) (by simp [results, Tryz.results57, go_sem, stV]) rfl ⟨rfl, (Below.refl _ _).alloc (Nat.le_refl _) _⟩

set_option maxHeartbeats 400000 in
theorem stLast_any (h : StAt P w S l k m) : Calls Tryz.prog 82 #[.pointer (some ⟨S, 0, none⟩)] w fun e w' => (∃ u, e = .returned u ∧ ResIn (fun b => w.heap.size ≤ b) w' u (lastR l m).length (lastC l m) (lastG l m)) ∧ Below w.heap.size w w' := by
  have h8 := lastR_len h.ok.good m
  obtain ⟨C, vl, h⟩ := h
  have c12 := h.c12
  have hc := cloneR_any h.la h8
  clear h
  go_enter Tryz.func82, Tryz.ntmps82
  go_wp2_with fail
  refine hc.mono ?_
  rintro e w1 ⟨⟨u, rfl, hU⟩, hb⟩
  clear hc
  go_wp2_with fail
  go_ret
  exact ⟨⟨_, rfl, hU⟩, hb⟩
end

set_option maxRecDepth 100000 in
set_option maxHeartbeats 1000000 in
theorem stNew_any (w : World) : Calls Tryz.prog 11 #[] w fun e w' => ∃ S, e = .returned (.pointer (some ⟨S, 0, none⟩)) ∧ StAt (fun b => w.heap.size ≤ b) w' S [] 0 0 ∧ Below w.heap.size w w' := by
  go_enter Tryz.func11, Tryz.ntmps11
  go_wp2_with fail
  refine (logNew_any w).mono ?_
  rintro e w1 ⟨rfl, h1, hb1⟩
  go_wp2_with fail
  go_ret
  have hz := hb1.size
  refine ⟨w1.heap.size, rfl, ⟨w.heap.size, .slice none 0 0, ?_, by go_simp, by go_simp, lt10 (by go_simp; rfl) (by go_simp; rfl) (by go_simp; rfl) (by go_simp; rfl) (by go_simp; rfl) (by go_simp; rfl) (by go_simp; rfl) (by go_simp; rfl) (by go_simp; rfl) (by go_simp; rfl), by go_simp, fun o => by go_simp, hz, ⟨none, 0, rfl, Nat.le_refl _, fun h => absurd h (by simp [lastR])⟩, Nat.le_refl _, fun b e => by cases e⟩, hb1.alloc hz _⟩
  have h2 : LogAt (fun b => w.heap.size ≤ b ∧ b < w1.heap.size) w1 w.heap.size [] 0 := h1.mono fun b hb hp => ⟨hp, hb⟩
  exact (h2.later ((Below.refl _ _).alloc (Nat.le_refl _) _)).mono fun b _ hb => ⟨hb.1, by omega, fun e => by cases e⟩
end Go.Proofs.YtehkjbpgibdgpadGreatDoor
