/-
  A deed's cells in a row; the walks of caracoleref.Own at a round of one deed, and of code.Same at deeds that are the same or differ in length.
-/
import Derived.Test.YtllihjiilipcnaaDoorWalkD
import Derived.Deep.QuietTactic
import Derived.BigQuiet
namespace Go.Proofs.YtllihjiilipcnaaDoor
open Go.RowKit

/-- The cells of a deed. -/
def cellsF : List Op5 → List Value
  | [] => []
  | o :: r => .int .i64 o.k :: .int .i64 o.a :: .int .i64 o.b :: .int .i64 o.c :: .int .i64 o.n :: cellsF r
theorem cellsF_length (d : List Op5) : (cellsF d).length = d.length * 5 := by
  induction d with
  | nil => rfl
  | cons o r ih => simp only [cellsF, List.length_cons, ih]; omega
theorem cellsF_append (d e : List Op5) : cellsF (d ++ e) = cellsF d ++ cellsF e := by
  induction d with
  | nil => rfl
  | cons o r ih => simp only [List.cons_append, cellsF, ih]
theorem cellsF_one (d : List Op5) : ∀ u ∈ cellsF d, u.oneCell' = true := by
  induction d with
  | nil => intro u hu; cases hu
  | cons o r ih =>
    intro u hu
    simp only [cellsF, List.mem_cons] at hu
    rcases hu with rfl | rfl | rfl | rfl | rfl | hu
    · rfl
    · rfl
    · rfl
    · rfl
    · rfl
    · exact ih u hu
theorem cellsF_at (d : List Op5) : ∀ i (h : i < d.length), (cellsF d)[i * 5]? = some (.int .i64 d[i].k) ∧ (cellsF d)[i * 5 + 1]? = some (.int .i64 d[i].a) ∧ (cellsF d)[i * 5 + 2]? = some (.int .i64 d[i].b) ∧ (cellsF d)[i * 5 + 3]? = some (.int .i64 d[i].c) ∧ (cellsF d)[i * 5 + 4]? = some (.int .i64 d[i].n) := by
  induction d with
  | nil => intro i h; simp at h
  | cons o r ih =>
    intro i h
    cases i with
    | zero => exact ⟨rfl, rfl, rfl, rfl, rfl⟩
    | succ i =>
      have := ih i (by simpa using h)
      rw [show (i + 1) * 5 = i * 5 + 5 by omega]
      exact this

/-- Down: the cells one behind the other. -/
theorem cells_of_deed {w : World} {b : Nat} : ∀ (d : List Op5) (off : Nat), (∀ i (h : i < d.length),
    w.cell? ⟨b, off + i * 5, none⟩ = some (.int .i64 d[i].k) ∧ w.cell? ⟨b, off + i * 5 + 1, none⟩ = some (.int .i64 d[i].a) ∧
    w.cell? ⟨b, off + i * 5 + 2, none⟩ = some (.int .i64 d[i].b) ∧ w.cell? ⟨b, off + i * 5 + 3, none⟩ = some (.int .i64 d[i].c) ∧
    w.cell? ⟨b, off + i * 5 + 4, none⟩ = some (.int .i64 d[i].n)) → ∀ t u, (cellsF d)[t]? = some u → w.cell? ⟨b, off + t, none⟩ = some u := by
  intro d
  induction d with
  | nil => intro off _ t u h; simp [cellsF] at h
  | cons o r ih =>
    intro off h t u ht
    obtain ⟨h0, h1, h2, h3, h4⟩ := h 0 (by simp)
    match t, ht with
    | 0, ht => simp only [cellsF, List.getElem?_cons_zero, Option.some.injEq] at ht; subst ht; exact h0
    | 1, ht => simp only [cellsF, List.getElem?_cons_succ, List.getElem?_cons_zero, Option.some.injEq] at ht; subst ht; exact h1
    | 2, ht => simp only [cellsF, List.getElem?_cons_succ, List.getElem?_cons_zero, Option.some.injEq] at ht; subst ht; exact h2
    | 3, ht => simp only [cellsF, List.getElem?_cons_succ, List.getElem?_cons_zero, Option.some.injEq] at ht; subst ht; exact h3
    | 4, ht => simp only [cellsF, List.getElem?_cons_succ, List.getElem?_cons_zero, Option.some.injEq] at ht; subst ht; exact h4
    | t + 5, ht =>
      simp only [cellsF, List.getElem?_cons_succ] at ht
      have := ih (off + 5) (fun i hi => by
        have hh := h (i + 1) (by simp; omega)
        simp only [show off + (i + 1) * 5 = off + 5 + i * 5 by omega] at hh
        exact hh) t u ht
      rw [show off + (t + 5) = off + 5 + t by omega]
      exact this

theorem add_off (b off t : Nat) : (⟨b, off, none⟩ : Addr).add t = ⟨b, off + t, none⟩ := by
  unfold Addr.add; split <;> simp_all

/-- Up: a slice that owns a deed's cells is that deed. -/
theorem deed_of_owns {w : World} {base : Nat} {v : Value} {d : List Op5} (h : w.ownsRow base 34 5 v d.length (cellsF d)) : DeedAt w v d := by
  rcases h.2 with ⟨rfl, h0⟩ | ⟨g, cap, cur, rfl, -⟩
  · refine ⟨none, 0, by rw [h0], fun i hi => by omega⟩
  · refine ⟨some ⟨g, 0, none⟩, cap, rfl, fun i hi => ⟨g, 0, rfl, ?_⟩⟩
    have hc : ∀ t u, (cellsF d)[t]? = some u → w.cell? ⟨g, 0 + t, none⟩ = some u := fun t u ht => by
      rw [← add_off]; exact h.cells (g := g) rfl t u ht
    obtain ⟨c0, c1, c2, c3, c4⟩ := cellsF_at d i hi
    exact ⟨hc _ _ c0, hc _ _ c1, hc _ _ c2, hc _ _ c3, hc _ _ c4⟩

theorem drewN_below {B : Nat} {a w : World} (h : Below B a w) (n : Nat) : Below B a (w.drewN n) := h.trans ⟨rfl, rfl, rfl, Nat.le_refl _, fun _ _ => rfl⟩
theorem owns_oneCell {w : World} {base : Nat} {e : TypeId} {size : Nat} {v : Value} {n : Nat} {xs : List Value} (h : w.ownsRow base e size v n xs) : v.oneCell' = true := by
  rcases h.2 with ⟨rfl, -⟩ | ⟨g, cap, cur, rfl, -⟩ <;> rfl

theorem owns_shape {w : World} {base : Nat} {e : TypeId} {size : Nat} {v : Value} {n : Nat} {xs : List Value} (h : w.ownsRow base e size v n xs) (hn : 0 < n) : ∃ g cap, v = .slice (some ⟨g, 0, none⟩) n cap := by
  rcases h.2 with ⟨-, h0⟩ | ⟨g, cap, cur, hv, -⟩
  · omega
  · exact ⟨g, cap, hv⟩

theorem info34 : (Tryd.prog.info? 34).map (fun i => (i.zero, i.size, i.bytes)) = some (some (.agg #[.int .i64 0, .int .i64 0, .int .i64 0, .int .i64 0, .int .i64 0]), 5, 40) := by kernel_rfl
theorem info32 : (Tryd.prog.info? 32).map (fun i => (i.zero, i.size, i.bytes)) = some (some (.slice none 0 0), 1, 24) := by kernel_rfl

set_option maxHeartbeats 400000 in
theorem equal_len (v u : Value) (d e : List Op5) (w : World) (hd : DeedAt w v d) (he : DeedAt w u e) (hne : d.length ≠ e.length) :
    Calls Tryd.prog 14 #[v, u] w fun x w' => x = .returned (.bool false) ∧ w' = w := by
  obtain ⟨a, cap, rfl, -⟩ := hd
  obtain ⟨a', cap', rfl, -⟩ := he
  have hb : ((d.length : Int) != (e.length : Int)) = true := by simp; omega
  go_enter Tryd.func14, Tryd.ntmps14
  go_wp2_with fail
  go_ret
  exact ⟨rfl, rfl⟩

set_option maxHeartbeats 400000 in
theorem equal_refl (v : Value) (d : List Op5) (w : World) (hd : DeedAt w v d) (h1 : d.length ≤ 14) :
    Calls Tryd.prog 14 #[v, v] w fun x w' => x = .returned (.bool true) ∧ Below w.heap.size w w' := by
  obtain ⟨a, cap, rfl, hd⟩ := hd
  go_enter Tryd.func14, Tryd.ntmps14
  go_wp2_with fail
  go_loopg [13] d.length (fun g i wr => ∃ j : Nat, j ≤ d.length ∧ g = d.length - j ∧ i = .int .i64 j ∧ Below w.heap.size w wr)
  case atStart => exact ⟨0, by omega, by omega, rfl, Below.refl _ _⟩
  case round =>
    obtain ⟨j, hj, hg, rfl, hB⟩ := hrel
    by_cases hlt : j < d.length
    · obtain ⟨b, off, rfl, c0, c1, c2, c3, c4⟩ := hd j hlt
      replace c0 := cell_later hB c0
      replace c1 := cell_later hB c1
      replace c2 := cell_later hB c2
      replace c3 := cell_later hB c3
      replace c4 := cell_later hB c4
      clear hd
      go_wp2_with fail
      go_quiet (fail)
      go_wp2_with fail
      go_roundg (d.length - (j + 1))
      case measure => omega
      case rel => exact ⟨j + 1, by omega, rfl, by go_num, drewN_below hB _⟩
    · go_wp2_with fail
      go_ret
      exact ⟨rfl, hB⟩

set_option maxHeartbeats 400000 in
theorem same_len (v u : Value) (d e : List Op5) (w : World) (hd : DeedAt w v d) (he : DeedAt w u e) (hne : d.length ≠ e.length) :
    Calls Tryd.prog 11 #[v, u] w fun x w' => x = .returned (.bool false) ∧ w' = w := by
  go_enter Tryd.func11, Tryd.ntmps11
  go_wp2_with (go_at_call 14; refine (equal_len _ _ d e _ hd he hne).mono ?_; rintro x w' ⟨rfl, rfl⟩)
  go_ret
  exact ⟨rfl, rfl⟩

set_option maxHeartbeats 400000 in
theorem same_refl (v : Value) (d : List Op5) (w : World) (hd : DeedAt w v d) (h1 : d.length ≤ 14) :
    Calls Tryd.prog 11 #[v, v] w fun x w' => x = .returned (.bool true) ∧ Below w.heap.size w w' := by
  go_enter Tryd.func11, Tryd.ntmps11
  go_wp2_with (go_at_call 14; refine (equal_refl _ d _ hd h1).mono ?_; rintro x w' ⟨rfl, hb⟩)
  go_ret
  exact ⟨rfl, hb⟩

set_option maxHeartbeats 1000000 in
theorem own_one (v : Value) (d : List Op5) (w : World) (hr : RoundAt w v [d]) (h0 : 0 < d.length) (h1 : d.length ≤ 14) :
    Calls Tryd.prog 10 #[v] w fun x w' => ∃ v1 v2, x = .returned v2 ∧ w'.ownsRow w.heap.size 32 1 v2 1 [v1] ∧ w'.ownsRow w.heap.size 34 5 v1 d.length (cellsF d) ∧ Below w.heap.size w w' := by
  obtain ⟨a, cap, rfl, hr⟩ := hr
  obtain ⟨b, off, rfl, dv, hdv, hd⟩ := hr 0 (by simp)
  obtain ⟨a', cap', rfl, hd⟩ := hd
  obtain ⟨b', off', rfl, -⟩ := hd 0 h0
  have hcells : ∀ t u, (cellsF d)[t]? = some u → w.cell? ((⟨b', off', none⟩ : Addr).add t) = some u := fun t u ht => by
    rw [add_off]
    refine cells_of_deed d off' (fun i hi => ?_) t u ht
    obtain ⟨_, _, e, c⟩ := hd i hi
    simp only [Option.some.injEq, Addr.mk.injEq] at e
    obtain ⟨rfl, rfl, -⟩ := e
    exact c
  clear hd hr
  obtain ⟨i0, hi, hz0, hz1, hz2⟩ := info_parts info34
  obtain ⟨k0, hk, hy0, hy1, hy2⟩ := info_parts info32
  simp only [List.length_singleton, Nat.add_zero, List.getElem_cons_zero] at hdv ⊢
  go_enter Tryd.func10, Tryd.ntmps10
  go_wp2_with fail
  go_loopg [3, 4] 1 (fun g out i wr => (g = 1 ∧ i = .int .i64 0 ∧ out = .slice none 0 0 ∧ w = wr) ∨ (g = 0 ∧ i = .int .i64 1 ∧ ∃ v1, wr.ownsRow w.heap.size 32 1 out 1 [v1] ∧ wr.ownsRow w.heap.size 34 5 v1 d.length (cellsF d) ∧ Below w.heap.size w wr))
  case atStart => exact .inl ⟨rfl, rfl, rfl, rfl⟩
  case round =>
    rcases hrel with ⟨rfl, rfl, rfl, rfl⟩ | ⟨rfl, rfl, v1, ho2, ho1, hB⟩
    · go_wp2_with (first | (at_builtin; refine wpList_append_own _ rfl (.tmp 13) (.tmp 17) 32 rfl w.heap.size 34 i0 (.agg #[.int .i64 0, .int .i64 0, .int .i64 0, .int .i64 0, .int .i64 0]) 5 40 Tryd.underlying32 hi hz0 hz1 hz2 rfl (by decide) _ _ _ rfl (World.ownsRow_nil _ _ _ _) ⟨b', off', none⟩ d.length cap' (cellsF d) rfl (cellsF_length d) hcells (cellsF_one d) (by unfold maxLen; omega) (by omega) (Nat.le_refl _) ?_; intro v1 w1 ho1 hg1 hn1; simp only [Nat.zero_add, List.nil_append] at ho1; obtain ⟨g1, q1, rfl⟩ := owns_shape ho1 h0) | (at_builtin; refine wpList_append_own _ rfl (.tmp 12) (.tmp 19) 23 rfl w.heap.size 32 k0 (.slice none 0 0) 1 24 Tryd.underlying23 hk hy0 hy1 hy2 rfl (by decide) _ _ _ rfl (World.ownsRow_nil _ _ _ _) ⟨w1.heap.size, 0, none⟩ 1 1 [.slice (some ⟨g1, 0, none⟩) d.length q1] rfl rfl (cell_one_new _ _ _) (fun u hu => by rw [List.mem_singleton.1 hu]; exact owns_oneCell ho1) (by unfold maxLen; omega) (by omega) (by have := hg1.size; simp; omega) ?_; intro v2 w2 ho2 hg2 hn2; simp only [Nat.zero_add, List.nil_append] at ho2))
      have hg1' : w.grownBy w1 none := hg1
      have hg2' : (w1.alloc (.cells #[.slice (some ⟨g1, 0, none⟩) d.length q1] 32)).grownBy w2 none := hg2
      have hB1 : Below w.heap.size w w1 := (Below.refl _ _).grown hg1' (Nat.le_refl _) (fun k hk => by cases hk)
      have hB2 : Below w.heap.size w w2 := (hB1.alloc hB1.size _).grown hg2' (by have := hB1.size; simp; omega) (fun k hk => by cases hk)
      have ho3 := (ho1.alloc (.cells #[.slice (some ⟨g1, 0, none⟩) d.length q1] 32)).kept hg2' (.inr (by simp [Value.ownBlock]))
      go_roundg 0
      case measure => omega
      case rel => exact .inr ⟨rfl, rfl, _, ho2, ho3, hB2⟩
    · clear hcells hdv
      go_wp2_with fail
      go_ret
      exact ⟨v1, _, rfl, ho2, ho1, hB⟩
end Go.Proofs.YtllihjiilipcnaaDoor
