/-
  The walk of code.Keys.
-/
import Derived.Test.YtllihjiilipcnaaDoorWalkC
import Derived.Test.YtllihjiilipcnaaDoorMathB
namespace Go.Proofs.YtllihjiilipcnaaDoor
open Go.RowKit

theorem idx10 (b : Nat → Bool) (j : Nat) (h : j < 10) (w : World) :
    (Instr.index 42 (.agg #[.bool (b 0), .bool (b 1), .bool (b 2), .bool (b 3), .bool (b 4), .bool (b 5), .bool (b 6), .bool (b 7), .bool (b 8), .bool (b 9)]) (.int .i64 (j : Int))).run Tryd.prog w = .ok (.bool (b j)) w := by
  have k0 : ∀ w, (Instr.index 42 (.agg #[.bool (b 0), .bool (b 1), .bool (b 2), .bool (b 3), .bool (b 4), .bool (b 5), .bool (b 6), .bool (b 7), .bool (b 8), .bool (b 9)]) (.int .i64 0)).run Tryd.prog w = .ok (.bool (b 0)) w := fun _ => by kernel_rfl
  have k1 : ∀ w, (Instr.index 42 (.agg #[.bool (b 0), .bool (b 1), .bool (b 2), .bool (b 3), .bool (b 4), .bool (b 5), .bool (b 6), .bool (b 7), .bool (b 8), .bool (b 9)]) (.int .i64 1)).run Tryd.prog w = .ok (.bool (b 1)) w := fun _ => by kernel_rfl
  have k2 : ∀ w, (Instr.index 42 (.agg #[.bool (b 0), .bool (b 1), .bool (b 2), .bool (b 3), .bool (b 4), .bool (b 5), .bool (b 6), .bool (b 7), .bool (b 8), .bool (b 9)]) (.int .i64 2)).run Tryd.prog w = .ok (.bool (b 2)) w := fun _ => by kernel_rfl
  have k3 : ∀ w, (Instr.index 42 (.agg #[.bool (b 0), .bool (b 1), .bool (b 2), .bool (b 3), .bool (b 4), .bool (b 5), .bool (b 6), .bool (b 7), .bool (b 8), .bool (b 9)]) (.int .i64 3)).run Tryd.prog w = .ok (.bool (b 3)) w := fun _ => by kernel_rfl
  have k4 : ∀ w, (Instr.index 42 (.agg #[.bool (b 0), .bool (b 1), .bool (b 2), .bool (b 3), .bool (b 4), .bool (b 5), .bool (b 6), .bool (b 7), .bool (b 8), .bool (b 9)]) (.int .i64 4)).run Tryd.prog w = .ok (.bool (b 4)) w := fun _ => by kernel_rfl
  have k5 : ∀ w, (Instr.index 42 (.agg #[.bool (b 0), .bool (b 1), .bool (b 2), .bool (b 3), .bool (b 4), .bool (b 5), .bool (b 6), .bool (b 7), .bool (b 8), .bool (b 9)]) (.int .i64 5)).run Tryd.prog w = .ok (.bool (b 5)) w := fun _ => by kernel_rfl
  have k6 : ∀ w, (Instr.index 42 (.agg #[.bool (b 0), .bool (b 1), .bool (b 2), .bool (b 3), .bool (b 4), .bool (b 5), .bool (b 6), .bool (b 7), .bool (b 8), .bool (b 9)]) (.int .i64 6)).run Tryd.prog w = .ok (.bool (b 6)) w := fun _ => by kernel_rfl
  have k7 : ∀ w, (Instr.index 42 (.agg #[.bool (b 0), .bool (b 1), .bool (b 2), .bool (b 3), .bool (b 4), .bool (b 5), .bool (b 6), .bool (b 7), .bool (b 8), .bool (b 9)]) (.int .i64 7)).run Tryd.prog w = .ok (.bool (b 7)) w := fun _ => by kernel_rfl
  have k8 : ∀ w, (Instr.index 42 (.agg #[.bool (b 0), .bool (b 1), .bool (b 2), .bool (b 3), .bool (b 4), .bool (b 5), .bool (b 6), .bool (b 7), .bool (b 8), .bool (b 9)]) (.int .i64 8)).run Tryd.prog w = .ok (.bool (b 8)) w := fun _ => by kernel_rfl
  have k9 : ∀ w, (Instr.index 42 (.agg #[.bool (b 0), .bool (b 1), .bool (b 2), .bool (b 3), .bool (b 4), .bool (b 5), .bool (b 6), .bool (b 7), .bool (b 8), .bool (b 9)]) (.int .i64 9)).run Tryd.prog w = .ok (.bool (b 9)) w := fun _ => by kernel_rfl
  have hj : j = 0 ∨ j = 1 ∨ j = 2 ∨ j = 3 ∨ j = 4 ∨ j = 5 ∨ j = 6 ∨ j = 7 ∨ j = 8 ∨ j = 9 := by omega
  rcases hj with rfl | rfl | rfl | rfl | rfl | rfl | rfl | rfl | rfl | rfl
  · exact k0 w
  · exact k1 w
  · exact k2 w
  · exact k3 w
  · exact k4 w
  · exact k5 w
  · exact k6 w
  · exact k7 w
  · exact k8 w
  · exact k9 w

theorem froz_alloc {wr : World} {N : Nat} (hN : N < wr.heap.size) (o : Obj) (h : ∀ i, wr.frozen? ⟨N, i, none⟩ = false) : ∀ i, (wr.alloc o).frozen? ⟨N, i, none⟩ = false := fun i => by
  rw [World.frozen?_alloc_past _ _ _ hN]; exact h i
theorem froz_set {wr : World} {N : Nat} (a : Addr) (v : Value) (h : ∀ i, wr.frozen? ⟨N, i, none⟩ = false) : ∀ i, (wr.setCell a v).frozen? ⟨N, i, none⟩ = false := fun i => by
  simpa using h i

theorem info3 : (Tryd.prog.info? 3).map (fun i => (i.zero, i.size, i.bytes)) = some (some (.int .i64 0), 1, 8) := by kernel_rfl

/-- What is owned stays owned below a base that is no greater. -/
theorem owns_base {w : World} {base base' : Nat} {e : TypeId} {size : Nat} {v : Value} {n : Nat} {xs : List Value} (h : w.ownsRow base e size v n xs) (hb : base' ≤ base) : w.ownsRow base' e size v n xs := by
  refine ⟨h.1, ?_⟩
  rcases h.2 with h | ⟨g, cap, cur, hv, hg, r⟩
  · exact .inl h
  · exact .inr ⟨g, cap, cur, hv, Nat.le_trans hb hg, r⟩

theorem keys_cells_skip {wr : World} {N : Nat} {d : List Op5} {j : Nat} (h : j < d.length) (hn : ¬ (d[j].k = 7 ∧ 0 ≤ d[j].a ∧ d[j].a < 10)) (hN : N < wr.heap.size) (o : Obj)
    (hc : ∀ c, c < 10 → wr.cell? ⟨N, c, none⟩ = some (.bool (storesB (d.take j) c))) : ∀ c, c < 10 → (wr.alloc o).cell? ⟨N, c, none⟩ = some (.bool (storesB (d.take (j + 1)) c)) := by
  intro c h10
  rw [World.cell?_alloc_lt _ _ _ hN, storesB_skip h h10 hn]
  exact hc c h10

theorem keys_cells_hit {wr : World} {N : Nat} {d : List Op5} {j m : Nat} (h : j < d.length) (h7 : d[j].k = 7) (ha : d[j].a = (m : Int)) (hm : m < 10) (hN : N < wr.heap.size) (o : Obj)
    (hc : ∀ c, c < 10 → wr.cell? ⟨N, c, none⟩ = some (.bool (storesB (d.take j) c))) : ∀ c, c < 10 → ((wr.setCell ⟨N, m, none⟩ (.bool true)).alloc o).cell? ⟨N, c, none⟩ = some (.bool (storesB (d.take (j + 1)) c)) := by
  intro c h10
  rw [World.cell?_alloc_lt _ _ _ (by simpa using hN), storesB_next h]
  by_cases e : c = m
  · subst e
    rw [show (d[j].k == 7 && d[j].a == (c : Int)) = true by simp [h7, ha], Bool.or_true]
    exact World.cell?_setCell_same _ _ _ (hc c h10)
  · rw [show (d[j].k == 7 && d[j].a == (c : Int)) = false by rw [Bool.eq_false_iff]; intro hh; simp at hh; omega, Bool.or_false, ← hc c h10]
    exact World.cell?_setCell_other _ _ _ _ (by simp)

set_option maxHeartbeats 1000000 in
theorem keys_any (v : Value) (d : List Op5) (w : World) (hd : DeedAt w v d) (hmax : d.length ≤ 140737488355328) :
    Calls Tryd.prog 9 #[v] w fun e w' => ∃ kv, e = .returned kv ∧ w'.ownsRow w.heap.size 3 1 kv (keysTo d 10).length ((keysTo d 10).map (Value.int .i64)) ∧ Below w.heap.size w w' := by
  obtain ⟨a, cap, rfl, hd⟩ := hd
  obtain ⟨i0, hi, hz0, hz1, hz2⟩ := info_parts info3
  go_enter Tryd.func9, Tryd.ntmps9
  go_wp2_with fail
  go_loopg [11] d.length (fun g i wr => ∃ j : Nat, j ≤ d.length ∧ g = d.length - j ∧ i = .int .i64 j ∧ Hid (∀ c, c < 10 → wr.cell? ⟨w.heap.size, c, none⟩ = some (.bool (storesB (d.take j) c))) ∧ (∀ o, wr.frozen? ⟨w.heap.size, o, none⟩ = false) ∧ w.heap.size < wr.heap.size ∧ Below w.heap.size w wr)
  case atStart =>
    refine ⟨0, by omega, by omega, rfl, ?_, ?_, ?_, (Below.refl _ _).alloc (Nat.le_refl _) _⟩
    · intro c hc
      match c, hc with
      | 0, _ | 1, _ | 2, _ | 3, _ | 4, _ | 5, _ | 6, _ | 7, _ | 8, _ | 9, _ => simp [storesB]
    · intro o; simp
    · simp
  case round =>
    obtain ⟨j, hj, hg, rfl, hC, hfr, hN, hB⟩ := hrel
    by_cases hlt : j < d.length
    · obtain ⟨b, off, rfl, c0, c1, c2, c3, c4⟩ := hd j hlt
      replace c0 := cell_later hB c0
      replace c1 := cell_later hB c1
      replace c2 := cell_later hB c2
      replace c3 := cell_later hB c3
      replace c4 := cell_later hB c4
      clear hd
      by_cases hk : d[j].k = 7 ∧ 0 ≤ d[j].a ∧ d[j].a < 10
      · obtain ⟨h7, ha0, ha1⟩ := hk
        obtain ⟨m, hm⟩ : ∃ m : Nat, d[j].a = (m : Int) := ⟨d[j].a.toNat, by omega⟩
        have hm10 : m < 10 := by omega
        have t7 : (d[j].k == 7) = true := by simp [h7]
        have hC' : Hid (∀ o c, c < 10 → ((wr.setCell ⟨w.heap.size, m, none⟩ (.bool true)).alloc o).cell? ⟨w.heap.size, c, none⟩ = some (.bool (storesB (d.take (j + 1)) c))) := fun o => keys_cells_hit hlt h7 hm hm10 hN o hC.out
        have hcm := hC.out m hm10
        have hB2 := hB.setCell (p := ⟨w.heap.size, m, none⟩) (Nat.le_refl _) (.bool true)
        clear hC
        go_wp2_with fail
        go_roundg (d.length - (j + 1))
        case measure => omega
        case rel => exact ⟨j + 1, by omega, rfl, by go_num, hC'.out _, froz_alloc (by simpa using hN) _ (froz_set _ _ hfr), by simp; omega, hB2.alloc hB2.size _⟩
      · have hC' : Hid (∀ o c, c < 10 → (wr.alloc o).cell? ⟨w.heap.size, c, none⟩ = some (.bool (storesB (d.take (j + 1)) c))) := fun o => keys_cells_skip hlt hk hN o hC.out
        clear hC
        by_cases h7 : d[j].k = 7
        · have t7 : (d[j].k == 7) = true := by simp [h7]
          by_cases ha : 0 ≤ d[j].a
          · have hb : ¬ d[j].a < 10 := by omega
            clear hk
            go_wp2_with fail
            go_roundg (d.length - (j + 1))
            case measure => omega
            case rel => exact ⟨j + 1, by omega, rfl, by go_num, hC'.out _, froz_alloc hN _ hfr, by simp; omega, hB.alloc hB.size _⟩
          · clear hk
            go_wp2_with fail
            go_roundg (d.length - (j + 1))
            case measure => omega
            case rel => exact ⟨j + 1, by omega, rfl, by go_num, hC'.out _, froz_alloc hN _ hfr, by simp; omega, hB.alloc hB.size _⟩
        · have t7 : (d[j].k == 7) = false := by simp [h7]
          clear hk
          go_wp2_with fail
          go_roundg (d.length - (j + 1))
          case measure => omega
          case rel => exact ⟨j + 1, by omega, rfl, by go_num, hC'.out _, froz_alloc hN _ hfr, by simp; omega, hB.alloc hB.size _⟩
    · obtain rfl : j = d.length := by omega
      have hC' := hC.out
      rw [List.take_length] at hC'
      have e0 := hC' 0 (by omega)
      have e1 := hC' 1 (by omega)
      have e2 := hC' 2 (by omega)
      have e3 := hC' 3 (by omega)
      have e4 := hC' 4 (by omega)
      have e5 := hC' 5 (by omega)
      have e6 := hC' 6 (by omega)
      have e7 := hC' 7 (by omega)
      have e8 := hC' 8 (by omega)
      have e9 := hC' 9 (by omega)
      clear hC hC' hfr hd
      go_wp2_with fail
      clear e0 e1 e2 e3 e4 e5 e6 e7 e8 e9
      go_loopg [6, 33] 10 (fun g kv i wk => ∃ j : Nat, j ≤ 10 ∧ g = 10 - j ∧ i = .int .i64 j ∧ wk.ownsRow w.heap.size 3 1 kv (keysTo d j).length ((keysTo d j).map (Value.int .i64)) ∧ Below w.heap.size w wk)
      case atStart => exact ⟨0, by omega, by omega, rfl, World.ownsRow_nil _ _ _ _, hB⟩
      case round =>
        obtain ⟨j, hj, hg, rfl, hown, hBk⟩ := hrel
        by_cases hlt : j < 10
        · have hix := idx10 (storesB d) j hlt
          have hle := keysTo_le d j
          by_cases hs : storesB d j = true
          · go_wp2_with (at_builtin; refine wpList_append_own _ rfl (.tmp 38) (.tmp 40) 37 rfl w.heap.size 3 i0 (.int .i64 0) 1 8 Tryd.underlying37 hi hz0 hz1 hz2 rfl (by decide) _ _ _ rfl (hown.alloc _) ⟨wr.heap.size, 0, none⟩ 1 1 [.int .i64 j] rfl rfl ?c1 ?c2 ?c3 ?c4 ?c5 ?_)
            case c1 =>
              intro t u ht
              match t, ht with
              | 0, ht => simp at ht; subst ht; simp [Addr.add]
            case c2 => intro u hu; simp at hu; subst hu; rfl
            case c3 => unfold maxLen; omega
            case c4 => omega
            case c5 => have := hBk.size; simp; omega
            intro v' w1 hown' hgrow _
            have hB1 : Below w.heap.size w w1 := (hBk.alloc hBk.size _).grown hgrow (by have := hBk.size; simp; omega) (fun k hk => (hown.lt k hk).1)
            have hK : Hid (w1.ownsRow w.heap.size 3 1 v' (keysTo d (j + 1)).length ((keysTo d (j + 1)).map (Value.int .i64))) := by
              rw [keysTo_hit hs]; simp only [List.length_append, List.length_singleton, List.map_append, List.map_singleton]; exact hown'
            clear hown' hgrow hown
            go_wp2_with fail
            go_roundg (10 - (j + 1))
            case measure => omega
            case rel => exact ⟨j + 1, by omega, rfl, by go_num, hK.out, hB1⟩
          · have hs' : storesB d j = false := by simpa using hs
            have hK : Hid (wr.ownsRow w.heap.size 3 1 u6 (keysTo d (j + 1)).length ((keysTo d (j + 1)).map (Value.int .i64))) := by
              rw [keysTo_miss hs']; exact hown
            clear hs
            go_wp2_with fail
            go_roundg (10 - (j + 1))
            case measure => omega
            case rel => exact ⟨j + 1, by omega, rfl, by go_num, hK.out, hBk⟩
        · obtain rfl : j = 10 := by omega
          go_wp2_with fail
          go_ret
          exact ⟨_, rfl, hown, hBk⟩
end Go.Proofs.YtllihjiilipcnaaDoor
