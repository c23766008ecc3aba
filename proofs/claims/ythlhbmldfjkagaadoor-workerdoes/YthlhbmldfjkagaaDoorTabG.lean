/-
  The walk of code.Keys.
-/
import Derived.Test.YthlhbmldfjkagaaDoorTabF
import Derived.Maps.AppendAt
namespace Go.Proofs.YthlhbmldfjkagaaDoor
open Go.RowKit Go.Shelf

theorem index_bool (b : Nat → Bool) (w : World) : ∀ j : Nat, j < 10 → (Instr.index 131 (.agg #[.bool (b 0), .bool (b 1), .bool (b 2), .bool (b 3), .bool (b 4), .bool (b 5), .bool (b 6), .bool (b 7), .bool (b 8), .bool (b 9)]) (.int .i64 (j : Int))).run Tryd.prog w = .ok (.bool (b j)) w
  | 0, _ => by kernel_rfl
  | 1, _ => by kernel_rfl
  | 2, _ => by kernel_rfl
  | 3, _ => by kernel_rfl
  | 4, _ => by kernel_rfl
  | 5, _ => by kernel_rfl
  | 6, _ => by kernel_rfl
  | 7, _ => by kernel_rfl
  | 8, _ => by kernel_rfl
  | 9, _ => by kernel_rfl
theorem index_int (b : Nat → Int) (w : World) : ∀ j : Nat, j < 10 → (Instr.index 38 (.agg #[.int .i64 (b 0), .int .i64 (b 1), .int .i64 (b 2), .int .i64 (b 3), .int .i64 (b 4), .int .i64 (b 5), .int .i64 (b 6), .int .i64 (b 7), .int .i64 (b 8), .int .i64 (b 9)]) (.int .i64 (j : Int))).run Tryd.prog w = .ok (.int .i64 (b j)) w
  | 0, _ => by kernel_rfl
  | 1, _ => by kernel_rfl
  | 2, _ => by kernel_rfl
  | 3, _ => by kernel_rfl
  | 4, _ => by kernel_rfl
  | 5, _ => by kernel_rfl
  | 6, _ => by kernel_rfl
  | 7, _ => by kernel_rfl
  | 8, _ => by kernel_rfl
  | 9, _ => by kernel_rfl
theorem frozen_alloc_lt {w : World} {a : Addr} (o : Obj) (h : a.block < w.heap.size) : (w.alloc o).frozen? a = w.frozen? a := ((Below.refl w.heap.size w).alloc (Nat.le_refl _) o).frozen h
theorem size_setCell (w : World) (a : Addr) (u : Value) : (w.setCell a u).heap.size = w.heap.size := by simp [World.setCell]

theorem info3 : (Tryd.prog.info? 3).map (fun i => (i.zero, i.size, i.bytes)) = some (some (.int .i64 0), 1, 8) := by kernel_rfl

/-- Ten bools in a block. -/
def Bits (w : World) (B : Nat) (b : Nat → Bool) : Prop := ∀ i, i < 10 → w.cell? ⟨B, i, none⟩ = some (.bool (b i))
theorem Bits.later {w w' : World} {B : Nat} {b : Nat → Bool} (h : Bits w B b) (hb : Below w.heap.size w w') : Bits w' B b := fun i hi => cell_later hb (h i hi)
theorem Bits.ten {w : World} {B : Nat} {s : Nat → Bool} (h : Bits w B s) : w.cell? ⟨B, 0, none⟩ = some (.bool (s 0)) ∧ w.cell? ⟨B, 1, none⟩ = some (.bool (s 1)) ∧ w.cell? ⟨B, 2, none⟩ = some (.bool (s 2)) ∧ w.cell? ⟨B, 3, none⟩ = some (.bool (s 3)) ∧ w.cell? ⟨B, 4, none⟩ = some (.bool (s 4)) ∧ w.cell? ⟨B, 5, none⟩ = some (.bool (s 5)) ∧ w.cell? ⟨B, 6, none⟩ = some (.bool (s 6)) ∧ w.cell? ⟨B, 7, none⟩ = some (.bool (s 7)) ∧ w.cell? ⟨B, 8, none⟩ = some (.bool (s 8)) ∧ w.cell? ⟨B, 9, none⟩ = some (.bool (s 9)) :=
  ⟨h 0 (by omega), h 1 (by omega), h 2 (by omega), h 3 (by omega), h 4 (by omega), h 5 (by omega), h 6 (by omega), h 7 (by omega), h 8 (by omega), h 9 (by omega)⟩
theorem Bits.set {w : World} {B : Nat} {s : Nat → Bool} (h : Bits w B s) {m : Nat} (hm : m < 10) : Bits (w.setCell ⟨B, m, none⟩ (.bool true)) B (fun i => if i = m then true else s i) := fun i hi => by
  by_cases e : i = m
  · subst e; rw [World.cell?_setCell_same _ _ _ (h i hi)]; simp
  · rw [World.cell?_setCell_other _ _ _ _ (fun h => by simp only [Addr.mk.injEq] at h; omega), h i hi]; simp [e]

theorem storesF_take {d : List Op5} {j : Nat} (hj : j < d.length) (k : Nat) : storesF (d.take (j + 1)) k = (storesF (d.take j) k || ((d[j].k == 7) && (d[j].a == (k : Int)))) := by
  unfold storesF
  rw [List.take_succ_eq_append_getElem hj, List.any_append]
  simp

set_option maxHeartbeats 1000000 in
theorem keys_any (v : Value) (d : List Op5) (w : World) (hd : DeedAt w v d) (hlen : d.length ≤ 14) :
    Calls Tryd.prog 53 #[v] w fun e w' => (∃ u, e = .returned u ∧ w'.ownsRow w.heap.size 3 1 u (keysF d).length ((keysF d).map fun k : Nat => .int .i64 (k : Int))) ∧ Below w.heap.size w w' := by
  obtain ⟨i0, hi, hz0, hz1, hz2⟩ := info_parts info3
  obtain ⟨a, cap, rfl, hd⟩ := hd
  go_enter Tryd.func53, Tryd.ntmps53
  go_wp2_with fail
  go_loopg [11] d.length (fun g i wr => ∃ j : Nat, j ≤ d.length ∧ g = d.length - j ∧ i = .int .i64 j ∧ (∃ b : Nat → Bool, Bits wr w.heap.size b ∧ Hid (∀ k, k < 10 → b k = storesF (d.take j) k)) ∧ (∀ o, wr.frozen? ⟨w.heap.size, o, none⟩ = false) ∧ Below w.heap.size w wr)
  case atStart =>
    refine ⟨0, by omega, by omega, rfl, ⟨fun _ => false, ?_, fun k _ => by simp [storesF]⟩, fun o => by go_simp, (Below.refl _ _).alloc (Nat.le_refl _) _⟩
    exact lt10 (by go_simp) (by go_simp) (by go_simp) (by go_simp) (by go_simp) (by go_simp) (by go_simp) (by go_simp) (by go_simp) (by go_simp)
  case round =>
    obtain ⟨j, hj, hg, rfl, ⟨b, hb, hF⟩, hfr, hB⟩ := hrel
    have hz : w.heap.size < wr.heap.size := World.block_lt_of_cell? wr _ (hb 0 (by omega))
    by_cases hlt : j < d.length
    · obtain ⟨bb, off, rfl, c0, c1, c2, c3, c4⟩ := hd j hlt
      replace c0 := cell_later hB c0
      replace c1 := cell_later hB c1
      replace c2 := cell_later hB c2
      replace c3 := cell_later hB c3
      replace c4 := cell_later hB c4
      have hst : Hid (∀ k, storesF (d.take (j + 1)) k = (storesF (d.take j) k || ((d[j].k == 7) && (d[j].a == (k : Int))))) := storesF_take hlt
      clear hd
      by_cases h7 : d[j].k = 7
      · have t7 : (d[j].k == 7) = true := by simp [h7]
        by_cases hk : 0 ≤ d[j].a ∧ d[j].a < 10
        · obtain ⟨m, hm⟩ : ∃ m : Nat, d[j].a = (m : Int) := ⟨d[j].a.toNat, by omega⟩
          have hm10 : m < 10 := by omega
          have hmi : (m : Int) < 10 := by omega
          have hcm := hb m hm10
          have hF' : Hid (∀ k, k < 10 → (if k = m then true else b k) = storesF (d.take (j + 1)) k) := fun k hk => by
            rw [hst.out k, ← hF.out k hk, t7, hm]
            by_cases e : k = m
            · subst e; simp
            · have : ((m : Int) == (k : Int)) = false := by simp; omega
              simp [e, this]
          rw [hm] at c1
          clear hst hF hk
          generalize d[j].k = xk at *
          generalize d[j].b = xb at *
          generalize d[j].c = xc at *
          generalize d[j].n = xn at *
          clear hm h7
          go_wp2_with fail
          go_roundg (d.length - (j + 1))
          case measure => omega
          case rel => exact ⟨j + 1, by omega, rfl, by go_num, ⟨_, (hb.set hm10).later ((Below.refl _ _).alloc (Nat.le_refl _) _), hF'⟩, fun o => by rw [frozen_alloc_lt _ (by rw [size_setCell]; exact hz), World.frozen?_setCell]; exact hfr o, (hB.setCell (p := ⟨w.heap.size, m, none⟩) (Nat.le_refl _) _).alloc (by rw [size_setCell]; exact hB.size) _⟩
        · have hF' : Hid (∀ k, k < 10 → b k = storesF (d.take (j + 1)) k) := fun k hk' => by
            have : (d[j].a == (k : Int)) = false := by simp; omega
            rw [hst.out k, ← hF.out k hk', this]; simp
          clear hst hF h7
          by_cases ha : d[j].a < 0
          · have ha' : ¬ 0 ≤ d[j].a := by omega
            go_wp2_with fail
            go_roundg (d.length - (j + 1))
            case measure => omega
            case rel => exact ⟨j + 1, by omega, rfl, by go_num, ⟨_, hb.later ((Below.refl _ _).alloc (Nat.le_refl _) _), hF'⟩, fun o => by rw [frozen_alloc_lt _ hz]; exact hfr o, hB.alloc hB.size _⟩
          · have ha' : 0 ≤ d[j].a := by omega
            have ha'' : ¬ d[j].a < 10 := by omega
            go_wp2_with fail
            go_roundg (d.length - (j + 1))
            case measure => omega
            case rel => exact ⟨j + 1, by omega, rfl, by go_num, ⟨_, hb.later ((Below.refl _ _).alloc (Nat.le_refl _) _), hF'⟩, fun o => by rw [frozen_alloc_lt _ hz]; exact hfr o, hB.alloc hB.size _⟩
      · have t7 : (d[j].k == 7) = false := by simp [h7]
        have hF' : Hid (∀ k, k < 10 → b k = storesF (d.take (j + 1)) k) := fun k hk' => by
          rw [hst.out k, ← hF.out k hk', t7]; simp
        clear hst hF h7
        go_wp2_with fail
        go_roundg (d.length - (j + 1))
        case measure => omega
        case rel => exact ⟨j + 1, by omega, rfl, by go_num, ⟨_, hb.later ((Below.refl _ _).alloc (Nat.le_refl _) _), hF'⟩, fun o => by rw [frozen_alloc_lt _ hz]; exact hfr o, hB.alloc hB.size _⟩
    · obtain rfl : j = d.length := by omega
      have hF' : Hid (keysF d = (List.range 10).filter b) := by
        show _ = _
        unfold keysF
        apply List.filter_congr
        intro k hk
        have := hF.out k (by simpa using hk)
        rw [List.take_length] at this
        exact this.symm
      obtain ⟨k0, k1, k2, k3, k4, k5, k6, k7, k8, k9⟩ := hb.ten
      clear hd hF hfr hb
      go_wp2_with fail
      go_loopg [6, 33] 10 (fun g v i wq => ∃ m : Nat, ∃ u : Value, m ≤ 10 ∧ g = 10 - m ∧ i = .int .i64 m ∧ u = v ∧ wq.ownsRow w.heap.size 3 1 u ((List.range m).filter b).length (((List.range m).filter b).map fun k : Nat => .int .i64 (k : Int)) ∧ Below w.heap.size w wq)
      case atStart => exact ⟨0, _, by omega, by omega, rfl, rfl, by simpa using World.ownsRow_nil _ _ _ _, hB⟩
      case round =>
        obtain ⟨m, u, hm, hg', rfl, hu, hown, hBq⟩ := hrel
        subst hu
        clear hB k0 k1 k2 k3 k4 k5 k6 k7 k8 k9 hz
        have hln : ((List.range m).filter b).length ≤ 10 := by
          have := List.length_filter_le b (List.range m)
          simp at this; omega
        by_cases hlt : m < 10
        · have hix := index_bool b wr m hlt
          have hmi : (m : Int) < 10 := by omega
          cases hbm : b m with
          | false =>
            rw [hbm] at hix
            have hf : Hid ((List.range (m + 1)).filter b = (List.range m).filter b) := by
              show _ = _
              rw [List.range_succ, List.filter_append]; simp [hbm]
            clear hbm
            go_wp2_with fail
            go_roundg (10 - (m + 1))
            case measure => omega
            case rel => exact ⟨m + 1, _, by omega, rfl, by go_num, rfl, by rw [hf.out]; exact hown, hBq⟩
          | true =>
            rw [hbm] at hix
            have hf : Hid ((List.range (m + 1)).filter b = (List.range m).filter b ++ [m]) := by
              show _ = _
              rw [List.range_succ, List.filter_append]; simp [hbm]
            clear hbm
            go_wp2_with (at_builtin; refine wpList_append_own _ rfl _ _ 77 rfl w.heap.size 3 i0 (.int .i64 0) 1 8 Tryd.underlying77 hi hz0 hz1 hz2 rfl (by decide) _ _ _ rfl (hown.alloc _) ⟨wr.heap.size, 0, none⟩ 1 1 [.int .i64 (m : Int)] rfl rfl (cell_one_new _ _ _) (by simp [Value.oneCell']) (by unfold maxLen; omega) (by omega) (by have := hBq.size; simp; omega) ?_; intro v' w1 hown' hgrow hnil)
            go_roundg (10 - (m + 1))
            case measure => omega
            case rel =>
              refine ⟨m + 1, _, by omega, rfl, by go_num, rfl, by rw [hf.out]; simpa using hown', ?_⟩
              exact (hBq.alloc hBq.size _).grown hgrow (by have := hBq.size; simp; omega) (fun k hk => (hown.lt k hk).1)
        · obtain rfl : m = 10 := by omega
          have ho : Hid (wr.ownsRow w.heap.size 3 1 u (keysF d).length ((keysF d).map fun k : Nat => .int .i64 (k : Int))) := by
            show World.ownsRow _ _ _ _ _ _ _
            rw [hF'.out]; exact hown
          go_wp2_with fail
          go_ret
          exact ⟨⟨_, rfl, ho.out⟩, hBq⟩
end Go.Proofs.YthlhbmldfjkagaaDoor
