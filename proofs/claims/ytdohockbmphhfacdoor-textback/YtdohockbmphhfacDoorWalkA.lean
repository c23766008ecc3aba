/-
  The walks of the small functions.
-/
import Derived.Test.YtdohockbmphhfacDoorRows
import Derived.Test.YtdohockbmphhfacDoorMath
import Derived.WalkKit
import Derived.WalkSpells
namespace Go.Proofs.YtdohockbmphhfacDoor
open Go.RowKit

set_option maxHeartbeats 400000 in
theorem part_any (p l : Int) (w : World) :
    Calls Tryd.prog 118 #[.int .i64 p, .int .i64 l] w fun e w' => e = .returned (.int .i64 (partF p l)) ∧ w' = w := by
  unfold partF
  by_cases h0 : l = 0
  · by_cases h1 : p = 0
    · go_enter Tryd.func118, Tryd.ntmps118
      go_wp2
      go_ret
      exact ⟨by simp, rfl⟩
    · go_enter Tryd.func118, Tryd.ntmps118
      go_wp2
      go_ret
      exact ⟨by simp, rfl⟩
  · by_cases h1 : p < 0
    · go_enter Tryd.func118, Tryd.ntmps118
      go_wp2
      go_ret
      exact ⟨by simp, rfl⟩
    · by_cases h2 : l ≤ p
      · go_enter Tryd.func118, Tryd.ntmps118
        go_wp2
        go_ret
        exact ⟨by simp, rfl⟩
      · go_enter Tryd.func118, Tryd.ntmps118
        go_wp2
        go_ret
        exact ⟨by simp, rfl⟩

set_option maxHeartbeats 400000 in
theorem F_any (c n : Int) (w : World) :
    Calls Tryd.prog 83 #[.int .i64 c, .int .i64 n] w fun e w' => e = .returned (.agg #[.int .i64 c, .int .i64 n]) ∧ Below w.heap.size w w' := by
  go_enter Tryd.func83, Tryd.ntmps83
  go_wp2
  exact bodyPost_ret (v := .agg #[.int .i64 c, .int .i64 n]) (by simp [results, Tryd.results83, go_sem]) rfl ⟨rfl, (Below.refl _ _).alloc (Nat.le_refl _) _⟩

theorem ret_int {k : IntKind} {a b : Int} (h : a = b) : Ending.returned (.int k a) = .returned (.int k b) := by rw [h]

/-- The cells of the table of limits. -/
def Lim (w : World) : Prop := ∀ (k : Nat) (j : Nat), k < 10 → j < 3 → w.cell? ⟨3, k * 3 + j, none⟩ = some (.int .i64 (limF k j))

set_option maxHeartbeats 400000 in
theorem alone_bad (o : Op5) (w : World) (h : o.k < 1 ∨ 9 < o.k) :
    Calls Tryd.prog 93 #[.agg #[.int .i64 o.k, .int .i64 o.a, .int .i64 o.b, .int .i64 o.c, .int .i64 o.n]] w fun e w' => e = .returned (.int .i64 (aloneF o)) ∧ Below w.heap.size w w' := by
  obtain ⟨k, a, b, c, n⟩ := o
  have e : aloneF ⟨k, a, b, c, n⟩ = 2 := by unfold aloneF; rw [if_pos h]
  rw [e]; clear e
  dsimp only at h ⊢
  rcases h with h | h
  · go_enter Tryd.func93, Tryd.ntmps93
    go_wp2
    go_ret
    exact ⟨rfl, (Below.refl _ _).alloc (Nat.le_refl _) _⟩
  · have h' : ¬ k < 1 := by omega
    go_enter Tryd.func93, Tryd.ntmps93
    go_wp2
    go_ret
    exact ⟨rfl, (Below.refl _ _).alloc (Nat.le_refl _) _⟩

set_option maxHeartbeats 400000 in
theorem alone_good (o : Op5) (w : World) (h1 : 1 ≤ o.k) (h9 : o.k ≤ 9) (hL : Lim w) (hw : 3 < w.heap.size) :
    Calls Tryd.prog 93 #[.agg #[.int .i64 o.k, .int .i64 o.a, .int .i64 o.b, .int .i64 o.c, .int .i64 o.n]] w fun e w' => e = .returned (.int .i64 (aloneF o)) ∧ Below w.heap.size w w' := by
  obtain ⟨k, a, b, c, n⟩ := o
  dsimp only at h1 h9 ⊢
  obtain ⟨m, rfl⟩ : ∃ m : Nat, k = (m : Int) := ⟨k.toNat, by omega⟩
  have l0 : w.cell? ⟨3, m * 3, none⟩ = some (.int .i64 (limF m 0)) := hL m 0 (by omega) (by omega)
  have l1 : w.cell? ⟨3, m * 3 + 1, none⟩ = some (.int .i64 (limF m 1)) := hL m 1 (by omega) (by omega)
  have l2 : w.cell? ⟨3, m * 3 + 2, none⟩ = some (.int .i64 (limF m 2)) := hL m 2 (by omega) (by omega)
  go_enter Tryd.func93, Tryd.ntmps93
  have i0 : ∀ w, (Instr.index 183 (.agg #[.int .i64 a, .int .i64 b, .int .i64 c]) (.int .i64 0)).run Tryd.prog w = .ok (.int .i64 a) w := fun _ => by kernel_rfl
  have i1 : ∀ w, (Instr.index 183 (.agg #[.int .i64 a, .int .i64 b, .int .i64 c]) (.int .i64 1)).run Tryd.prog w = .ok (.int .i64 b) w := fun _ => by kernel_rfl
  have i2 : ∀ w, (Instr.index 183 (.agg #[.int .i64 a, .int .i64 b, .int .i64 c]) (.int .i64 2)).run Tryd.prog w = .ok (.int .i64 c) w := fun _ => by kernel_rfl
  go_wp2_with fail
  go_loop [21] (fun i => ∃ j : Nat, j ≤ 3 ∧ i = .int .i64 j ∧ Hid ((0 < j → partF a (limF m 0) = 0) ∧ (1 < j → partF b (limF m 1) = 0) ∧ (2 < j → partF c (limF m 2) = 0))) (fun i => 3 - (intOf i).toNat)
  case atStart => exact ⟨0, by omega, rfl, fun h => by omega, fun h => by omega, fun h => by omega⟩
  case round =>
    obtain ⟨j, hj, rfl, hh⟩ := hrel
    have hc : j = 0 ∨ j = 1 ∨ j = 2 ∨ j = 3 := by omega
    rcases hc with rfl | rfl | rfl | rfl
    · by_cases hp : partF a (limF m 0) = 0
      · go_wp2_with (go_at_call 118; refine (part_any _ _ _).mono ?_; rintro e w' ⟨rfl, rfl⟩)
        go_round
        case rel => exact ⟨1, by omega, by go_num, fun _ => hp, fun h => by omega, fun h => by omega⟩
        case measure => simp [intOf]
      · have hf : Hid (aloneF ⟨m, a, b, c, n⟩ = partF a (limF m 0)) := aloneF_a (o := ⟨m, a, b, c, n⟩) (by dsimp only; omega) hp
        go_wp2_with (go_at_call 118; refine (part_any _ _ _).mono ?_; rintro e w' ⟨rfl, rfl⟩)
        go_ret
        exact ⟨ret_int hf.out.symm, (Below.refl _ _).alloc (Nat.le_refl _) _⟩
    · by_cases hp : partF b (limF m 1) = 0
      · go_wp2_with (go_at_call 118; refine (part_any _ _ _).mono ?_; rintro e w' ⟨rfl, rfl⟩)
        go_round
        case rel => exact ⟨2, by omega, by go_num, fun _ => hh.out.1 (by omega), fun _ => hp, fun h => by omega⟩
        case measure => simp [intOf]
      · have hf : Hid (aloneF ⟨m, a, b, c, n⟩ = partF b (limF m 1)) := aloneF_b (o := ⟨m, a, b, c, n⟩) (by dsimp only; omega) (hh.out.1 (by omega)) hp
        go_wp2_with (go_at_call 118; refine (part_any _ _ _).mono ?_; rintro e w' ⟨rfl, rfl⟩)
        go_ret
        exact ⟨ret_int hf.out.symm, (Below.refl _ _).alloc (Nat.le_refl _) _⟩
    · by_cases hp : partF c (limF m 2) = 0
      · go_wp2_with (go_at_call 118; refine (part_any _ _ _).mono ?_; rintro e w' ⟨rfl, rfl⟩)
        go_round
        case rel => exact ⟨3, by omega, by go_num, fun _ => hh.out.1 (by omega), fun _ => hh.out.2.1 (by omega), fun _ => hp⟩
        case measure => simp [intOf]
      · have hf : Hid (aloneF ⟨m, a, b, c, n⟩ = partF c (limF m 2)) := aloneF_c (o := ⟨m, a, b, c, n⟩) (by dsimp only; omega) (hh.out.1 (by omega)) (hh.out.2.1 (by omega)) hp
        go_wp2_with (go_at_call 118; refine (part_any _ _ _).mono ?_; rintro e w' ⟨rfl, rfl⟩)
        go_ret
        exact ⟨ret_int hf.out.symm, (Below.refl _ _).alloc (Nat.le_refl _) _⟩
    · have hf : Hid (aloneF ⟨m, a, b, c, n⟩ = if n ≠ 0 ∧ (m : Int) ≠ 1 then 3 else 0) := aloneF_n (o := ⟨m, a, b, c, n⟩) (by dsimp only; omega) (hh.out.1 (by omega)) (hh.out.2.1 (by omega)) (hh.out.2.2 (by omega))
      by_cases hn : n = 0
      · have hg : Hid (0 = aloneF ⟨m, a, b, c, n⟩) := by rw [hf.out, if_neg (by omega)]; rfl
        have hb : (n != 0) = false := by simp [hn]
        clear hf hn
        go_wp2
        go_ret
        exact ⟨ret_int hg.out, (Below.refl _ _).alloc (Nat.le_refl _) _⟩
      · have hb : (n != 0) = true := by simp [hn]
        by_cases hm : (m : Int) = 1
        · have hg : Hid (0 = aloneF ⟨m, a, b, c, n⟩) := by rw [hf.out, if_neg (by omega)]; rfl
          have hb' : ((m : Int) != 1) = false := by simp [hm]
          clear hf hn hm
          go_wp2
          go_ret
          exact ⟨ret_int hg.out, (Below.refl _ _).alloc (Nat.le_refl _) _⟩
        · have hg : Hid (3 = aloneF ⟨m, a, b, c, n⟩) := by rw [hf.out, if_pos ⟨hn, hm⟩]; rfl
          have hb' : ((m : Int) != 1) = true := by simp [hm]
          clear hf hn hm
          go_wp2
          go_ret
          exact ⟨ret_int hg.out, (Below.refl _ _).alloc (Nat.le_refl _) _⟩
end Go.Proofs.YtdohockbmphhfacDoor
