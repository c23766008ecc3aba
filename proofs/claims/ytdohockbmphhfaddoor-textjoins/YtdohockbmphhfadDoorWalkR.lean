/-
  The walks of the reference's own look at operations, deeds and rounds.
-/
import Derived.Test.YtdohockbmphhfadDoorWalkB
namespace Go.Proofs.YtdohockbmphhfadDoor
open Go.RowKit

set_option maxHeartbeats 400000 in
theorem bad_any (p l : Int) (w : World) :
    Calls Tryd.prog 32 #[.int .i64 p, .int .i64 l] w fun e w' => e = .returned (.int .i64 (partF p l)) ∧ w' = w := by
  unfold partF
  by_cases h0 : l = 0
  · by_cases h1 : p = 0
    · go_enter Tryd.func32, Tryd.ntmps32
      go_wp2
      go_ret
      exact ⟨by simp, rfl⟩
    · go_enter Tryd.func32, Tryd.ntmps32
      go_wp2
      go_ret
      exact ⟨by simp, rfl⟩
  · by_cases h1 : p < 0
    · go_enter Tryd.func32, Tryd.ntmps32
      go_wp2
      go_ret
      exact ⟨by simp, rfl⟩
    · by_cases h2 : l ≤ p
      · go_enter Tryd.func32, Tryd.ntmps32
        go_wp2
        go_ret
        exact ⟨by simp, rfl⟩
      · go_enter Tryd.func32, Tryd.ntmps32
        go_wp2
        go_ret
        exact ⟨by simp, rfl⟩

theorem alone_eq (k a b c n A B C : Int) (h1 : 1 ≤ k) (h9 : k ≤ 9) (hA : limF k 0 = A) (hB : limF k 1 = B) (hC : limF k 2 = C) :
    aloneF ⟨k, a, b, c, n⟩ = if partF a A ≠ 0 then partF a A else if partF b B ≠ 0 then partF b B else if partF c C ≠ 0 then partF c C else if n ≠ 0 ∧ k ≠ 1 then 3 else 0 := by
  unfold aloneF
  rw [if_neg (by dsimp only; omega), hA, hB, hC]

set_option maxHeartbeats 400000 in
theorem fault_bad (o : Op5) (w : World) (h : o.k < 1 ∨ 9 < o.k) :
    Calls Tryd.prog 18 #[.agg #[.int .i64 o.k, .int .i64 o.a, .int .i64 o.b, .int .i64 o.c, .int .i64 o.n]] w fun e w' => e = .returned (.int .i64 (aloneF o)) ∧ Below w.heap.size w w' := by
  obtain ⟨k, a, b, c, n⟩ := o
  have e : aloneF ⟨k, a, b, c, n⟩ = 2 := by unfold aloneF; rw [if_pos h]
  rw [e]; clear e
  dsimp only at h ⊢
  have t1 : (k == 1) = false := by rw [beq_eq_false_iff_ne]; omega
  have t2 : (k == 2) = false := by rw [beq_eq_false_iff_ne]; omega
  have t3 : (k == 3) = false := by rw [beq_eq_false_iff_ne]; omega
  have t4 : (k == 4) = false := by rw [beq_eq_false_iff_ne]; omega
  have t5 : (k == 5) = false := by rw [beq_eq_false_iff_ne]; omega
  have t6 : (k == 6) = false := by rw [beq_eq_false_iff_ne]; omega
  have t7 : (k == 7) = false := by rw [beq_eq_false_iff_ne]; omega
  have t8 : (k == 8) = false := by rw [beq_eq_false_iff_ne]; omega
  have t9 : (k == 9) = false := by rw [beq_eq_false_iff_ne]; omega
  clear h
  go_enter Tryd.func18, Tryd.ntmps18
  go_wp2
  go_ret
  exact ⟨rfl, (Below.refl _ _).alloc (Nat.le_refl _) _⟩

set_option maxHeartbeats 400000 in
theorem fault_1 (a b c n : Int) (w : World) :
    Calls Tryd.prog 18 #[.agg #[.int .i64 1, .int .i64 a, .int .i64 b, .int .i64 c, .int .i64 n]] w fun e w' => e = .returned (.int .i64 (aloneF ⟨1, a, b, c, n⟩)) ∧ Below w.heap.size w w' := by
  obtain ⟨R, eR⟩ : ∃ R, R = aloneF ⟨1, a, b, c, n⟩ := ⟨_, rfl⟩
  rw [← eR]
  rw [alone_eq 1 a b c n 4 0 0 (by decide) (by decide) rfl rfl rfl] at eR
  have hb1 := fun w => bad_any a 4 w
  have hb2 := fun w => bad_any b 0 w
  have hb3 := fun w => bad_any c 0 w
  generalize partF a 4 = pa at *
  generalize partF b 0 = pb at *
  generalize partF c 0 = pc at *
  by_cases ha : pa = 0
  · subst ha
    by_cases hb : pb = 0
    · subst hb
      by_cases hc : pc = 0
      · subst hc
        by_cases hn : n = 0
        · have tn : (n != 0) = false := by simp [hn]
          have e : Hid (R = 0) := by show _ = _; rw [eR]; simp [hn]
          clear hn eR
          go_enter Tryd.func18, Tryd.ntmps18
          go_wp2_with fail
          refine (hb1 _).mono ?_
          rintro e w' ⟨rfl, rfl⟩
          go_wp2_with fail
          refine (hb2 _).mono ?_
          rintro e w' ⟨rfl, rfl⟩
          go_wp2_with fail
          refine (hb3 _).mono ?_
          rintro e w' ⟨rfl, rfl⟩
          go_wp2_with fail
          go_ret
          exact ⟨ret_int e.out.symm, (Below.refl _ _).alloc (Nat.le_refl _) _⟩
        · have tn : (n != 0) = true := by simp [hn]
          have e : Hid (R = 0) := by show _ = _; rw [eR]; simp [hn]
          clear hn eR
          go_enter Tryd.func18, Tryd.ntmps18
          go_wp2_with fail
          refine (hb1 _).mono ?_
          rintro e w' ⟨rfl, rfl⟩
          go_wp2_with fail
          refine (hb2 _).mono ?_
          rintro e w' ⟨rfl, rfl⟩
          go_wp2_with fail
          refine (hb3 _).mono ?_
          rintro e w' ⟨rfl, rfl⟩
          go_wp2_with fail
          go_ret
          exact ⟨ret_int e.out.symm, (Below.refl _ _).alloc (Nat.le_refl _) _⟩
      · have tc : (pc != 0) = true := by simp [hc]
        have e : Hid (R = pc) := by show _ = _; rw [eR]; simp [hc]
        clear hc eR
        go_enter Tryd.func18, Tryd.ntmps18
        go_wp2_with fail
        refine (hb1 _).mono ?_
        rintro e w' ⟨rfl, rfl⟩
        go_wp2_with fail
        refine (hb2 _).mono ?_
        rintro e w' ⟨rfl, rfl⟩
        go_wp2_with fail
        refine (hb3 _).mono ?_
        rintro e w' ⟨rfl, rfl⟩
        go_wp2_with fail
        go_ret
        exact ⟨ret_int e.out.symm, (Below.refl _ _).alloc (Nat.le_refl _) _⟩
    · have tb : (pb != 0) = true := by simp [hb]
      have e : Hid (R = pb) := by show _ = _; rw [eR]; simp [hb]
      clear hb eR
      go_enter Tryd.func18, Tryd.ntmps18
      go_wp2_with fail
      refine (hb1 _).mono ?_
      rintro e w' ⟨rfl, rfl⟩
      go_wp2_with fail
      refine (hb2 _).mono ?_
      rintro e w' ⟨rfl, rfl⟩
      go_wp2_with fail
      go_ret
      exact ⟨ret_int e.out.symm, (Below.refl _ _).alloc (Nat.le_refl _) _⟩
  · have ta : (pa != 0) = true := by simp [ha]
    have e : Hid (R = pa) := by show _ = _; rw [eR]; simp [ha]
    clear ha eR
    go_enter Tryd.func18, Tryd.ntmps18
    go_wp2_with fail
    refine (hb1 _).mono ?_
    rintro e w' ⟨rfl, rfl⟩
    go_wp2_with fail
    go_ret
    exact ⟨ret_int e.out.symm, (Below.refl _ _).alloc (Nat.le_refl _) _⟩

set_option maxHeartbeats 400000 in
theorem fault_2 (a b c n : Int) (w : World) :
    Calls Tryd.prog 18 #[.agg #[.int .i64 2, .int .i64 a, .int .i64 b, .int .i64 c, .int .i64 n]] w fun e w' => e = .returned (.int .i64 (aloneF ⟨2, a, b, c, n⟩)) ∧ Below w.heap.size w w' := by
  obtain ⟨R, eR⟩ : ∃ R, R = aloneF ⟨2, a, b, c, n⟩ := ⟨_, rfl⟩
  rw [← eR]
  rw [alone_eq 2 a b c n 4 10 0 (by decide) (by decide) rfl rfl rfl] at eR
  have hb1 := fun w => bad_any a 4 w
  have hb2 := fun w => bad_any b 10 w
  have hb3 := fun w => bad_any c 0 w
  generalize partF a 4 = pa at *
  generalize partF b 10 = pb at *
  generalize partF c 0 = pc at *
  by_cases ha : pa = 0
  · subst ha
    by_cases hb : pb = 0
    · subst hb
      by_cases hc : pc = 0
      · subst hc
        by_cases hn : n = 0
        · have tn : (n != 0) = false := by simp [hn]
          have e : Hid (R = 0) := by show _ = _; rw [eR]; simp [hn]
          clear hn eR
          go_enter Tryd.func18, Tryd.ntmps18
          go_wp2_with fail
          refine (hb1 _).mono ?_
          rintro e w' ⟨rfl, rfl⟩
          go_wp2_with fail
          refine (hb2 _).mono ?_
          rintro e w' ⟨rfl, rfl⟩
          go_wp2_with fail
          refine (hb3 _).mono ?_
          rintro e w' ⟨rfl, rfl⟩
          go_wp2_with fail
          go_ret
          exact ⟨ret_int e.out.symm, (Below.refl _ _).alloc (Nat.le_refl _) _⟩
        · have tn : (n != 0) = true := by simp [hn]
          have e : Hid (R = 3) := by show _ = _; rw [eR]; simp [hn]
          clear hn eR
          go_enter Tryd.func18, Tryd.ntmps18
          go_wp2_with fail
          refine (hb1 _).mono ?_
          rintro e w' ⟨rfl, rfl⟩
          go_wp2_with fail
          refine (hb2 _).mono ?_
          rintro e w' ⟨rfl, rfl⟩
          go_wp2_with fail
          refine (hb3 _).mono ?_
          rintro e w' ⟨rfl, rfl⟩
          go_wp2_with fail
          go_ret
          exact ⟨ret_int e.out.symm, (Below.refl _ _).alloc (Nat.le_refl _) _⟩
      · have tc : (pc != 0) = true := by simp [hc]
        have e : Hid (R = pc) := by show _ = _; rw [eR]; simp [hc]
        clear hc eR
        go_enter Tryd.func18, Tryd.ntmps18
        go_wp2_with fail
        refine (hb1 _).mono ?_
        rintro e w' ⟨rfl, rfl⟩
        go_wp2_with fail
        refine (hb2 _).mono ?_
        rintro e w' ⟨rfl, rfl⟩
        go_wp2_with fail
        refine (hb3 _).mono ?_
        rintro e w' ⟨rfl, rfl⟩
        go_wp2_with fail
        go_ret
        exact ⟨ret_int e.out.symm, (Below.refl _ _).alloc (Nat.le_refl _) _⟩
    · have tb : (pb != 0) = true := by simp [hb]
      have e : Hid (R = pb) := by show _ = _; rw [eR]; simp [hb]
      clear hb eR
      go_enter Tryd.func18, Tryd.ntmps18
      go_wp2_with fail
      refine (hb1 _).mono ?_
      rintro e w' ⟨rfl, rfl⟩
      go_wp2_with fail
      refine (hb2 _).mono ?_
      rintro e w' ⟨rfl, rfl⟩
      go_wp2_with fail
      go_ret
      exact ⟨ret_int e.out.symm, (Below.refl _ _).alloc (Nat.le_refl _) _⟩
  · have ta : (pa != 0) = true := by simp [ha]
    have e : Hid (R = pa) := by show _ = _; rw [eR]; simp [ha]
    clear ha eR
    go_enter Tryd.func18, Tryd.ntmps18
    go_wp2_with fail
    refine (hb1 _).mono ?_
    rintro e w' ⟨rfl, rfl⟩
    go_wp2_with fail
    go_ret
    exact ⟨ret_int e.out.symm, (Below.refl _ _).alloc (Nat.le_refl _) _⟩

set_option maxHeartbeats 400000 in
theorem fault_3 (a b c n : Int) (w : World) :
    Calls Tryd.prog 18 #[.agg #[.int .i64 3, .int .i64 a, .int .i64 b, .int .i64 c, .int .i64 n]] w fun e w' => e = .returned (.int .i64 (aloneF ⟨3, a, b, c, n⟩)) ∧ Below w.heap.size w w' := by
  obtain ⟨R, eR⟩ : ∃ R, R = aloneF ⟨3, a, b, c, n⟩ := ⟨_, rfl⟩
  rw [← eR]
  rw [alone_eq 3 a b c n 4 4 4 (by decide) (by decide) rfl rfl rfl] at eR
  have hb1 := fun w => bad_any a 4 w
  have hb2 := fun w => bad_any b 4 w
  have hb3 := fun w => bad_any c 4 w
  generalize partF a 4 = pa at *
  generalize partF b 4 = pb at *
  generalize partF c 4 = pc at *
  by_cases ha : pa = 0
  · subst ha
    by_cases hb : pb = 0
    · subst hb
      by_cases hc : pc = 0
      · subst hc
        by_cases hn : n = 0
        · have tn : (n != 0) = false := by simp [hn]
          have e : Hid (R = 0) := by show _ = _; rw [eR]; simp [hn]
          clear hn eR
          go_enter Tryd.func18, Tryd.ntmps18
          go_wp2_with fail
          refine (hb1 _).mono ?_
          rintro e w' ⟨rfl, rfl⟩
          go_wp2_with fail
          refine (hb2 _).mono ?_
          rintro e w' ⟨rfl, rfl⟩
          go_wp2_with fail
          refine (hb3 _).mono ?_
          rintro e w' ⟨rfl, rfl⟩
          go_wp2_with fail
          go_ret
          exact ⟨ret_int e.out.symm, (Below.refl _ _).alloc (Nat.le_refl _) _⟩
        · have tn : (n != 0) = true := by simp [hn]
          have e : Hid (R = 3) := by show _ = _; rw [eR]; simp [hn]
          clear hn eR
          go_enter Tryd.func18, Tryd.ntmps18
          go_wp2_with fail
          refine (hb1 _).mono ?_
          rintro e w' ⟨rfl, rfl⟩
          go_wp2_with fail
          refine (hb2 _).mono ?_
          rintro e w' ⟨rfl, rfl⟩
          go_wp2_with fail
          refine (hb3 _).mono ?_
          rintro e w' ⟨rfl, rfl⟩
          go_wp2_with fail
          go_ret
          exact ⟨ret_int e.out.symm, (Below.refl _ _).alloc (Nat.le_refl _) _⟩
      · have tc : (pc != 0) = true := by simp [hc]
        have e : Hid (R = pc) := by show _ = _; rw [eR]; simp [hc]
        clear hc eR
        go_enter Tryd.func18, Tryd.ntmps18
        go_wp2_with fail
        refine (hb1 _).mono ?_
        rintro e w' ⟨rfl, rfl⟩
        go_wp2_with fail
        refine (hb2 _).mono ?_
        rintro e w' ⟨rfl, rfl⟩
        go_wp2_with fail
        refine (hb3 _).mono ?_
        rintro e w' ⟨rfl, rfl⟩
        go_wp2_with fail
        go_ret
        exact ⟨ret_int e.out.symm, (Below.refl _ _).alloc (Nat.le_refl _) _⟩
    · have tb : (pb != 0) = true := by simp [hb]
      have e : Hid (R = pb) := by show _ = _; rw [eR]; simp [hb]
      clear hb eR
      go_enter Tryd.func18, Tryd.ntmps18
      go_wp2_with fail
      refine (hb1 _).mono ?_
      rintro e w' ⟨rfl, rfl⟩
      go_wp2_with fail
      refine (hb2 _).mono ?_
      rintro e w' ⟨rfl, rfl⟩
      go_wp2_with fail
      go_ret
      exact ⟨ret_int e.out.symm, (Below.refl _ _).alloc (Nat.le_refl _) _⟩
  · have ta : (pa != 0) = true := by simp [ha]
    have e : Hid (R = pa) := by show _ = _; rw [eR]; simp [ha]
    clear ha eR
    go_enter Tryd.func18, Tryd.ntmps18
    go_wp2_with fail
    refine (hb1 _).mono ?_
    rintro e w' ⟨rfl, rfl⟩
    go_wp2_with fail
    go_ret
    exact ⟨ret_int e.out.symm, (Below.refl _ _).alloc (Nat.le_refl _) _⟩

set_option maxHeartbeats 400000 in
theorem fault_4 (a b c n : Int) (w : World) :
    Calls Tryd.prog 18 #[.agg #[.int .i64 4, .int .i64 a, .int .i64 b, .int .i64 c, .int .i64 n]] w fun e w' => e = .returned (.int .i64 (aloneF ⟨4, a, b, c, n⟩)) ∧ Below w.heap.size w w' := by
  obtain ⟨R, eR⟩ : ∃ R, R = aloneF ⟨4, a, b, c, n⟩ := ⟨_, rfl⟩
  rw [← eR]
  rw [alone_eq 4 a b c n 4 4 4 (by decide) (by decide) rfl rfl rfl] at eR
  have hb1 := fun w => bad_any a 4 w
  have hb2 := fun w => bad_any b 4 w
  have hb3 := fun w => bad_any c 4 w
  generalize partF a 4 = pa at *
  generalize partF b 4 = pb at *
  generalize partF c 4 = pc at *
  by_cases ha : pa = 0
  · subst ha
    by_cases hb : pb = 0
    · subst hb
      by_cases hc : pc = 0
      · subst hc
        by_cases hn : n = 0
        · have tn : (n != 0) = false := by simp [hn]
          have e : Hid (R = 0) := by show _ = _; rw [eR]; simp [hn]
          clear hn eR
          go_enter Tryd.func18, Tryd.ntmps18
          go_wp2_with fail
          refine (hb1 _).mono ?_
          rintro e w' ⟨rfl, rfl⟩
          go_wp2_with fail
          refine (hb2 _).mono ?_
          rintro e w' ⟨rfl, rfl⟩
          go_wp2_with fail
          refine (hb3 _).mono ?_
          rintro e w' ⟨rfl, rfl⟩
          go_wp2_with fail
          go_ret
          exact ⟨ret_int e.out.symm, (Below.refl _ _).alloc (Nat.le_refl _) _⟩
        · have tn : (n != 0) = true := by simp [hn]
          have e : Hid (R = 3) := by show _ = _; rw [eR]; simp [hn]
          clear hn eR
          go_enter Tryd.func18, Tryd.ntmps18
          go_wp2_with fail
          refine (hb1 _).mono ?_
          rintro e w' ⟨rfl, rfl⟩
          go_wp2_with fail
          refine (hb2 _).mono ?_
          rintro e w' ⟨rfl, rfl⟩
          go_wp2_with fail
          refine (hb3 _).mono ?_
          rintro e w' ⟨rfl, rfl⟩
          go_wp2_with fail
          go_ret
          exact ⟨ret_int e.out.symm, (Below.refl _ _).alloc (Nat.le_refl _) _⟩
      · have tc : (pc != 0) = true := by simp [hc]
        have e : Hid (R = pc) := by show _ = _; rw [eR]; simp [hc]
        clear hc eR
        go_enter Tryd.func18, Tryd.ntmps18
        go_wp2_with fail
        refine (hb1 _).mono ?_
        rintro e w' ⟨rfl, rfl⟩
        go_wp2_with fail
        refine (hb2 _).mono ?_
        rintro e w' ⟨rfl, rfl⟩
        go_wp2_with fail
        refine (hb3 _).mono ?_
        rintro e w' ⟨rfl, rfl⟩
        go_wp2_with fail
        go_ret
        exact ⟨ret_int e.out.symm, (Below.refl _ _).alloc (Nat.le_refl _) _⟩
    · have tb : (pb != 0) = true := by simp [hb]
      have e : Hid (R = pb) := by show _ = _; rw [eR]; simp [hb]
      clear hb eR
      go_enter Tryd.func18, Tryd.ntmps18
      go_wp2_with fail
      refine (hb1 _).mono ?_
      rintro e w' ⟨rfl, rfl⟩
      go_wp2_with fail
      refine (hb2 _).mono ?_
      rintro e w' ⟨rfl, rfl⟩
      go_wp2_with fail
      go_ret
      exact ⟨ret_int e.out.symm, (Below.refl _ _).alloc (Nat.le_refl _) _⟩
  · have ta : (pa != 0) = true := by simp [ha]
    have e : Hid (R = pa) := by show _ = _; rw [eR]; simp [ha]
    clear ha eR
    go_enter Tryd.func18, Tryd.ntmps18
    go_wp2_with fail
    refine (hb1 _).mono ?_
    rintro e w' ⟨rfl, rfl⟩
    go_wp2_with fail
    go_ret
    exact ⟨ret_int e.out.symm, (Below.refl _ _).alloc (Nat.le_refl _) _⟩

set_option maxHeartbeats 400000 in
theorem fault_5 (a b c n : Int) (w : World) :
    Calls Tryd.prog 18 #[.agg #[.int .i64 5, .int .i64 a, .int .i64 b, .int .i64 c, .int .i64 n]] w fun e w' => e = .returned (.int .i64 (aloneF ⟨5, a, b, c, n⟩)) ∧ Below w.heap.size w w' := by
  obtain ⟨R, eR⟩ : ∃ R, R = aloneF ⟨5, a, b, c, n⟩ := ⟨_, rfl⟩
  rw [← eR]
  rw [alone_eq 5 a b c n 4 4 4 (by decide) (by decide) rfl rfl rfl] at eR
  have hb1 := fun w => bad_any a 4 w
  have hb2 := fun w => bad_any b 4 w
  have hb3 := fun w => bad_any c 4 w
  generalize partF a 4 = pa at *
  generalize partF b 4 = pb at *
  generalize partF c 4 = pc at *
  by_cases ha : pa = 0
  · subst ha
    by_cases hb : pb = 0
    · subst hb
      by_cases hc : pc = 0
      · subst hc
        by_cases hn : n = 0
        · have tn : (n != 0) = false := by simp [hn]
          have e : Hid (R = 0) := by show _ = _; rw [eR]; simp [hn]
          clear hn eR
          go_enter Tryd.func18, Tryd.ntmps18
          go_wp2_with fail
          refine (hb1 _).mono ?_
          rintro e w' ⟨rfl, rfl⟩
          go_wp2_with fail
          refine (hb2 _).mono ?_
          rintro e w' ⟨rfl, rfl⟩
          go_wp2_with fail
          refine (hb3 _).mono ?_
          rintro e w' ⟨rfl, rfl⟩
          go_wp2_with fail
          go_ret
          exact ⟨ret_int e.out.symm, (Below.refl _ _).alloc (Nat.le_refl _) _⟩
        · have tn : (n != 0) = true := by simp [hn]
          have e : Hid (R = 3) := by show _ = _; rw [eR]; simp [hn]
          clear hn eR
          go_enter Tryd.func18, Tryd.ntmps18
          go_wp2_with fail
          refine (hb1 _).mono ?_
          rintro e w' ⟨rfl, rfl⟩
          go_wp2_with fail
          refine (hb2 _).mono ?_
          rintro e w' ⟨rfl, rfl⟩
          go_wp2_with fail
          refine (hb3 _).mono ?_
          rintro e w' ⟨rfl, rfl⟩
          go_wp2_with fail
          go_ret
          exact ⟨ret_int e.out.symm, (Below.refl _ _).alloc (Nat.le_refl _) _⟩
      · have tc : (pc != 0) = true := by simp [hc]
        have e : Hid (R = pc) := by show _ = _; rw [eR]; simp [hc]
        clear hc eR
        go_enter Tryd.func18, Tryd.ntmps18
        go_wp2_with fail
        refine (hb1 _).mono ?_
        rintro e w' ⟨rfl, rfl⟩
        go_wp2_with fail
        refine (hb2 _).mono ?_
        rintro e w' ⟨rfl, rfl⟩
        go_wp2_with fail
        refine (hb3 _).mono ?_
        rintro e w' ⟨rfl, rfl⟩
        go_wp2_with fail
        go_ret
        exact ⟨ret_int e.out.symm, (Below.refl _ _).alloc (Nat.le_refl _) _⟩
    · have tb : (pb != 0) = true := by simp [hb]
      have e : Hid (R = pb) := by show _ = _; rw [eR]; simp [hb]
      clear hb eR
      go_enter Tryd.func18, Tryd.ntmps18
      go_wp2_with fail
      refine (hb1 _).mono ?_
      rintro e w' ⟨rfl, rfl⟩
      go_wp2_with fail
      refine (hb2 _).mono ?_
      rintro e w' ⟨rfl, rfl⟩
      go_wp2_with fail
      go_ret
      exact ⟨ret_int e.out.symm, (Below.refl _ _).alloc (Nat.le_refl _) _⟩
  · have ta : (pa != 0) = true := by simp [ha]
    have e : Hid (R = pa) := by show _ = _; rw [eR]; simp [ha]
    clear ha eR
    go_enter Tryd.func18, Tryd.ntmps18
    go_wp2_with fail
    refine (hb1 _).mono ?_
    rintro e w' ⟨rfl, rfl⟩
    go_wp2_with fail
    go_ret
    exact ⟨ret_int e.out.symm, (Below.refl _ _).alloc (Nat.le_refl _) _⟩

set_option maxHeartbeats 400000 in
theorem fault_6 (a b c n : Int) (w : World) :
    Calls Tryd.prog 18 #[.agg #[.int .i64 6, .int .i64 a, .int .i64 b, .int .i64 c, .int .i64 n]] w fun e w' => e = .returned (.int .i64 (aloneF ⟨6, a, b, c, n⟩)) ∧ Below w.heap.size w w' := by
  obtain ⟨R, eR⟩ : ∃ R, R = aloneF ⟨6, a, b, c, n⟩ := ⟨_, rfl⟩
  rw [← eR]
  rw [alone_eq 6 a b c n 4 4 4 (by decide) (by decide) rfl rfl rfl] at eR
  have hb1 := fun w => bad_any a 4 w
  have hb2 := fun w => bad_any b 4 w
  have hb3 := fun w => bad_any c 4 w
  generalize partF a 4 = pa at *
  generalize partF b 4 = pb at *
  generalize partF c 4 = pc at *
  by_cases ha : pa = 0
  · subst ha
    by_cases hb : pb = 0
    · subst hb
      by_cases hc : pc = 0
      · subst hc
        by_cases hn : n = 0
        · have tn : (n != 0) = false := by simp [hn]
          have e : Hid (R = 0) := by show _ = _; rw [eR]; simp [hn]
          clear hn eR
          go_enter Tryd.func18, Tryd.ntmps18
          go_wp2_with fail
          refine (hb1 _).mono ?_
          rintro e w' ⟨rfl, rfl⟩
          go_wp2_with fail
          refine (hb2 _).mono ?_
          rintro e w' ⟨rfl, rfl⟩
          go_wp2_with fail
          refine (hb3 _).mono ?_
          rintro e w' ⟨rfl, rfl⟩
          go_wp2_with fail
          go_ret
          exact ⟨ret_int e.out.symm, (Below.refl _ _).alloc (Nat.le_refl _) _⟩
        · have tn : (n != 0) = true := by simp [hn]
          have e : Hid (R = 3) := by show _ = _; rw [eR]; simp [hn]
          clear hn eR
          go_enter Tryd.func18, Tryd.ntmps18
          go_wp2_with fail
          refine (hb1 _).mono ?_
          rintro e w' ⟨rfl, rfl⟩
          go_wp2_with fail
          refine (hb2 _).mono ?_
          rintro e w' ⟨rfl, rfl⟩
          go_wp2_with fail
          refine (hb3 _).mono ?_
          rintro e w' ⟨rfl, rfl⟩
          go_wp2_with fail
          go_ret
          exact ⟨ret_int e.out.symm, (Below.refl _ _).alloc (Nat.le_refl _) _⟩
      · have tc : (pc != 0) = true := by simp [hc]
        have e : Hid (R = pc) := by show _ = _; rw [eR]; simp [hc]
        clear hc eR
        go_enter Tryd.func18, Tryd.ntmps18
        go_wp2_with fail
        refine (hb1 _).mono ?_
        rintro e w' ⟨rfl, rfl⟩
        go_wp2_with fail
        refine (hb2 _).mono ?_
        rintro e w' ⟨rfl, rfl⟩
        go_wp2_with fail
        refine (hb3 _).mono ?_
        rintro e w' ⟨rfl, rfl⟩
        go_wp2_with fail
        go_ret
        exact ⟨ret_int e.out.symm, (Below.refl _ _).alloc (Nat.le_refl _) _⟩
    · have tb : (pb != 0) = true := by simp [hb]
      have e : Hid (R = pb) := by show _ = _; rw [eR]; simp [hb]
      clear hb eR
      go_enter Tryd.func18, Tryd.ntmps18
      go_wp2_with fail
      refine (hb1 _).mono ?_
      rintro e w' ⟨rfl, rfl⟩
      go_wp2_with fail
      refine (hb2 _).mono ?_
      rintro e w' ⟨rfl, rfl⟩
      go_wp2_with fail
      go_ret
      exact ⟨ret_int e.out.symm, (Below.refl _ _).alloc (Nat.le_refl _) _⟩
  · have ta : (pa != 0) = true := by simp [ha]
    have e : Hid (R = pa) := by show _ = _; rw [eR]; simp [ha]
    clear ha eR
    go_enter Tryd.func18, Tryd.ntmps18
    go_wp2_with fail
    refine (hb1 _).mono ?_
    rintro e w' ⟨rfl, rfl⟩
    go_wp2_with fail
    go_ret
    exact ⟨ret_int e.out.symm, (Below.refl _ _).alloc (Nat.le_refl _) _⟩

set_option maxHeartbeats 400000 in
theorem fault_7 (a b c n : Int) (w : World) :
    Calls Tryd.prog 18 #[.agg #[.int .i64 7, .int .i64 a, .int .i64 b, .int .i64 c, .int .i64 n]] w fun e w' => e = .returned (.int .i64 (aloneF ⟨7, a, b, c, n⟩)) ∧ Below w.heap.size w w' := by
  obtain ⟨R, eR⟩ : ∃ R, R = aloneF ⟨7, a, b, c, n⟩ := ⟨_, rfl⟩
  rw [← eR]
  rw [alone_eq 7 a b c n 10 4 0 (by decide) (by decide) rfl rfl rfl] at eR
  have hb1 := fun w => bad_any a 10 w
  have hb2 := fun w => bad_any b 4 w
  have hb3 := fun w => bad_any c 0 w
  generalize partF a 10 = pa at *
  generalize partF b 4 = pb at *
  generalize partF c 0 = pc at *
  by_cases ha : pa = 0
  · subst ha
    by_cases hb : pb = 0
    · subst hb
      by_cases hc : pc = 0
      · subst hc
        by_cases hn : n = 0
        · have tn : (n != 0) = false := by simp [hn]
          have e : Hid (R = 0) := by show _ = _; rw [eR]; simp [hn]
          clear hn eR
          go_enter Tryd.func18, Tryd.ntmps18
          go_wp2_with fail
          refine (hb1 _).mono ?_
          rintro e w' ⟨rfl, rfl⟩
          go_wp2_with fail
          refine (hb2 _).mono ?_
          rintro e w' ⟨rfl, rfl⟩
          go_wp2_with fail
          refine (hb3 _).mono ?_
          rintro e w' ⟨rfl, rfl⟩
          go_wp2_with fail
          go_ret
          exact ⟨ret_int e.out.symm, (Below.refl _ _).alloc (Nat.le_refl _) _⟩
        · have tn : (n != 0) = true := by simp [hn]
          have e : Hid (R = 3) := by show _ = _; rw [eR]; simp [hn]
          clear hn eR
          go_enter Tryd.func18, Tryd.ntmps18
          go_wp2_with fail
          refine (hb1 _).mono ?_
          rintro e w' ⟨rfl, rfl⟩
          go_wp2_with fail
          refine (hb2 _).mono ?_
          rintro e w' ⟨rfl, rfl⟩
          go_wp2_with fail
          refine (hb3 _).mono ?_
          rintro e w' ⟨rfl, rfl⟩
          go_wp2_with fail
          go_ret
          exact ⟨ret_int e.out.symm, (Below.refl _ _).alloc (Nat.le_refl _) _⟩
      · have tc : (pc != 0) = true := by simp [hc]
        have e : Hid (R = pc) := by show _ = _; rw [eR]; simp [hc]
        clear hc eR
        go_enter Tryd.func18, Tryd.ntmps18
        go_wp2_with fail
        refine (hb1 _).mono ?_
        rintro e w' ⟨rfl, rfl⟩
        go_wp2_with fail
        refine (hb2 _).mono ?_
        rintro e w' ⟨rfl, rfl⟩
        go_wp2_with fail
        refine (hb3 _).mono ?_
        rintro e w' ⟨rfl, rfl⟩
        go_wp2_with fail
        go_ret
        exact ⟨ret_int e.out.symm, (Below.refl _ _).alloc (Nat.le_refl _) _⟩
    · have tb : (pb != 0) = true := by simp [hb]
      have e : Hid (R = pb) := by show _ = _; rw [eR]; simp [hb]
      clear hb eR
      go_enter Tryd.func18, Tryd.ntmps18
      go_wp2_with fail
      refine (hb1 _).mono ?_
      rintro e w' ⟨rfl, rfl⟩
      go_wp2_with fail
      refine (hb2 _).mono ?_
      rintro e w' ⟨rfl, rfl⟩
      go_wp2_with fail
      go_ret
      exact ⟨ret_int e.out.symm, (Below.refl _ _).alloc (Nat.le_refl _) _⟩
  · have ta : (pa != 0) = true := by simp [ha]
    have e : Hid (R = pa) := by show _ = _; rw [eR]; simp [ha]
    clear ha eR
    go_enter Tryd.func18, Tryd.ntmps18
    go_wp2_with fail
    refine (hb1 _).mono ?_
    rintro e w' ⟨rfl, rfl⟩
    go_wp2_with fail
    go_ret
    exact ⟨ret_int e.out.symm, (Below.refl _ _).alloc (Nat.le_refl _) _⟩

set_option maxHeartbeats 400000 in
theorem fault_8 (a b c n : Int) (w : World) :
    Calls Tryd.prog 18 #[.agg #[.int .i64 8, .int .i64 a, .int .i64 b, .int .i64 c, .int .i64 n]] w fun e w' => e = .returned (.int .i64 (aloneF ⟨8, a, b, c, n⟩)) ∧ Below w.heap.size w w' := by
  obtain ⟨R, eR⟩ : ∃ R, R = aloneF ⟨8, a, b, c, n⟩ := ⟨_, rfl⟩
  rw [← eR]
  rw [alone_eq 8 a b c n 4 0 0 (by decide) (by decide) rfl rfl rfl] at eR
  have hb1 := fun w => bad_any a 4 w
  have hb2 := fun w => bad_any b 0 w
  have hb3 := fun w => bad_any c 0 w
  generalize partF a 4 = pa at *
  generalize partF b 0 = pb at *
  generalize partF c 0 = pc at *
  by_cases ha : pa = 0
  · subst ha
    by_cases hb : pb = 0
    · subst hb
      by_cases hc : pc = 0
      · subst hc
        by_cases hn : n = 0
        · have tn : (n != 0) = false := by simp [hn]
          have e : Hid (R = 0) := by show _ = _; rw [eR]; simp [hn]
          clear hn eR
          go_enter Tryd.func18, Tryd.ntmps18
          go_wp2_with fail
          refine (hb1 _).mono ?_
          rintro e w' ⟨rfl, rfl⟩
          go_wp2_with fail
          refine (hb2 _).mono ?_
          rintro e w' ⟨rfl, rfl⟩
          go_wp2_with fail
          refine (hb3 _).mono ?_
          rintro e w' ⟨rfl, rfl⟩
          go_wp2_with fail
          go_ret
          exact ⟨ret_int e.out.symm, (Below.refl _ _).alloc (Nat.le_refl _) _⟩
        · have tn : (n != 0) = true := by simp [hn]
          have e : Hid (R = 3) := by show _ = _; rw [eR]; simp [hn]
          clear hn eR
          go_enter Tryd.func18, Tryd.ntmps18
          go_wp2_with fail
          refine (hb1 _).mono ?_
          rintro e w' ⟨rfl, rfl⟩
          go_wp2_with fail
          refine (hb2 _).mono ?_
          rintro e w' ⟨rfl, rfl⟩
          go_wp2_with fail
          refine (hb3 _).mono ?_
          rintro e w' ⟨rfl, rfl⟩
          go_wp2_with fail
          go_ret
          exact ⟨ret_int e.out.symm, (Below.refl _ _).alloc (Nat.le_refl _) _⟩
      · have tc : (pc != 0) = true := by simp [hc]
        have e : Hid (R = pc) := by show _ = _; rw [eR]; simp [hc]
        clear hc eR
        go_enter Tryd.func18, Tryd.ntmps18
        go_wp2_with fail
        refine (hb1 _).mono ?_
        rintro e w' ⟨rfl, rfl⟩
        go_wp2_with fail
        refine (hb2 _).mono ?_
        rintro e w' ⟨rfl, rfl⟩
        go_wp2_with fail
        refine (hb3 _).mono ?_
        rintro e w' ⟨rfl, rfl⟩
        go_wp2_with fail
        go_ret
        exact ⟨ret_int e.out.symm, (Below.refl _ _).alloc (Nat.le_refl _) _⟩
    · have tb : (pb != 0) = true := by simp [hb]
      have e : Hid (R = pb) := by show _ = _; rw [eR]; simp [hb]
      clear hb eR
      go_enter Tryd.func18, Tryd.ntmps18
      go_wp2_with fail
      refine (hb1 _).mono ?_
      rintro e w' ⟨rfl, rfl⟩
      go_wp2_with fail
      refine (hb2 _).mono ?_
      rintro e w' ⟨rfl, rfl⟩
      go_wp2_with fail
      go_ret
      exact ⟨ret_int e.out.symm, (Below.refl _ _).alloc (Nat.le_refl _) _⟩
  · have ta : (pa != 0) = true := by simp [ha]
    have e : Hid (R = pa) := by show _ = _; rw [eR]; simp [ha]
    clear ha eR
    go_enter Tryd.func18, Tryd.ntmps18
    go_wp2_with fail
    refine (hb1 _).mono ?_
    rintro e w' ⟨rfl, rfl⟩
    go_wp2_with fail
    go_ret
    exact ⟨ret_int e.out.symm, (Below.refl _ _).alloc (Nat.le_refl _) _⟩

set_option maxHeartbeats 400000 in
theorem fault_9 (a b c n : Int) (w : World) :
    Calls Tryd.prog 18 #[.agg #[.int .i64 9, .int .i64 a, .int .i64 b, .int .i64 c, .int .i64 n]] w fun e w' => e = .returned (.int .i64 (aloneF ⟨9, a, b, c, n⟩)) ∧ Below w.heap.size w w' := by
  obtain ⟨R, eR⟩ : ∃ R, R = aloneF ⟨9, a, b, c, n⟩ := ⟨_, rfl⟩
  rw [← eR]
  rw [alone_eq 9 a b c n 4 14 0 (by decide) (by decide) rfl rfl rfl] at eR
  have hb1 := fun w => bad_any a 4 w
  have hb2 := fun w => bad_any b 14 w
  have hb3 := fun w => bad_any c 0 w
  generalize partF a 4 = pa at *
  generalize partF b 14 = pb at *
  generalize partF c 0 = pc at *
  by_cases ha : pa = 0
  · subst ha
    by_cases hb : pb = 0
    · subst hb
      by_cases hc : pc = 0
      · subst hc
        by_cases hn : n = 0
        · have tn : (n != 0) = false := by simp [hn]
          have e : Hid (R = 0) := by show _ = _; rw [eR]; simp [hn]
          clear hn eR
          go_enter Tryd.func18, Tryd.ntmps18
          go_wp2_with fail
          refine (hb1 _).mono ?_
          rintro e w' ⟨rfl, rfl⟩
          go_wp2_with fail
          refine (hb2 _).mono ?_
          rintro e w' ⟨rfl, rfl⟩
          go_wp2_with fail
          refine (hb3 _).mono ?_
          rintro e w' ⟨rfl, rfl⟩
          go_wp2_with fail
          go_ret
          exact ⟨ret_int e.out.symm, (Below.refl _ _).alloc (Nat.le_refl _) _⟩
        · have tn : (n != 0) = true := by simp [hn]
          have e : Hid (R = 3) := by show _ = _; rw [eR]; simp [hn]
          clear hn eR
          go_enter Tryd.func18, Tryd.ntmps18
          go_wp2_with fail
          refine (hb1 _).mono ?_
          rintro e w' ⟨rfl, rfl⟩
          go_wp2_with fail
          refine (hb2 _).mono ?_
          rintro e w' ⟨rfl, rfl⟩
          go_wp2_with fail
          refine (hb3 _).mono ?_
          rintro e w' ⟨rfl, rfl⟩
          go_wp2_with fail
          go_ret
          exact ⟨ret_int e.out.symm, (Below.refl _ _).alloc (Nat.le_refl _) _⟩
      · have tc : (pc != 0) = true := by simp [hc]
        have e : Hid (R = pc) := by show _ = _; rw [eR]; simp [hc]
        clear hc eR
        go_enter Tryd.func18, Tryd.ntmps18
        go_wp2_with fail
        refine (hb1 _).mono ?_
        rintro e w' ⟨rfl, rfl⟩
        go_wp2_with fail
        refine (hb2 _).mono ?_
        rintro e w' ⟨rfl, rfl⟩
        go_wp2_with fail
        refine (hb3 _).mono ?_
        rintro e w' ⟨rfl, rfl⟩
        go_wp2_with fail
        go_ret
        exact ⟨ret_int e.out.symm, (Below.refl _ _).alloc (Nat.le_refl _) _⟩
    · have tb : (pb != 0) = true := by simp [hb]
      have e : Hid (R = pb) := by show _ = _; rw [eR]; simp [hb]
      clear hb eR
      go_enter Tryd.func18, Tryd.ntmps18
      go_wp2_with fail
      refine (hb1 _).mono ?_
      rintro e w' ⟨rfl, rfl⟩
      go_wp2_with fail
      refine (hb2 _).mono ?_
      rintro e w' ⟨rfl, rfl⟩
      go_wp2_with fail
      go_ret
      exact ⟨ret_int e.out.symm, (Below.refl _ _).alloc (Nat.le_refl _) _⟩
  · have ta : (pa != 0) = true := by simp [ha]
    have e : Hid (R = pa) := by show _ = _; rw [eR]; simp [ha]
    clear ha eR
    go_enter Tryd.func18, Tryd.ntmps18
    go_wp2_with fail
    refine (hb1 _).mono ?_
    rintro e w' ⟨rfl, rfl⟩
    go_wp2_with fail
    go_ret
    exact ⟨ret_int e.out.symm, (Below.refl _ _).alloc (Nat.le_refl _) _⟩

theorem fault_any (o : Op5) (w : World) :
    Calls Tryd.prog 18 #[.agg #[.int .i64 o.k, .int .i64 o.a, .int .i64 o.b, .int .i64 o.c, .int .i64 o.n]] w fun e w' => e = .returned (.int .i64 (aloneF o)) ∧ Below w.heap.size w w' := by
  by_cases h : o.k < 1 ∨ 9 < o.k
  · exact fault_bad o w h
  · obtain ⟨k, a, b, c, n⟩ := o
    dsimp only at h ⊢
    have hc : k = 1 ∨ k = 2 ∨ k = 3 ∨ k = 4 ∨ k = 5 ∨ k = 6 ∨ k = 7 ∨ k = 8 ∨ k = 9 := by omega
    rcases hc with rfl | rfl | rfl | rfl | rfl | rfl | rfl | rfl | rfl
    · exact fault_1 a b c n w
    · exact fault_2 a b c n w
    · exact fault_3 a b c n w
    · exact fault_4 a b c n w
    · exact fault_5 a b c n w
    · exact fault_6 a b c n w
    · exact fault_7 a b c n w
    · exact fault_8 a b c n w
    · exact fault_9 a b c n w
end Go.Proofs.YtdohockbmphhfadDoor
