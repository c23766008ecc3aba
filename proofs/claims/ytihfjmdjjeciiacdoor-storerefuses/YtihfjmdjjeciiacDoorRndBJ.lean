/-
  The walks of a round's has, Len, Pick and Done.
-/
import Derived.Test.YtihfjmdjjeciiacDoorRndAJ
namespace Go.Proofs.YtihfjmdjjeciiacDoor
open Go.RowKit Go.Shelf

section
variable {w : World} {c : Nat → Nat} {N E B : Nat} {vW : Value} {C : Nat → Nat} {U : Nat → Value} {s : Nat → Int} {r : List (List Op5)} {X : Nat → Wk} {T : Nat → List Slot4}

theorem has_in (h : RdIn w c N E B vW C U s r X T) {i : Nat} (hi : i < r.length) :
    Calls Tryd.prog 104 #[.pointer (some ⟨E, 0, none⟩), .int .i64 (i : Int)] w fun e w' => e = .returned (.bool true) ∧ w' = w := by
  obtain ⟨va, cap, rfl, -⟩ := h.at'.row
  have q1 := h.at'.fw
  have hi' : (i : Int) < (r.length : Int) := by omega
  have h8 := h.le
  clear h
  go_enter Tryd.func104, Tryd.ntmps104
  go_wp2_with fail
  go_ret
  exact ⟨rfl, rfl⟩
theorem has_out (h : RdIn w c N E B vW C U s r X T) {b : Int} (hb : b < 0 ∨ (r.length : Int) ≤ b) :
    Calls Tryd.prog 104 #[.pointer (some ⟨E, 0, none⟩), .int .i64 b] w fun e w' => e = .returned (.bool false) ∧ w' = w := by
  obtain ⟨va, cap, rfl, -⟩ := h.at'.row
  have q1 := h.at'.fw
  have h8 := h.le
  clear h
  by_cases h0 : b < 0
  · have h0' : ¬ 0 ≤ b := by omega
    go_enter Tryd.func104, Tryd.ntmps104
    go_wp2_with fail
    go_ret
    exact ⟨rfl, rfl⟩
  · have h0' : 0 ≤ b := by omega
    have h1 : ¬ b < (r.length : Int) := by omega
    clear h0 hb
    go_enter Tryd.func104, Tryd.ntmps104
    go_wp2_with fail
    go_ret
    exact ⟨rfl, rfl⟩

theorem len_any (h : RdIn w c N E B vW C U s r X T) :
    Calls Tryd.prog 95 #[.pointer (some ⟨E, 0, none⟩)] w fun e w' => e = .returned (.int .i64 (r.length : Int)) ∧ w' = w := by
  obtain ⟨va, cap, rfl, -⟩ := h.at'.row
  have q1 := h.at'.fw
  have h8 := h.le
  clear h
  go_enter Tryd.func95, Tryd.ntmps95
  go_wp2_with fail
  go_ret
  exact ⟨rfl, rfl⟩

set_option maxHeartbeats 1000000 in
theorem pick_in (h : RdIn w c N E B vW C U s r X T) {i : Nat} (hi : i < r.length) :
    Calls Tryd.prog 93 #[.pointer (some ⟨E, 0, none⟩), .int .i64 (i : Int)] w fun e w' => e = .returned (.tuple #[.int .i64 (stepW T r[i] (i : Int) (X i)).what, .int .i64 (stepW T r[i] (i : Int) (X i)).who]) ∧ RdIn w' c N E B vW C U s r (putW X i (stepW T r[i] (i : Int) (X i)).x) (stepW T r[i] (i : Int) (X i)).T ∧ Grew (crewS B C r.length) w w' := by
  have hhas := has_in h hi
  obtain ⟨va, cap, rfl, hrow⟩ := h.at'.row
  obtain ⟨g, rfl, q2⟩ := hrow i hi
  have q1 := h.at'.fw
  have q0 := h.at'.ft
  have hi' : (i : Int) < (r.length : Int) := by omega
  have h8 := h.le
  have HST : Hid (∀ w', Below w.heap.size w w' → Calls Tryd.prog 105 #[.pointer (some ⟨C i, 0, none⟩), .pointer (some ⟨B, 0, none⟩)] w' fun e w'' => e = .returned (.tuple #[.int .i64 (stepW T r[i] (i : Int) (X i)).what, .int .i64 (stepW T r[i] (i : Int) (X i)).who]) ∧ RdIn w'' c N E B (.slice (some ⟨g, 0, none⟩) r.length cap) C U s r (putW X i (stepW T r[i] (i : Int) (X i)).x) (stepW T r[i] (i : Int) (X i)).T ∧ Grew (crewS B C r.length) w w'') := fun w' hb => by
    refine ((h.later hb).step hi).mono ?_
    rintro e w'' ⟨he, h2, hg⟩
    exact ⟨he, h2, (Grew.of_below hb).trans hg⟩
  clear h hrow
  generalize (stepW T r[i] (i : Int) (X i)).x = x' at *
  generalize (stepW T r[i] (i : Int) (X i)).T = T' at *
  generalize (stepW T r[i] (i : Int) (X i)).what = wt at *
  generalize (stepW T r[i] (i : Int) (X i)).who = wo at *
  go_enter Tryd.func93, Tryd.ntmps93
  go_wp2_with fail
  refine hhas.mono ?_
  rintro e w1 ⟨rfl, rfl⟩
  clear hhas
  go_wp2_with fail
  go_region_with (go_at_call 105; refine (HST.out _ (by first | exact (Below.refl _ _).drew | exact Below.refl _ _)).mono ?_; rintro e w2 ⟨rfl, h2, hg⟩)
  all_goals go_wp2_with fail
  all_goals exact bodyPost_ret (v := .tuple #[.int .i64 wt, .int .i64 wo]) (by simp [results, Tryd.results93, go_sem]) rfl ⟨rfl, h2, hg⟩
theorem pick_out (h : RdIn w c N E B vW C U s r X T) {b : Int} (hb : b < 0 ∨ (r.length : Int) ≤ b) :
    Calls Tryd.prog 93 #[.pointer (some ⟨E, 0, none⟩), .int .i64 b] w fun e w' => e = .returned (.tuple #[.int .i64 0, .int .i64 (-1)]) ∧ w' = w := by
  have hhas := has_out h hb
  clear h hb
  go_enter Tryd.func93, Tryd.ntmps93
  go_wp2_with fail
  refine hhas.mono ?_
  rintro e w1 ⟨rfl, rfl⟩
  go_wp2_with fail
  exact bodyPost_ret (v := .tuple #[.int .i64 0, .int .i64 (-1)]) (by simp [results, Tryd.results93, go_sem]) rfl ⟨rfl, rfl⟩
theorem pick_any (h : RdIn w c N E B vW C U s r X T) (b : Int) :
    Calls Tryd.prog 93 #[.pointer (some ⟨E, 0, none⟩), .int .i64 b] w fun e w' => ∃ (x y : Int) (X' : Nat → Wk) (T' : Nat → List Slot4), e = .returned (.tuple #[.int .i64 x, .int .i64 y]) ∧ RdIn w' c N E B vW C U s r X' T' ∧ Grew (crewS B C r.length) w w' := by
  by_cases hb : b < 0 ∨ (r.length : Int) ≤ b
  · refine (pick_out h hb).mono ?_
    rintro e w' ⟨rfl, rfl⟩
    exact ⟨_, _, X, T, rfl, h, Grew.refl _ _⟩
  · obtain ⟨i, rfl⟩ : ∃ i : Nat, b = i := ⟨b.toNat, by omega⟩
    refine (pick_in h (i := i) (by omega)).mono ?_
    rintro e w' ⟨rfl, h2, hg⟩
    exact ⟨_, _, _, _, rfl, h2, hg⟩


end
end Go.Proofs.YtihfjmdjjeciiacDoor
