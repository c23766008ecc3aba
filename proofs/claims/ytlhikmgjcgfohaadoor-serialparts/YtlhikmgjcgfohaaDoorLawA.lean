/-
  A boxed state; the walk of the law SerialStops.
-/
import Derived.Test.YtlhikmgjcgfohaaDoorWalkI
namespace Go.Proofs.YtlhikmgjcgfohaaDoor
open Go.RowKit

/-- A state in a block of its own. -/
def Box (w : World) (B : Nat) (s : Nat → Int) : Prop := ∀ i, i < 10 → w.cell? ⟨B, i, none⟩ = some (.int .i64 (s i))
theorem Box.later {w w' : World} {B : Nat} {s : Nat → Int} (h : Box w B s) (hb : Below w.heap.size w w') : Box w' B s := fun i hi => cell_later hb (h i hi)
theorem Box.ten {w : World} {B : Nat} {s : Nat → Int} (h : Box w B s) : w.cell? ⟨B, 0, none⟩ = some (.int .i64 (s 0)) ∧ w.cell? ⟨B, 1, none⟩ = some (.int .i64 (s 1)) ∧ w.cell? ⟨B, 2, none⟩ = some (.int .i64 (s 2)) ∧ w.cell? ⟨B, 3, none⟩ = some (.int .i64 (s 3)) ∧ w.cell? ⟨B, 4, none⟩ = some (.int .i64 (s 4)) ∧ w.cell? ⟨B, 5, none⟩ = some (.int .i64 (s 5)) ∧ w.cell? ⟨B, 6, none⟩ = some (.int .i64 (s 6)) ∧ w.cell? ⟨B, 7, none⟩ = some (.int .i64 (s 7)) ∧ w.cell? ⟨B, 8, none⟩ = some (.int .i64 (s 8)) ∧ w.cell? ⟨B, 9, none⟩ = some (.int .i64 (s 9)) :=
  ⟨h 0 (by omega), h 1 (by omega), h 2 (by omega), h 3 (by omega), h 4 (by omega), h 5 (by omega), h 6 (by omega), h 7 (by omega), h 8 (by omega), h 9 (by omega)⟩
theorem box_new (w : World) (s : Nat → Int) : Box (w.alloc (.cells #[.int .i64 (s 0), .int .i64 (s 1), .int .i64 (s 2), .int .i64 (s 3), .int .i64 (s 4), .int .i64 (s 5), .int .i64 (s 6), .int .i64 (s 7), .int .i64 (s 8), .int .i64 (s 9)] 38)) w.heap.size s := lt10 (by go_simp) (by go_simp) (by go_simp) (by go_simp) (by go_simp) (by go_simp) (by go_simp) (by go_simp) (by go_simp) (by go_simp)

set_option maxHeartbeats 400000 in
theorem stops_long (v : Value) (d : List Op5) (s : Nat → Int) (w : World) (hd : DeedAt w v d) (hmax : d.length ≤ 9223372036854775807) (hlen : 200 < d.length) (hL : Lim w) :
    Calls Tryd.prog 5 #[stV s, v] w fun e w' => e = .returned (.bool true) ∧ Below w.heap.size w w' := by
  obtain ⟨a, cap, rfl, -⟩ := hd
  show Calls Tryd.prog 5 #[.agg #[.int .i64 (s 0), .int .i64 (s 1), .int .i64 (s 2), .int .i64 (s 3), .int .i64 (s 4), .int .i64 (s 5), .int .i64 (s 6), .int .i64 (s 7), .int .i64 (s 8), .int .i64 (s 9)], _] w _
  have hB0 : Below w.heap.size w (w.alloc (.cells #[.int .i64 (s 0), .int .i64 (s 1), .int .i64 (s 2), .int .i64 (s 3), .int .i64 (s 4), .int .i64 (s 5), .int .i64 (s 6), .int .i64 (s 7), .int .i64 (s 8), .int .i64 (s 9)] 38)) := (Below.refl _ _).alloc (Nat.le_refl _) _
  go_enter Tryd.func5, Tryd.ntmps5
  go_wp2_with fail
  refine (begun_any _ (hL.later hB0)).mono ?_
  rintro e w1 ⟨rfl, hb1⟩
  have hB1 : Below w.heap.size w w1 := hB0.trans (hb1.mono (by simp))
  clear hB0 hb1
  go_wp2_with fail
  go_ret
  exact ⟨rfl, hB1⟩

set_option maxHeartbeats 400000 in
theorem stops_bad (v : Value) (d : List Op5) (s : Nat → Int) (w : World) (hd : DeedAt w v d) (hlen : d.length ≤ 200) (h0 : ¬ (checkF d).1 = 0) (hL : Lim w) :
    Calls Tryd.prog 5 #[stV s, v] w fun e w' => e = .returned (.bool true) ∧ Below w.heap.size w w' := by
  have hdo := fun w' (hd' : DeedAt w' v d) (hL' : Lim w') => do_bad v d s w' hd' (by omega) h0 hL'
  obtain ⟨c, hc⟩ : ∃ c, c = (checkF d).1 := ⟨_, rfl⟩
  rw [← hc] at h0 hdo
  clear hc
  have t0 : (c != 0) = true := by simp [h0]
  clear h0
  have HD := hd
  obtain ⟨a, cap, rfl, -⟩ := hd
  show Calls Tryd.prog 5 #[.agg #[.int .i64 (s 0), .int .i64 (s 1), .int .i64 (s 2), .int .i64 (s 3), .int .i64 (s 4), .int .i64 (s 5), .int .i64 (s 6), .int .i64 (s 7), .int .i64 (s 8), .int .i64 (s 9)], _] w _
  have hB0 : Below w.heap.size w (w.alloc (.cells #[.int .i64 (s 0), .int .i64 (s 1), .int .i64 (s 2), .int .i64 (s 3), .int .i64 (s 4), .int .i64 (s 5), .int .i64 (s 6), .int .i64 (s 7), .int .i64 (s 8), .int .i64 (s 9)] 38)) := (Below.refl _ _).alloc (Nat.le_refl _) _
  have hX0 := box_new w s
  go_enter Tryd.func5, Tryd.ntmps5
  go_wp2_with fail
  refine (begun_any _ (hL.later hB0)).mono ?_
  rintro e w1 ⟨rfl, hb1⟩
  have hB1 : Below w.heap.size w w1 := hB0.trans (hb1.mono (by simp))
  obtain ⟨k0, k1, k2, k3, k4, k5, k6, k7, k8, k9⟩ := (hX0.later hb1).ten
  clear hB0 hb1 hX0
  go_wp2_with fail
  refine (hdo _ (HD.later hB1) (hL.later hB1)).mono ?_
  rintro e w2 ⟨he, hb2⟩
  simp only [stV, resV] at he
  subst he
  have hB2 : Below w.heap.size w w2 := hB1.trans (hb2.mono hB1.size)
  clear hb2 hB1 hdo k0 k1 k2 k3 k4 k5 k6 k7 k8 k9
  go_wp2_with fail
  go_ret
  exact ⟨rfl, (hB2.alloc hB2.size _).alloc (by have := hB2.size; simp; omega) _⟩

set_option maxHeartbeats 1000000 in
theorem stops_good (v : Value) (d : List Op5) (s : Nat → Int) (w : World) (hd : DeedAt w v d) (h0 : (checkF d).1 = 0) (hL : Lim w) :
    Calls Tryd.prog 5 #[stV s, v] w fun e w' => e = .returned (.bool true) ∧ Below w.heap.size w w' := by
  have hlen := check_len h0
  have hdo := fun w' (hd' : DeedAt w' v d) (hL' : Lim w') => do_good v d s w' hd' h0 hL'
  have hst := doF_stops s d
  have hpos : ∀ k : Nat, (∃ o ∈ d, o.k = 7 ∧ o.a.toNat = k) → storesF d k = true := fun k ⟨p, hp, h7, ha⟩ => by
    have := alone_parts (checkF_alone h0 p hp)
    obtain ⟨j, hj, rfl⟩ := List.mem_iff_getElem.1 hp
    exact storesF_hit hj h7 (by omega)
  obtain ⟨o, ho⟩ : ∃ o, o = doF s d := ⟨_, rfl⟩
  rw [← ho] at hdo hst
  clear ho h0
  have HD := hd
  obtain ⟨a, cap, rfl, -⟩ := hd
  show Calls Tryd.prog 5 #[.agg #[.int .i64 (s 0), .int .i64 (s 1), .int .i64 (s 2), .int .i64 (s 3), .int .i64 (s 4), .int .i64 (s 5), .int .i64 (s 6), .int .i64 (s 7), .int .i64 (s 8), .int .i64 (s 9)], _] w _
  have hB0 : Below w.heap.size w (w.alloc (.cells #[.int .i64 (s 0), .int .i64 (s 1), .int .i64 (s 2), .int .i64 (s 3), .int .i64 (s 4), .int .i64 (s 5), .int .i64 (s 6), .int .i64 (s 7), .int .i64 (s 8), .int .i64 (s 9)] 38)) := (Below.refl _ _).alloc (Nat.le_refl _) _
  have hX0 := box_new w s
  go_enter Tryd.func5, Tryd.ntmps5
  go_wp2_with fail
  refine (begun_any _ (hL.later hB0)).mono ?_
  rintro e w1 ⟨rfl, hb1⟩
  have hB1 : Below w.heap.size w w1 := hB0.trans (hb1.mono (by simp))
  have hX1 := hX0.later hb1
  obtain ⟨k0, k1, k2, k3, k4, k5, k6, k7, k8, k9⟩ := hX1.ten
  clear hB0 hb1 hX0
  go_wp2_with fail
  refine (hdo _ (HD.later hB1) (hL.later hB1)).mono ?_
  rintro e w2 ⟨he, hb2⟩
  simp only [stV, resV] at he
  subst he
  have hB2 : Below w.heap.size w w2 := hB1.trans (hb2.mono hB1.size)
  have hX2 := hX1.later hb2
  have hz : w.heap.size < w2.heap.size := World.block_lt_of_cell? w2 _ (hX2 0 (by omega))
  clear hb2 hB1 hdo hX1 k0 k1 k2 k3 k4 k5 k6 k7 k8 k9
  rcases hst with ⟨hc, hs⟩ | ⟨hc, hs⟩
  · obtain ⟨k0, k1, k2, k3, k4, k5, k6, k7, k8, k9⟩ := hX2.ten
    obtain ⟨os, oc, og⟩ := o
    dsimp only at hc hs ⊢
    subst hc hs
    have h38 := eq38 os
    go_wp2_with fail
    go_ret
    exact ⟨rfl, (hB2.alloc hB2.size _).alloc (by have := hB2.size; simp; omega) _⟩
  · rw [hc]
    have hst : Hid (∀ j : Nat, ¬ o.st j = s j → storesF d j = true) := fun j h => hpos j (hs j h)
    clear hpos hs hc
    go_wp2_with fail
    obtain ⟨W3, e3⟩ : ∃ W3, W3 = (w2.alloc (.cells #[.int .i64 (o.st 0), .int .i64 (o.st 1), .int .i64 (o.st 2), .int .i64 (o.st 3), .int .i64 (o.st 4), .int .i64 (o.st 5), .int .i64 (o.st 6), .int .i64 (o.st 7), .int .i64 (o.st 8), .int .i64 (o.st 9)] 38)).alloc (.cells #[.int .i64 0, .int .i64 (o.regs 0), .int .i64 (o.regs 1), .int .i64 (o.regs 2), .int .i64 (o.regs 3)] 43) := ⟨_, rfl⟩
    rw [← e3]
    have hb3 : Below w2.heap.size w2 W3 := by rw [e3]; exact ((Below.refl _ _).alloc (Nat.le_refl _) _).alloc (by simp) _
    have hB3 : Below w.heap.size w W3 := hB2.trans (hb3.mono hB2.size)
    have hX3 := hX2.later hb3
    have hY3 : Box W3 w2.heap.size o.st := lt10 (by rw [e3]; go_simp) (by rw [e3]; go_simp) (by rw [e3]; go_simp) (by rw [e3]; go_simp) (by rw [e3]; go_simp) (by rw [e3]; go_simp) (by rw [e3]; go_simp) (by rw [e3]; go_simp) (by rw [e3]; go_simp) (by rw [e3]; go_simp)
    clear e3 hb3 hX2 hB2
    go_loopg [8] 10 (fun g i wr => ∃ j : Nat, j ≤ 10 ∧ g = 10 - j ∧ i = .int .i64 j ∧ Below W3.heap.size W3 wr)
    case atStart => exact ⟨0, by omega, by omega, rfl, Below.refl _ _⟩
    case round =>
      obtain ⟨j, hj, hg, rfl, hB⟩ := hrel
      have hBw : Below w.heap.size w wr := hB3.trans (hB.mono hB3.size)
      by_cases hlt : j < 10
      · have c1 := hX3.later hB j hlt
        have c2 := hY3.later hB j hlt
        have p1 : (j : Int) < 10 := by omega
        by_cases he : o.st j = s j
        · have te : (o.st j != s j) = false := by simp [he]
          clear he
          go_wp2_with fail
          go_quiet (fail)
          go_wp2_with fail
          go_roundg (10 - (j + 1))
          case measure => omega
          case rel => exact ⟨j + 1, by omega, rfl, by go_num, drewN_below hB _⟩
        · have te : (o.st j != s j) = true := by simp [he]
          have hs := hst.out j he
          have hcall := fun w' hd' => stores_any (.slice a d.length cap) d j w' hd' (by omega)
          rw [hs] at hcall
          clear he hs
          go_wp2_with fail
          go_quiet ((go_at_call 24; exact Calls.quiet_of_same (hcall _ (HD.later (drewN_below hBw _)))))
          go_wp2_with fail
          go_roundg (10 - (j + 1))
          case measure => omega
          case rel => exact ⟨j + 1, by omega, rfl, by go_num, drewN_below hB _⟩
      · go_wp2_with fail
        go_ret
        exact ⟨rfl, hBw⟩

theorem stops_any (v : Value) (d : List Op5) (s : Nat → Int) (w : World) (hd : DeedAt w v d) (hmax : d.length ≤ 9223372036854775807) (hL : Lim w) :
    Calls Tryd.prog 5 #[stV s, v] w fun e w' => e = .returned (.bool true) ∧ Below w.heap.size w w' := by
  by_cases h : 200 < d.length
  · exact stops_long v d s w hd hmax h hL
  · by_cases h0 : (checkF d).1 = 0
    · exact stops_good v d s w hd h0 hL
    · exact stops_bad v d s w hd (by omega) h0 hL
end Go.Proofs.YtlhikmgjcgfohaaDoor
