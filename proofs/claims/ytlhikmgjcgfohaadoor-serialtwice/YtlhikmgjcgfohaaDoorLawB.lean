/-
  The walk of the law SerialTwice.
-/
import Derived.Test.YtlhikmgjcgfohaaDoorLawA
namespace Go.Proofs.YtlhikmgjcgfohaaDoor
open Go.RowKit

set_option maxHeartbeats 400000 in
theorem twice_long (v : Value) (d : List Op5) (s : Nat → Int) (w : World) (hd : DeedAt w v d) (hmax : d.length ≤ 9223372036854775807) (hlen : 200 < d.length) (hL : Lim w) :
    Calls Tryd.prog 8 #[stV s, v] w fun e w' => e = .returned (.bool true) ∧ Below w.heap.size w w' := by
  obtain ⟨a, cap, rfl, -⟩ := hd
  show Calls Tryd.prog 8 #[.agg #[.int .i64 (s 0), .int .i64 (s 1), .int .i64 (s 2), .int .i64 (s 3), .int .i64 (s 4), .int .i64 (s 5), .int .i64 (s 6), .int .i64 (s 7), .int .i64 (s 8), .int .i64 (s 9)], _] w _
  have hB0 : Below w.heap.size w (w.alloc (.cells #[.int .i64 (s 0), .int .i64 (s 1), .int .i64 (s 2), .int .i64 (s 3), .int .i64 (s 4), .int .i64 (s 5), .int .i64 (s 6), .int .i64 (s 7), .int .i64 (s 8), .int .i64 (s 9)] 38)) := (Below.refl _ _).alloc (Nat.le_refl _) _
  go_enter Tryd.func8, Tryd.ntmps8
  go_wp2_with fail
  refine (begun_any _ (hL.later hB0)).mono ?_
  rintro e w1 ⟨rfl, hb1⟩
  have hB1 : Below w.heap.size w w1 := hB0.trans (hb1.mono (by simp))
  clear hB0 hb1
  go_wp2_with fail
  go_ret
  exact ⟨rfl, hB1⟩

theorem storesF_none {d : List Op5} (ha : ∀ o ∈ d, aloneF o = 0) (h : ∀ j (hj : j < d.length), d[j].k = 2 → storesF d d[j].b = false) :
    ∀ o ∈ d, o.k = 2 → ∀ p ∈ d, p.k = 7 → p.a.toNat ≠ o.b.toNat := fun o ho h2 p hp h7 he => by
  obtain ⟨j, hj, rfl⟩ := List.mem_iff_getElem.1 ho
  have h1 := h j hj h2
  have po := alone_parts (ha _ ho)
  have pp := alone_parts (ha p hp)
  obtain ⟨i, hi, rfl⟩ := List.mem_iff_getElem.1 hp
  rw [storesF_hit hi h7 (by omega)] at h1
  cases h1

set_option maxHeartbeats 1000000 in
theorem twice_short (v : Value) (d : List Op5) (s : Nat → Int) (w : World) (hd : DeedAt w v d) (hlen : d.length ≤ 200) (hL : Lim w) :
    Calls Tryd.prog 8 #[stV s, v] w fun e w' => e = .returned (.bool true) ∧ Below w.heap.size w w' := by
  have HD := hd
  obtain ⟨a, cap, rfl, hd⟩ := hd
  have hst := fun w' hd' k => stores_any (.slice a d.length cap) d k w' hd' hlen
  show Calls Tryd.prog 8 #[.agg #[.int .i64 (s 0), .int .i64 (s 1), .int .i64 (s 2), .int .i64 (s 3), .int .i64 (s 4), .int .i64 (s 5), .int .i64 (s 6), .int .i64 (s 7), .int .i64 (s 8), .int .i64 (s 9)], _] w _
  have hB0 : Below w.heap.size w (w.alloc (.cells #[.int .i64 (s 0), .int .i64 (s 1), .int .i64 (s 2), .int .i64 (s 3), .int .i64 (s 4), .int .i64 (s 5), .int .i64 (s 6), .int .i64 (s 7), .int .i64 (s 8), .int .i64 (s 9)] 38)) := (Below.refl _ _).alloc (Nat.le_refl _) _
  have hX0 := box_new w s
  go_enter Tryd.func8, Tryd.ntmps8
  go_wp2_with fail
  refine (begun_any _ (hL.later hB0)).mono ?_
  rintro e w1 ⟨rfl, hb1⟩
  have hB1 : Below w.heap.size w w1 := hB0.trans (hb1.mono (by simp))
  have hX1 := hX0.later hb1
  have HD1 := HD.later hB1
  have hL1 := hL.later hB1
  clear hB0 hb1 hX0
  go_wp2_with fail
  go_loopg [5] d.length (fun g i wr => ∃ j : Nat, j ≤ d.length ∧ g = d.length - j ∧ i = .int .i64 j ∧ Hid (∀ t (ht : t < d.length), t < j → d[t].k = 2 → storesF d d[t].b = false) ∧ wr = w1)
  case atStart => exact ⟨0, by omega, by omega, rfl, fun t _ h => absurd h (by omega), rfl⟩
  case round =>
    obtain ⟨j, hj, hg, rfl, hF, rfl⟩ := hrel
    by_cases hlt : j < d.length
    · obtain ⟨b, off, rfl, c0, c1, c2, c3, c4⟩ := hd j hlt
      replace c0 := cell_later hB1 c0
      replace c2 := cell_later hB1 c2
      clear hd c1 c3 c4
      by_cases h2 : d[j].k = 2
      · have t2 : (d[j].k == 2) = true := by simp [h2]
        have hcall := hst wr HD1 d[j].b
        cases hs : storesF d d[j].b
        · rw [hs] at hcall
          have hF' : Hid (∀ t (ht : t < d.length), t < j + 1 → d[t].k = 2 → storesF d d[t].b = false) := fun t ht htj h => by
            by_cases e : t = j
            · subst e; exact hs
            · exact hF.out t ht (by omega) h
          clear hF h2 hs
          go_wp2_with (go_at_call 24; refine hcall.mono ?_; rintro e w' ⟨rfl, rfl⟩)
          go_roundg (d.length - (j + 1))
          case measure => omega
          case rel => exact ⟨j + 1, by omega, rfl, by go_num, hF', rfl⟩
        · rw [hs] at hcall
          clear hF h2 hs
          go_wp2_with (go_at_call 24; refine hcall.mono ?_; rintro e w' ⟨rfl, rfl⟩)
          go_ret
          exact ⟨rfl, hB1⟩
      · have t2 : (d[j].k == 2) = false := by simp [h2]
        have hF' : Hid (∀ t (ht : t < d.length), t < j + 1 → d[t].k = 2 → storesF d d[t].b = false) := fun t ht htj h => by
          by_cases e : t = j
          · subst e; exact absurd h h2
          · exact hF.out t ht (by omega) h
        clear hF h2
        go_wp2_with fail
        go_roundg (d.length - (j + 1))
        case measure => omega
        case rel => exact ⟨j + 1, by omega, rfl, by go_num, hF', rfl⟩
    · obtain rfl : j = d.length := by omega
      have hN : Hid (∀ t (ht : t < d.length), d[t].k = 2 → storesF d d[t].b = false) := fun t ht h => hF.out t ht ht h
      obtain ⟨k0, k1, k2, k3, k4, k5, k6, k7, k8, k9⟩ := hX1.ten
      clear hF hd hst
      by_cases h0 : (checkF d).1 = 0
      · have hdo := fun w' (hd' : DeedAt w' (.slice a d.length cap) d) (hL' : Lim w') (s : Nat → Int) => do_good (.slice a d.length cap) d s w' hd' h0 hL'
        have htw : doF (doF s d).st d = doF s d := doF_twice (storesF_none (checkF_alone h0) hN.out)
        have hdo1 := fun w' hd' hL' => hdo w' hd' hL' s
        have hdo2 := fun w' hd' hL' => hdo w' hd' hL' (doF s d).st
        simp only [htw] at hdo2
        obtain ⟨o, ho⟩ : ∃ o, o = doF s d := ⟨_, rfl⟩
        rw [← ho] at hdo1 hdo2
        clear ho h0 htw hdo hN
        go_wp2_with fail
        refine (hdo1 _ HD1 hL1).mono ?_
        rintro e w2 ⟨he, hb2⟩
        simp only [stV, resV] at he
        subst he
        have hB2 : Below w.heap.size w w2 := hB1.trans (hb2.mono hB1.size)
        have hB2' := (hB2.alloc hB2.size (.cells #[.int .i64 (o.st 0), .int .i64 (o.st 1), .int .i64 (o.st 2), .int .i64 (o.st 3), .int .i64 (o.st 4), .int .i64 (o.st 5), .int .i64 (o.st 6), .int .i64 (o.st 7), .int .i64 (o.st 8), .int .i64 (o.st 9)] 38)).alloc (by have := hB2.size; simp; omega) (.cells #[.int .i64 o.code, .int .i64 (o.regs 0), .int .i64 (o.regs 1), .int .i64 (o.regs 2), .int .i64 (o.regs 3)] 43)
        clear hb2 hdo1 k0 k1 k2 k3 k4 k5 k6 k7 k8 k9
        go_wp2_with fail
        refine (hdo2 _ (HD.later hB2') (hL.later hB2')).mono ?_
        rintro e w3 ⟨he, hb3⟩
        simp only [stV, resV] at he
        subst he
        have x0 : w3.cell? ⟨w2.heap.size, 0, none⟩ = some (.int .i64 (o.st 0)) := cell_later hb3 (by go_simp)
        have x1 : w3.cell? ⟨w2.heap.size, 1, none⟩ = some (.int .i64 (o.st 1)) := cell_later hb3 (by go_simp)
        have x2 : w3.cell? ⟨w2.heap.size, 2, none⟩ = some (.int .i64 (o.st 2)) := cell_later hb3 (by go_simp)
        have x3 : w3.cell? ⟨w2.heap.size, 3, none⟩ = some (.int .i64 (o.st 3)) := cell_later hb3 (by go_simp)
        have x4 : w3.cell? ⟨w2.heap.size, 4, none⟩ = some (.int .i64 (o.st 4)) := cell_later hb3 (by go_simp)
        have x5 : w3.cell? ⟨w2.heap.size, 5, none⟩ = some (.int .i64 (o.st 5)) := cell_later hb3 (by go_simp)
        have x6 : w3.cell? ⟨w2.heap.size, 6, none⟩ = some (.int .i64 (o.st 6)) := cell_later hb3 (by go_simp)
        have x7 : w3.cell? ⟨w2.heap.size, 7, none⟩ = some (.int .i64 (o.st 7)) := cell_later hb3 (by go_simp)
        have x8 : w3.cell? ⟨w2.heap.size, 8, none⟩ = some (.int .i64 (o.st 8)) := cell_later hb3 (by go_simp)
        have x9 : w3.cell? ⟨w2.heap.size, 9, none⟩ = some (.int .i64 (o.st 9)) := cell_later hb3 (by go_simp)
        have y0 : w3.cell? ⟨w2.heap.size + 1, 0, none⟩ = some (.int .i64 o.code) := cell_later hb3 (by go_simp)
        have y1 : w3.cell? ⟨w2.heap.size + 1, 1, none⟩ = some (.int .i64 (o.regs 0)) := cell_later hb3 (by go_simp)
        have y2 : w3.cell? ⟨w2.heap.size + 1, 2, none⟩ = some (.int .i64 (o.regs 1)) := cell_later hb3 (by go_simp)
        have y3 : w3.cell? ⟨w2.heap.size + 1, 3, none⟩ = some (.int .i64 (o.regs 2)) := cell_later hb3 (by go_simp)
        have y4 : w3.cell? ⟨w2.heap.size + 1, 4, none⟩ = some (.int .i64 (o.regs 3)) := cell_later hb3 (by go_simp)
        have hB3 : Below w.heap.size w w3 := hB2'.trans (hb3.mono hB2'.size)
        have hz0 : w2.heap.size < w3.heap.size := World.block_lt_of_cell? w3 _ x0
        have hz1 : w2.heap.size + 1 < w3.heap.size := World.block_lt_of_cell? w3 _ y0
        have h38 := eq38 o.st
        have h43 := eq43 o.code (o.regs 0) (o.regs 1) (o.regs 2) (o.regs 3)
        clear hb3 hB2' hB2 hdo2
        go_wp2_with fail
        go_ret
        exact ⟨rfl, (hB3.alloc hB3.size _).alloc (by have := hB3.size; simp; omega) _⟩
      · have hdo := fun w' (hd' : DeedAt w' (.slice a d.length cap) d) (hL' : Lim w') => do_bad (.slice a d.length cap) d s w' hd' (by omega) h0 hL'
        obtain ⟨c, hc⟩ : ∃ c, c = (checkF d).1 := ⟨_, rfl⟩
        rw [← hc] at h0 hdo
        have t0 : (c != 0) = true := by simp [h0]
        have h38 := eq38 (fun _ => 0)
        clear hc h0 hN
        go_wp2_with fail
        refine (hdo _ HD1 hL1).mono ?_
        rintro e w2 ⟨he, hb2⟩
        simp only [stV, resV] at he
        subst he
        have hB2 : Below w.heap.size w w2 := hB1.trans (hb2.mono hB1.size)
        clear hb2 hdo k0 k1 k2 k3 k4 k5 k6 k7 k8 k9
        go_wp2_with fail
        go_ret
        exact ⟨rfl, (hB2.alloc hB2.size _).alloc (by have := hB2.size; simp; omega) _⟩

theorem twice_any (v : Value) (d : List Op5) (s : Nat → Int) (w : World) (hd : DeedAt w v d) (hmax : d.length ≤ 9223372036854775807) (hL : Lim w) :
    Calls Tryd.prog 8 #[stV s, v] w fun e w' => e = .returned (.bool true) ∧ Below w.heap.size w w' := by
  by_cases h : 200 < d.length
  · exact twice_long v d s w hd hmax h hL
  · exact twice_short v d s w hd (by omega) hL
end Go.Proofs.YtlhikmgjcgfohaaDoor
