/-
  The walk of the law SerialReads.
-/
import Derived.Test.YtlhikmgjcgfohaaDoorLawA
namespace Go.Proofs.YtlhikmgjcgfohaaDoor
open Go.RowKit

theorem Box.set {w : World} {B : Nat} {s : Nat → Int} (h : Box w B s) {m : Nat} (hm : m < 10) (n : Int) : Box (w.setCell ⟨B, m, none⟩ (.int .i64 n)) B (putAt s m n) := fun i hi => by
  by_cases e : i = m
  · subst e; rw [World.cell?_setCell_same _ _ _ (h i hi)]; simp [putAt]
  · rw [World.cell?_setCell_other _ _ _ _ (fun h => by simp only [Addr.mk.injEq] at h; omega), h i hi]; simp [putAt, e]
theorem Box.apart {w : World} {B C : Nat} {s : Nat → Int} (h : Box w B s) (hne : C ≠ B) (m : Nat) (v : Value) : Box (w.setCell ⟨C, m, none⟩ v) B s := fun i hi => by
  rw [World.cell?_setCell_other _ _ _ _ (fun h => by simp only [Addr.mk.injEq] at h; omega)]; exact h i hi

theorem Box.drew {w : World} {B : Nat} {s : Nat → Int} (h : Box w B s) : Box w.drew B s := fun i hi => by simpa using h i hi

set_option maxHeartbeats 400000 in
theorem reads_long (v : Value) (d : List Op5) (s t : Nat → Int) (w : World) (hd : DeedAt w v d) (hmax : d.length ≤ 9223372036854775807) (hlen : 200 < d.length) (hL : Lim w) :
    Calls Tryd.prog 7 #[stV s, stV t, v] w fun e w' => e = .returned (.bool true) ∧ Below w.heap.size w w' := by
  obtain ⟨a, cap, rfl, -⟩ := hd
  show Calls Tryd.prog 7 #[.agg #[.int .i64 (s 0), .int .i64 (s 1), .int .i64 (s 2), .int .i64 (s 3), .int .i64 (s 4), .int .i64 (s 5), .int .i64 (s 6), .int .i64 (s 7), .int .i64 (s 8), .int .i64 (s 9)], .agg #[.int .i64 (t 0), .int .i64 (t 1), .int .i64 (t 2), .int .i64 (t 3), .int .i64 (t 4), .int .i64 (t 5), .int .i64 (t 6), .int .i64 (t 7), .int .i64 (t 8), .int .i64 (t 9)], _] w _
  have hB0 : Below w.heap.size w ((w.alloc (.cells #[.int .i64 (s 0), .int .i64 (s 1), .int .i64 (s 2), .int .i64 (s 3), .int .i64 (s 4), .int .i64 (s 5), .int .i64 (s 6), .int .i64 (s 7), .int .i64 (s 8), .int .i64 (s 9)] 38)).alloc (.cells #[.int .i64 (t 0), .int .i64 (t 1), .int .i64 (t 2), .int .i64 (t 3), .int .i64 (t 4), .int .i64 (t 5), .int .i64 (t 6), .int .i64 (t 7), .int .i64 (t 8), .int .i64 (t 9)] 38)) := ((Below.refl _ _).alloc (Nat.le_refl _) _).alloc (by simp) _
  go_enter Tryd.func7, Tryd.ntmps7
  go_wp2_with fail
  refine (begun_any _ (hL.later hB0)).mono ?_
  rintro e w1 ⟨rfl, hb1⟩
  have hB1 : Below w.heap.size w w1 := hB0.trans (hb1.mono (by simp; omega))
  clear hB0 hb1
  go_wp2_with fail
  go_ret
  exact ⟨rfl, hB1⟩

set_option maxHeartbeats 1000000 in
theorem reads_short (v : Value) (d : List Op5) (s t0 : Nat → Int) (w : World) (hd : DeedAt w v d) (hlen : d.length ≤ 200) (hL : Lim w) :
    Calls Tryd.prog 7 #[stV s, stV t0, v] w fun e w' => e = .returned (.bool true) ∧ Below w.heap.size w w' := by
  have HD := hd
  obtain ⟨a, cap, rfl, hd⟩ := hd
  show Calls Tryd.prog 7 #[.agg #[.int .i64 (s 0), .int .i64 (s 1), .int .i64 (s 2), .int .i64 (s 3), .int .i64 (s 4), .int .i64 (s 5), .int .i64 (s 6), .int .i64 (s 7), .int .i64 (s 8), .int .i64 (s 9)], .agg #[.int .i64 (t0 0), .int .i64 (t0 1), .int .i64 (t0 2), .int .i64 (t0 3), .int .i64 (t0 4), .int .i64 (t0 5), .int .i64 (t0 6), .int .i64 (t0 7), .int .i64 (t0 8), .int .i64 (t0 9)], _] w _
  have hB0 : Below w.heap.size w ((w.alloc (.cells #[.int .i64 (s 0), .int .i64 (s 1), .int .i64 (s 2), .int .i64 (s 3), .int .i64 (s 4), .int .i64 (s 5), .int .i64 (s 6), .int .i64 (s 7), .int .i64 (s 8), .int .i64 (s 9)] 38)).alloc (.cells #[.int .i64 (t0 0), .int .i64 (t0 1), .int .i64 (t0 2), .int .i64 (t0 3), .int .i64 (t0 4), .int .i64 (t0 5), .int .i64 (t0 6), .int .i64 (t0 7), .int .i64 (t0 8), .int .i64 (t0 9)] 38)) := ((Below.refl _ _).alloc (Nat.le_refl _) _).alloc (by simp) _
  have hX0 : Box ((w.alloc (.cells #[.int .i64 (s 0), .int .i64 (s 1), .int .i64 (s 2), .int .i64 (s 3), .int .i64 (s 4), .int .i64 (s 5), .int .i64 (s 6), .int .i64 (s 7), .int .i64 (s 8), .int .i64 (s 9)] 38)).alloc (.cells #[.int .i64 (t0 0), .int .i64 (t0 1), .int .i64 (t0 2), .int .i64 (t0 3), .int .i64 (t0 4), .int .i64 (t0 5), .int .i64 (t0 6), .int .i64 (t0 7), .int .i64 (t0 8), .int .i64 (t0 9)] 38)) w.heap.size s := (box_new w s).later ((Below.refl _ _).alloc (Nat.le_refl _) _)
  have hY0 : Box ((w.alloc (.cells #[.int .i64 (s 0), .int .i64 (s 1), .int .i64 (s 2), .int .i64 (s 3), .int .i64 (s 4), .int .i64 (s 5), .int .i64 (s 6), .int .i64 (s 7), .int .i64 (s 8), .int .i64 (s 9)] 38)).alloc (.cells #[.int .i64 (t0 0), .int .i64 (t0 1), .int .i64 (t0 2), .int .i64 (t0 3), .int .i64 (t0 4), .int .i64 (t0 5), .int .i64 (t0 6), .int .i64 (t0 7), .int .i64 (t0 8), .int .i64 (t0 9)] 38)) (w.heap.size + 1) t0 := by
    have := box_new (w.alloc (.cells #[.int .i64 (s 0), .int .i64 (s 1), .int .i64 (s 2), .int .i64 (s 3), .int .i64 (s 4), .int .i64 (s 5), .int .i64 (s 6), .int .i64 (s 7), .int .i64 (s 8), .int .i64 (s 9)] 38)) t0
    simpa using this
  have hf0 : ∀ o, ((w.alloc (.cells #[.int .i64 (s 0), .int .i64 (s 1), .int .i64 (s 2), .int .i64 (s 3), .int .i64 (s 4), .int .i64 (s 5), .int .i64 (s 6), .int .i64 (s 7), .int .i64 (s 8), .int .i64 (s 9)] 38)).alloc (.cells #[.int .i64 (t0 0), .int .i64 (t0 1), .int .i64 (t0 2), .int .i64 (t0 3), .int .i64 (t0 4), .int .i64 (t0 5), .int .i64 (t0 6), .int .i64 (t0 7), .int .i64 (t0 8), .int .i64 (t0 9)] 38)).frozen? ⟨w.heap.size + 1, o, none⟩ = false := fun o => by go_simp
  go_enter Tryd.func7, Tryd.ntmps7
  go_wp2_with fail
  refine (begun_any _ (hL.later hB0)).mono ?_
  rintro e w1 ⟨rfl, hb1⟩
  have hB1 : Below w.heap.size w w1 := hB0.trans (hb1.mono (by simp; omega))
  have hX1 := hX0.later hb1
  have hY1 := hY0.later hb1
  have hf1 : ∀ o, w1.frozen? ⟨w.heap.size + 1, o, none⟩ = false := fun o => by rw [hb1.frozen (p := ⟨w.heap.size + 1, o, none⟩) (by simp)]; exact hf0 o
  clear hB0 hb1 hX0 hY0 hf0
  go_wp2_with fail
  go_loopg [7] d.length (fun g i wr => ∃ j : Nat, ∃ t : Nat → Int, j ≤ d.length ∧ g = d.length - j ∧ i = .int .i64 j ∧ Hid (∀ q (hq : q < d.length), q < j → d[q].k = 2 → isKeyF d[q].b = true → s d[q].b.toNat = t d[q].b.toNat) ∧ Box wr w.heap.size s ∧ Box wr (w.heap.size + 1) t ∧ (∀ o, wr.frozen? ⟨w.heap.size + 1, o, none⟩ = false) ∧ Below w.heap.size w wr)
  case atStart => exact ⟨0, t0, by omega, by omega, rfl, fun q _ h => absurd h (by omega), hX1, hY1, hf1, hB1⟩
  case round =>
    clear hX1 hY1 hf1 hB1
    obtain ⟨j, t, hj, hg, rfl, hF, hX, hY, hf, hB⟩ := hrel
    by_cases hlt : j < d.length
    · obtain ⟨b, off, rfl, c0, c1, c2, c3, c4⟩ := hd j hlt
      have hbl : b < w.heap.size := World.block_lt_of_cell? w _ c0
      replace c0 := cell_later hB c0
      replace c2 := cell_later hB c2
      clear hd c1 c3 c4
      by_cases h2 : d[j].k = 2
      · have t2 : (d[j].k == 2) = true := by simp [h2]
        by_cases hk : 0 ≤ d[j].b ∧ d[j].b < 10
        · have hcall := isKey_any d[j].b
          rw [show isKeyF d[j].b = true by simp [isKeyF, hk.1, hk.2]] at hcall
          obtain ⟨hk0, hk1⟩ := hk
          have x1 := hX d[j].b.toNat (by omega)
          have y1 := hY d[j].b.toNat (by omega)
          have hF' : Hid (∀ q (hq : q < d.length), q < j + 1 → d[q].k = 2 → isKeyF d[q].b = true → s d[q].b.toNat = putAt t d[j].b.toNat (s d[j].b.toNat) d[q].b.toNat) := fun q hq hqj h hkq => by
            unfold putAt
            split
            · rename_i e; rw [e]
            · by_cases e : q = j
              · subst e; rename_i hne; exact absurd rfl hne
              · exact hF.out q hq (by omega) h hkq
          have hn1 : ¬ w.heap.size + 1 = w.heap.size := by omega
          have hn2 : ¬ b = w.heap.size + 1 := by omega
          clear hF h2
          go_wp2_with (go_at_call 25; refine (hcall _).mono ?_; rintro e w' ⟨rfl, rfl⟩)
          go_region
          go_wp2_with fail
          go_roundg (d.length - (j + 1))
          case measure => omega
          case rel => exact ⟨j + 1, putAt t d[j].b.toNat (s d[j].b.toNat), by omega, rfl, by go_num, hF', (hX.apart (by omega) _ _).drew, (hY.set (by omega) _).drew, fun o => by simpa using hf o, (hB.setCell (p := ⟨w.heap.size + 1, _, none⟩) (by simp) _).drew⟩
        · have hcall := isKey_any d[j].b
          have hkF : isKeyF d[j].b = false := by unfold isKeyF; simp; omega
          rw [hkF] at hcall
          have hF' : Hid (∀ q (hq : q < d.length), q < j + 1 → d[q].k = 2 → isKeyF d[q].b = true → s d[q].b.toNat = t d[q].b.toNat) := fun q hq hqj h hkq => by
            by_cases e : q = j
            · subst e; rw [hkF] at hkq; cases hkq
            · exact hF.out q hq (by omega) h hkq
          clear hF h2 hk hkF
          go_wp2_with (go_at_call 25; refine (hcall _).mono ?_; rintro e w' ⟨rfl, rfl⟩)
          go_roundg (d.length - (j + 1))
          case measure => omega
          case rel => exact ⟨j + 1, t, by omega, rfl, by go_num, hF', hX, hY, hf, hB⟩
      · have t2 : (d[j].k == 2) = false := by simp [h2]
        have hF' : Hid (∀ q (hq : q < d.length), q < j + 1 → d[q].k = 2 → isKeyF d[q].b = true → s d[q].b.toNat = t d[q].b.toNat) := fun q hq hqj h hkq => by
          by_cases e : q = j
          · subst e; exact absurd h h2
          · exact hF.out q hq (by omega) h hkq
        clear hF h2
        go_wp2_with fail
        go_roundg (d.length - (j + 1))
        case measure => omega
        case rel => exact ⟨j + 1, t, by omega, rfl, by go_num, hF', hX, hY, hf, hB⟩
    · obtain rfl : j = d.length := by omega
      have hN : Hid (∀ q (hq : q < d.length), d[q].k = 2 → isKeyF d[q].b = true → s d[q].b.toNat = t d[q].b.toNat) := fun q hq h hk => hF.out q hq hq h hk
      obtain ⟨k0, k1, k2, k3, k4, k5, k6, k7, k8, k9⟩ := hX.ten
      clear hF hd
      by_cases h0 : (checkF d).1 = 0
      · have hdo1 := fun w' (hd' : DeedAt w' (.slice a d.length cap) d) (hL' : Lim w') => do_good (.slice a d.length cap) d s w' hd' h0 hL'
        have hdo2 := fun w' (hd' : DeedAt w' (.slice a d.length cap) d) (hL' : Lim w') => do_good (.slice a d.length cap) d t w' hd' h0 hL'
        have hload : ∀ o ∈ d, o.k = 2 → s o.b.toNat = t o.b.toNat := fun o ho h2 => by
          have pa := alone_parts (checkF_alone h0 o ho)
          obtain ⟨q, hq, rfl⟩ := List.mem_iff_getElem.1 ho
          exact hN.out q hq h2 (by unfold isKeyF; simp; omega)
        obtain ⟨e1, e2, e3⟩ := doF_reads hload
        obtain ⟨x, hx⟩ : ∃ x, x = (doF s d).st := ⟨_, rfl⟩
        obtain ⟨c, hc⟩ : ∃ c, c = (doF s d).code := ⟨_, rfl⟩
        obtain ⟨g, hgr⟩ : ∃ g, g = (doF s d).regs := ⟨_, rfl⟩
        obtain ⟨y, hy⟩ : ∃ y, y = (doF t d).st := ⟨_, rfl⟩
        rw [← hx, ← hc, ← hgr] at hdo1
        rw [← e1, ← e2, ← hc, ← hgr, ← hy] at hdo2
        rw [← hx, ← hy] at e3
        have HE : Hid (∀ k, x k = y k ∨ (x k = s k ∧ y k = t k)) := e3
        clear e1 e2 e3 hx hc hgr hy hload hN h0
        go_wp2_with fail
        refine (hdo1 _ (HD.later hB) (hL.later hB)).mono ?_
        rintro e w2 ⟨he, hb2⟩
        simp only [stV, resV] at he
        subst he
        have hB2 : Below w.heap.size w w2 := hB.trans (hb2.mono hB.size)
        have hX2 := hX.later hb2
        have hY2 := hY.later hb2
        have hs2 := hB2.size
        have hz0 : w.heap.size + 1 < w2.heap.size := World.block_lt_of_cell? w2 _ (hY2 0 (by omega))
        have hz00 : w.heap.size < w2.heap.size := by omega
        obtain ⟨m0, m1, m2, m3, m4, m5, m6, m7, m8, m9⟩ := hY2.ten
        have hb2' : Below w2.heap.size w2 ((w2.alloc (.cells #[.int .i64 (x 0), .int .i64 (x 1), .int .i64 (x 2), .int .i64 (x 3), .int .i64 (x 4), .int .i64 (x 5), .int .i64 (x 6), .int .i64 (x 7), .int .i64 (x 8), .int .i64 (x 9)] 38)).alloc (.cells #[.int .i64 c, .int .i64 (g 0), .int .i64 (g 1), .int .i64 (g 2), .int .i64 (g 3)] 43)) := ((Below.refl _ _).alloc (Nat.le_refl _) _).alloc (by simp) _
        have hB2' := hB2.trans (hb2'.mono hs2)
        clear hb2 hdo1 hX hY hB k0 k1 k2 k3 k4 k5 k6 k7 k8 k9
        go_wp2_with fail
        refine (hdo2 _ (HD.later hB2') (hL.later hB2')).mono ?_
        rintro e w3 ⟨he, hb3⟩
        simp only [stV, resV] at he
        subst he
        have hX3 : Box w3 w2.heap.size x := lt10 (cell_later hb3 (by go_simp)) (cell_later hb3 (by go_simp)) (cell_later hb3 (by go_simp)) (cell_later hb3 (by go_simp)) (cell_later hb3 (by go_simp)) (cell_later hb3 (by go_simp)) (cell_later hb3 (by go_simp)) (cell_later hb3 (by go_simp)) (cell_later hb3 (by go_simp)) (cell_later hb3 (by go_simp))
        have y0 : w3.cell? ⟨w2.heap.size + 1, 0, none⟩ = some (.int .i64 c) := cell_later hb3 (by go_simp)
        have y1 : w3.cell? ⟨w2.heap.size + 1, 1, none⟩ = some (.int .i64 (g 0)) := cell_later hb3 (by go_simp)
        have y2 : w3.cell? ⟨w2.heap.size + 1, 2, none⟩ = some (.int .i64 (g 1)) := cell_later hb3 (by go_simp)
        have y3 : w3.cell? ⟨w2.heap.size + 1, 3, none⟩ = some (.int .i64 (g 2)) := cell_later hb3 (by go_simp)
        have y4 : w3.cell? ⟨w2.heap.size + 1, 4, none⟩ = some (.int .i64 (g 3)) := cell_later hb3 (by go_simp)
        have hb3' : Below w2.heap.size w2 w3 := hb2'.trans (hb3.mono hb2'.size)
        have hS3 := hX2.later hb3'
        have hT3 := hY2.later hb3'
        have hB3 : Below w.heap.size w w3 := hB2'.trans (hb3.mono hB2'.size)
        have hz3 : w2.heap.size < w3.heap.size := World.block_lt_of_cell? w3 _ (hX3 0 (by omega))
        have hz4 : w2.heap.size + 1 < w3.heap.size := World.block_lt_of_cell? w3 _ y0
        have h43 := eq43 c (g 0) (g 1) (g 2) (g 3)
        clear hb3 hb3' hb2' hB2' hB2 hdo2 hX2 hY2 m0 m1 m2 m3 m4 m5 m6 m7 m8 m9
        go_wp2_with fail
        obtain ⟨W4, e4⟩ : ∃ W4, W4 = (w3.alloc (.cells #[.int .i64 (y 0), .int .i64 (y 1), .int .i64 (y 2), .int .i64 (y 3), .int .i64 (y 4), .int .i64 (y 5), .int .i64 (y 6), .int .i64 (y 7), .int .i64 (y 8), .int .i64 (y 9)] 38)).alloc (.cells #[.int .i64 c, .int .i64 (g 0), .int .i64 (g 1), .int .i64 (g 2), .int .i64 (g 3)] 43) := ⟨_, rfl⟩
        rw [← e4]
        have hb4 : Below w3.heap.size w3 W4 := by rw [e4]; exact ((Below.refl _ _).alloc (Nat.le_refl _) _).alloc (by simp) _
        have hB4 : Below w.heap.size w W4 := hB3.trans (hb4.mono hB3.size)
        have hS4 := hS3.later hb4
        have hT4 := hT3.later hb4
        have hX4 := hX3.later hb4
        have hY4 : Box W4 w3.heap.size y := lt10 (by rw [e4]; go_simp) (by rw [e4]; go_simp) (by rw [e4]; go_simp) (by rw [e4]; go_simp) (by rw [e4]; go_simp) (by rw [e4]; go_simp) (by rw [e4]; go_simp) (by rw [e4]; go_simp) (by rw [e4]; go_simp) (by rw [e4]; go_simp)
        clear e4 hb4 hB3 hS3 hT3 hX3 y0 y1 y2 y3 y4
        go_loopg [14] 10 (fun gh i wr => ∃ j : Nat, j ≤ 10 ∧ gh = 10 - j ∧ i = .int .i64 j ∧ Below W4.heap.size W4 wr)
        case atStart => exact ⟨0, by omega, by omega, rfl, Below.refl _ _⟩
        case round =>
          obtain ⟨j, hj, hg, rfl, hB⟩ := hrel
          have hBw : Below w.heap.size w wr := hB4.trans (hB.mono hB4.size)
          by_cases hlt : j < 10
          · have c1 := hX4.later hB j hlt
            have c2 := hY4.later hB j hlt
            have c3 := hS4.later hB j hlt
            have c4 := hT4.later hB j hlt
            have p1 : (j : Int) < 10 := by omega
            rcases HE.out j with he | ⟨he1, he2⟩
            · have te : (x j != y j) = false := by simp [he]
              clear he
              go_wp2_with fail
              go_quiet (fail)
              go_wp2_with fail
              go_roundg (10 - (j + 1))
              case measure => omega
              case rel => exact ⟨j + 1, by omega, rfl, by go_num, drewN_below hB _⟩
            · have te1 : (x j != s j) = false := by simp [he1]
              have te2 : (y j != t j) = false := by simp [he2]
              clear he1 he2
              cases te : (x j != y j)
              · go_wp2_with fail
                go_quiet (fail)
                go_wp2_with fail
                go_roundg (10 - (j + 1))
                case measure => omega
                case rel => exact ⟨j + 1, by omega, rfl, by go_num, drewN_below hB _⟩
              · go_wp2_with fail
                go_quiet (fail)
                go_wp2_with fail
                go_roundg (10 - (j + 1))
                case measure => omega
                case rel => exact ⟨j + 1, by omega, rfl, by go_num, drewN_below hB _⟩
          · go_wp2_with fail
            go_ret
            exact ⟨rfl, hBw⟩
      · have hdo1 := fun w' (hd' : DeedAt w' (.slice a d.length cap) d) (hL' : Lim w') => do_bad (.slice a d.length cap) d s w' hd' (by omega) h0 hL'
        have hdo2 := fun w' (hd' : DeedAt w' (.slice a d.length cap) d) (hL' : Lim w') => do_bad (.slice a d.length cap) d t w' hd' (by omega) h0 hL'
        obtain ⟨c, hc⟩ : ∃ c, c = (checkF d).1 := ⟨_, rfl⟩
        rw [← hc] at h0 hdo1 hdo2
        have t0 : (c == 0) = false := by simp [h0]
        have hcc : (c != c) = false := by simp
        clear hc h0 hN
        go_wp2_with fail
        refine (hdo1 _ (HD.later hB) (hL.later hB)).mono ?_
        rintro e w2 ⟨he, hb2⟩
        simp only [stV, resV] at he
        subst he
        have hB2 : Below w.heap.size w w2 := hB.trans (hb2.mono hB.size)
        have hY2 := hY.later hb2
        have hs2 := hB2.size
        have hz0 : w.heap.size + 1 < w2.heap.size := World.block_lt_of_cell? w2 _ (hY2 0 (by omega))
        have hz00 : w.heap.size < w2.heap.size := by omega
        obtain ⟨m0, m1, m2, m3, m4, m5, m6, m7, m8, m9⟩ := hY2.ten
        have hb2' : Below w2.heap.size w2 ((w2.alloc (.cells #[.int .i64 0, .int .i64 0, .int .i64 0, .int .i64 0, .int .i64 0, .int .i64 0, .int .i64 0, .int .i64 0, .int .i64 0, .int .i64 0] 38)).alloc (.cells #[.int .i64 0, .int .i64 0, .int .i64 0, .int .i64 0, .int .i64 0] 43)) := ((Below.refl _ _).alloc (Nat.le_refl _) _).alloc (by simp) _
        have hB2' := hB2.trans (hb2'.mono hs2)
        clear hb2 hdo1 hX hY hB k0 k1 k2 k3 k4 k5 k6 k7 k8 k9
        go_wp2_with fail
        refine (hdo2 _ (HD.later hB2') (hL.later hB2')).mono ?_
        rintro e w3 ⟨he, hb3⟩
        simp only [stV, resV] at he
        subst he
        have y0 : w3.cell? ⟨w2.heap.size + 1, 0, none⟩ = some (.int .i64 0) := cell_later hb3 (by go_simp)
        have y1 : w3.cell? ⟨w2.heap.size + 1, 1, none⟩ = some (.int .i64 0) := cell_later hb3 (by go_simp)
        have y2 : w3.cell? ⟨w2.heap.size + 1, 2, none⟩ = some (.int .i64 0) := cell_later hb3 (by go_simp)
        have y3 : w3.cell? ⟨w2.heap.size + 1, 3, none⟩ = some (.int .i64 0) := cell_later hb3 (by go_simp)
        have y4 : w3.cell? ⟨w2.heap.size + 1, 4, none⟩ = some (.int .i64 0) := cell_later hb3 (by go_simp)
        have hB3 : Below w.heap.size w w3 := hB2'.trans (hb3.mono hB2'.size)
        have hz4 : w2.heap.size + 1 < w3.heap.size := World.block_lt_of_cell? w3 _ y0
        have hz3 : w2.heap.size < w3.heap.size := by omega
        have h43 := eq43 0 0 0 0 0
        clear hb3 hb2' hB2' hB2 hdo2 hY2 m0 m1 m2 m3 m4 m5 m6 m7 m8 m9
        go_wp2_with fail
        have hB4 := (hB3.alloc hB3.size (.cells #[.int .i64 0, .int .i64 0, .int .i64 0, .int .i64 0, .int .i64 0, .int .i64 0, .int .i64 0, .int .i64 0, .int .i64 0, .int .i64 0] 38)).alloc (by have := hB3.size; simp; omega) (.cells #[.int .i64 0, .int .i64 0, .int .i64 0, .int .i64 0, .int .i64 0] 43)
        go_loopg [14] 10 (fun gh i wr => ∃ j : Nat, j ≤ 10 ∧ gh = 10 - j ∧ i = .int .i64 j ∧ Below w.heap.size w wr)
        case atStart => exact ⟨0, by omega, by omega, rfl, hB4⟩
        case round =>
          obtain ⟨j, hj, hg, rfl, hB⟩ := hrel
          by_cases hlt : j < 10
          · go_wp2_with fail
            go_quiet (fail)
            go_wp2_with fail
            go_roundg (10 - (j + 1))
            case measure => omega
            case rel => exact ⟨j + 1, by omega, rfl, by go_num, drewN_below hB _⟩
          · go_wp2_with fail
            go_ret
            exact ⟨rfl, hB⟩

theorem reads_any (v : Value) (d : List Op5) (s t : Nat → Int) (w : World) (hd : DeedAt w v d) (hmax : d.length ≤ 9223372036854775807) (hL : Lim w) :
    Calls Tryd.prog 7 #[stV s, stV t, v] w fun e w' => e = .returned (.bool true) ∧ Below w.heap.size w w' := by
  by_cases h : 200 < d.length
  · exact reads_long v d s t w hd hmax h hL
  · exact reads_short v d s t w hd (by omega) hL
end Go.Proofs.YtlhikmgjcgfohaaDoor
