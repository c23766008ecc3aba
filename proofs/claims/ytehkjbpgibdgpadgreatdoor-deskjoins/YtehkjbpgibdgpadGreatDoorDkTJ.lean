/-
  The walk of the law DeskJoins.
-/
import Derived.Test.YtehkjbpgibdgpadGreatDoorJqDh
namespace Go.Proofs.YtehkjbpgibdgpadGreatDoor
open Go.RowKit Go.Shelf

section
variable {w : World} {v : Value} {ls : List (List UInt8)}

set_option maxRecDepth 100000 in
set_option maxHeartbeats 1000000 in
theorem joins_many (cut : Int) (hs : StrsIn (fun _ => True) w v ls) (hm : ls.length ≤ 9223372036854775807) (hE : Env w) (hn : 150 < ls.length) :
    Calls Tryz.prog 4 #[v, .int .i64 cut] w fun e w' => e = .returned (.bool true) ∧ Below w.heap.size w w' := by
  have hb := deskBegun_any w hE
  obtain ⟨a, cap, rfl, -, -⟩ := hs
  have t1 : (150 : Int) < (ls.length : Int) := by omega
  generalize ls.length = n at *
  go_enter Tryz.func4, Tryz.ntmps4
  go_wp2_with fail
  refine hb.mono ?_
  rintro e w1 ⟨rfl, hb1⟩
  go_wp2_with fail
  go_ret
  exact ⟨rfl, hb1⟩

theorem strB_appendD (a b : List UInt8) : strB a ++ strB b = strB (a ++ b) := by
  have := Lib.mk_data (strB a ++ strB b)
  rw [← this]
  simp [strB]
theorem index_cut (i : Int) (n : Nat) (h : n ≤ 150) : ∃ m : Nat, m ≤ n ∧ wrap64 ((IntKind.u64.wrap i).tmod ((n : Int) + 1)) = (m : Int) := by
  rw [IntKind.wrap_u64]
  have h0 : 0 ≤ i % 18446744073709551616 := Int.emod_nonneg _ (by decide)
  generalize i % 18446744073709551616 = x at h0
  rw [Int.tmod_eq_emod_of_nonneg h0]
  have h1 : 0 ≤ x % ((n : Int) + 1) := Int.emod_nonneg _ (by omega)
  have h2 : x % ((n : Int) + 1) < (n : Int) + 1 := Int.emod_lt_of_pos _ (by omega)
  generalize x % ((n : Int) + 1) = y at h1 h2
  refine ⟨y.toNat, by omega, ?_⟩
  rw [IntWalk.wrap64_in y ⟨by omega, by omega⟩]
  omega
/-- A desk in blocks from one number up to another. -/
def Span (a b : Nat) (x : Nat) : Prop := a ≤ x ∧ x < b

set_option maxRecDepth 100000 in
set_option maxHeartbeats 2000000 in
theorem joins_few (cut : Int) (hs : StrsIn (fun _ => True) w v ls) (hl : ∀ s ∈ ls, s.length ≤ 140737488355328) (hE : Env w) (hn : ls.length ≤ 150) :
    Calls Tryz.prog 4 #[v, .int .i64 cut] w fun e w' => e = .returned (.bool true) ∧ Below w.heap.size w w' := by
  have hb := deskBegun_any w hE
  have hsl := fun (w1 : World) (hb1 : Below w.heap.size w w1) => slow_any (hs.later hb1) hn hl
  obtain ⟨a, cap, rfl, hcap, -⟩ := id hs
  have t1 : ¬ (150 : Int) < (ls.length : Int) := by omega
  obtain ⟨k, hkn, ek⟩ := index_cut cut ls.length hn
  have hs' : StrsIn (fun b => b < w.heap.size) w (.slice a ls.length cap) ls := hs.mono fun b hb _ => hb
  obtain ⟨a1, cap1, hcH, hS1⟩ := cutH hs' hkn
  obtain ⟨a2, cap2, hcL, hS2⟩ := cutL hs' hkn
  -- what Do answers, of a desk in blocks that the law has made
  have HDo : Hid (∀ (P : Nat → Prop) (W : World) (B : Nat) (D : DSt) (v : Value) (l : List (List UInt8)), StrsIn (fun b => b < w.heap.size) w v l → l.length ≤ 150 → (∀ s ∈ l, s.length ≤ 9000) → Below w.heap.size w W → (∀ b, P b → w.heap.size ≤ b) → DeskAt P W B [] D → Calls Tryz.prog 8 #[.pointer (some ⟨B, 0, none⟩), v] W (DoOut P W B D l)) := fun P W B D v l h1 h2 h3 h4 h5 h6 =>
    do_any h6 ⟨w, hE, h4, h5⟩ ((h1.mono fun b _ hb hp => by have := h5 b hp; omega).later h4) h2 fun s hs => Nat.le_trans (h3 s hs) (by decide)
  have HS : Hid (StrsIn (fun b => b < w.heap.size) w (.slice a ls.length cap) ls ∧ StrsIn (fun b => b < w.heap.size) w (.slice a1 k cap1) (ls.take k) ∧ StrsIn (fun b => b < w.heap.size) w (.slice a2 (ls.length - k) cap2) (ls.drop k)) := ⟨hs', hS1, hS2⟩
  clear hs hs' hS1 hS2 hE hl
  obtain ⟨n, en⟩ : ∃ n, n = ls.length := ⟨_, rfl⟩
  have En : Hid (n = ls.length) := en
  rw [← en] at t1 hn hcap hsl hkn ek hcH hcL HS ⊢
  obtain ⟨nk, enk⟩ : ∃ nk, nk = n - k := ⟨_, rfl⟩
  rw [← enk] at hcL HS
  clear en enk
  go_enter Tryz.func4, Tryz.ntmps4
  go_wp2_with fail
  refine hb.mono ?_
  clear hb
  rintro e w1 ⟨rfl, hb1⟩
  go_wp2_with fail
  refine (hsl _ hb1).mono ?_
  clear hsl
  rintro e w2 ⟨⟨q, rfl, hq⟩, rfl⟩
  cases q with
  | true =>
    go_wp2_with fail
    go_ret
    exact ⟨rfl, hb1⟩
  | false =>
    have HLen : Hid (∀ s ∈ ls, s.length ≤ 9000) := hq rfl
    clear hq
    go_wp2_with fail
    -- two desks
    refine (new_any w2).mono ?_
    rintro e w3 ⟨B1, rfl, hD1, hb3⟩
    go_wp2_with fail
    refine (new_any w3).mono ?_
    rintro e w4 ⟨B2, rfl, hD2, hb4⟩
    have z2 := hb1.size
    have z3 := hb3.size
    have z4 := hb4.size
    have hB4 : Below w.heap.size w w4 := (hb1.trans (hb3.mono z2)).trans (hb4.mono (by omega))
    have d1 : DeskAt (Span w2.heap.size w3.heap.size) w4 B1 [] D0 := hD1.here.later hb4
    have d2 : DeskAt (Span w3.heap.size w4.heap.size) w4 B2 [] D0 := hD2.here
    clear hD1 hD2 hb3 hb4
    have hdo1 := HDo.out _ w4 B1 D0 _ _ HS.out.2.1 (by rw [List.length_take]; have := En.out; omega) (fun s hs => HLen.out s (List.mem_of_mem_take hs)) hB4 (fun b hb => by have := hb.1; omega) d1
    clear d1
    go_wp2_with fail
    refine hdo1.mono ?_
    clear hdo1 hcH
    rintro e w5 ⟨c1, r1, t1', E1, rfl, hc1, hc1', hl1, d1, g1⟩
    have z5 := g1.size
    have hB5 : Below w.heap.size w w5 := g1.below hB4 (by omega) fun b hb => by have := hb.1; omega
    obtain ⟨V5, e5⟩ : ∃ V5, V5 = w5.alloc (.cells #[.int .i64 c1, .int .i64 r1] 42) := ⟨_, rfl⟩
    have y5 : V5.heap.size = w5.heap.size + 1 := by rw [e5]; simp
    have hb5 : Below w5.heap.size w5 V5 := by rw [e5]; exact (Below.refl _ _).alloc (Nat.le_refl _) _
    have f5 : V5.cell? ⟨w5.heap.size, 0, none⟩ = some (.int .i64 c1) := by rw [e5]; go_simp
    have H5 : Hid (w5.alloc (.cells #[.int .i64 c1, .int .i64 r1] 42) = V5) := e5.symm
    replace d1 : DeskAt (fun b => (Span w2.heap.size w3.heap.size b ∨ w4.heap.size ≤ b) ∧ b < w5.heap.size) V5 B1 [] E1 := d1.here.later hb5
    replace d2 : DeskAt (Span w3.heap.size w4.heap.size) V5 B2 [] D0 := (d2.grew g1 fun b hb e => by have := hb.1; have := e.2; omega).later hb5
    have hB5' : Below w.heap.size w V5 := hB5.trans (hb5.mono hB5.size)
    clear e5 g1 hb5 hB5 hB4
    have hdo2 := HDo.out _ V5 B2 D0 _ _ HS.out.1 (by have := En.out; omega) HLen.out hB5' (fun b hb => by have := hb.1; omega) d2
    have Hc1 : Hid ((Clean (ls.take k) → c1 = 0 ∧ t1' = (linesF D0 (ls.take k)).2 ∧ E1 = (linesF D0 (ls.take k)).1) ∧ (¬ Clean (ls.take k) → c1 = 11)) := ⟨hc1, hc1'⟩
    have HD1 : Hid (DeskAt (fun b => (Span w2.heap.size w3.heap.size b ∨ w4.heap.size ≤ b) ∧ b < w5.heap.size) V5 B1 [] E1) := d1
    have HZ : Hid (w.heap.size ≤ w2.heap.size ∧ w2.heap.size ≤ w3.heap.size ∧ w3.heap.size ≤ w4.heap.size ∧ w4.heap.size ≤ w5.heap.size ∧ V5.heap.size = w5.heap.size + 1) := ⟨z2, z3, z4, z5, y5⟩
    clear hc1 hc1' d1 d2 z2 z3 z4 z5 y5
    go_wp2_with fail
    rw [H5.out]
    clear H5
    refine hdo2.mono ?_
    clear hdo2
    rintro e w6 ⟨c2, r2, t2', E2, rfl, hc2, hc2', hl2, -, g2⟩
    obtain ⟨z2, z3, z4, z5, y5⟩ := HZ.out
    have z6 := g2.size
    have hB6 : Below w.heap.size w w6 := g2.below hB5' (by omega) fun b hb => by have := hb.1; omega
    obtain ⟨V6, e6⟩ : ∃ V6, V6 = w6.alloc (.cells #[.int .i64 c2, .int .i64 r2] 42) := ⟨_, rfl⟩
    have y6 : V6.heap.size = w6.heap.size + 1 := by rw [e6]; simp
    have hb6 : Below w6.heap.size w6 V6 := by rw [e6]; exact (Below.refl _ _).alloc (Nat.le_refl _) _
    have f6 : V6.cell? ⟨w6.heap.size, 0, none⟩ = some (.int .i64 c2) := by rw [e6]; go_simp
    have H6 : Hid (w6.alloc (.cells #[.int .i64 c2, .int .i64 r2] 42) = V6) := e6.symm
    replace f5 : V6.cell? ⟨w5.heap.size, 0, none⟩ = some (.int .i64 c1) := cell_later hb6 (g2.cell f5 (fun e => by have := e.2; dsimp only at this; omega))
    have d1 : DeskAt (fun b => (Span w2.heap.size w3.heap.size b ∨ w4.heap.size ≤ b) ∧ b < w5.heap.size) V6 B1 [] E1 := (HD1.out.grew g2 fun b hb e => by
      have e1 := e.1
      have e2 := e.2
      rcases hb.1 with h | h
      · have := h.2; omega
      · omega).later hb6
    have hB6' : Below w.heap.size w V6 := hB6.trans (hb6.mono hB6.size)
    clear e6 g2 hb6 hB6 hB5' HD1
    have hdo3 := HDo.out _ V6 B1 E1 _ _ HS.out.2.2 (by rw [List.length_drop]; have := En.out; omega) (fun s hs => HLen.out s (List.mem_of_mem_drop hs)) hB6' (fun b hb => by
      rcases hb.1 with h | h
      · have := h.1; omega
      · omega) d1
    have Hc2 : Hid ((Clean ls → c2 = 0 ∧ t2' = (linesF D0 ls).2 ∧ E2 = (linesF D0 ls).1) ∧ (¬ Clean ls → c2 = 11)) := ⟨hc2, hc2'⟩
    have HZ6 : Hid (w5.heap.size < w6.heap.size ∧ V6.heap.size = w6.heap.size + 1 ∧ w.heap.size ≤ w5.heap.size) := ⟨by omega, y6, by omega⟩
    have HP : Hid (∀ b, (Span w2.heap.size w3.heap.size b ∨ w4.heap.size ≤ b) ∧ b < w5.heap.size → w.heap.size ≤ b) := fun b hb => by
      rcases hb.1 with h | h
      · have := h.1; omega
      · omega
    clear hc2 hc2' d1 z2 z3 z4 z5 y5 z6 y6 HZ
    have F5 : Hid (V6.cell? ⟨w5.heap.size, 0, none⟩ = some (.int .i64 c1) ∧ V6.cell? ⟨w6.heap.size, 0, none⟩ = some (.int .i64 c2)) := ⟨f5, f6⟩
    clear f5 f6
    go_wp2_with fail
    rw [H6.out]
    clear H6
    refine hdo3.mono ?_
    clear hdo3 hcL
    rintro e w7 ⟨c3, r3, t3', E3, rfl, hc3, hc3', hl3, -, g3⟩
    obtain ⟨z6, y6, z0⟩ := HZ6.out
    have z7 := g3.size
    have hB7 : Below w.heap.size w w7 := g3.below hB6' (by omega) HP.out
    obtain ⟨V7, e7⟩ : ∃ V7, V7 = w7.alloc (.cells #[.int .i64 c3, .int .i64 r3] 42) := ⟨_, rfl⟩
    have y7 : V7.heap.size = w7.heap.size + 1 := by rw [e7]; simp
    have hb7 : Below w7.heap.size w7 V7 := by rw [e7]; exact (Below.refl _ _).alloc (Nat.le_refl _) _
    have f7 : V7.cell? ⟨w7.heap.size, 0, none⟩ = some (.int .i64 c3) := by rw [e7]; go_simp
    have H7 : Hid (w7.alloc (.cells #[.int .i64 c3, .int .i64 r3] 42) = V7) := e7.symm
    have f5 : w7.cell? ⟨w5.heap.size, 0, none⟩ = some (.int .i64 c1) := g3.cell F5.out.1 (fun e => by have := e.2; dsimp only at this; omega)
    have f6 : w7.cell? ⟨w6.heap.size, 0, none⟩ = some (.int .i64 c2) := g3.cell F5.out.2 (fun e => by have := e.2; dsimp only at this; omega)
    have f5' := cell_later hb7 f5
    have hq5' : w5.heap.size < w7.heap.size := by omega
    have hq6' : w6.heap.size < w7.heap.size := by omega
    have hB7' : Below w.heap.size w V7 := hB7.trans (hb7.mono hB7.size)
    have hq5 : w5.heap.size < V7.heap.size := by omega
    have hq7 : w7.heap.size < V7.heap.size := by omega
    clear e7 g3 hb7 hB7 hB6' HP F5 HZ6
    have Hc3 : Hid ((Clean (ls.drop k) → c3 = 0 ∧ t3' = (linesF E1 (ls.drop k)).2 ∧ E3 = (linesF E1 (ls.drop k)).1) ∧ (¬ Clean (ls.drop k) → c3 = 11)) := ⟨hc3, hc3'⟩
    clear hc3 hc3' z6 y6 z0 z7 y7
    by_cases hcl : Clean ls
    · obtain ⟨rfl, e2, -⟩ := Hc2.out.1 hcl
      obtain ⟨rfl, e1, e1'⟩ := Hc1.out.1 fun s hs => hcl s (List.mem_of_mem_take hs)
      obtain ⟨rfl, e3, -⟩ := Hc3.out.1 fun s hs => hcl s (List.mem_of_mem_drop hs)
      have hcat : Hid (t1' ++ t3' = t2') := by
        show _ = _
        have h1 := linesF_append (ls.take k) (ls.drop k) D0
        rw [List.take_append_drop] at h1
        rw [e1, e3, e2, h1, e1']
      have HT : Hid (t2' = (linesF D0 ls).2) := e2
      clear e1 e1' e2 e3 Hc1 Hc2 Hc3
      have F5 : Hid (V7.cell? ⟨w5.heap.size, 0, none⟩ = some (.int .i64 0) ∧ V7.cell? ⟨w7.heap.size, 0, none⟩ = some (.int .i64 0)) := ⟨f5', f7⟩
      have HQ : Hid (w5.heap.size < V7.heap.size ∧ w7.heap.size < V7.heap.size) := ⟨hq5, hq7⟩
      clear f5' f7 hq5 hq7
      go_wp2_with fail
      rw [H7.out]
      clear H7 f5 f6 hq5' hq6'
      refine (new_any V7).mono ?_
      rintro e w8 ⟨B3, rfl, hD3, hb8⟩
      have z8 := hb8.size
      have hB8 : Below w.heap.size w w8 := hB7'.trans (hb8.mono hB7'.size)
      have hdo4 := HDo.out _ w8 B3 D0 _ _ HS.out.1 (by have := En.out; omega) HLen.out hB8 (fun b hb => by have := hb.1; have := hB7'.size; omega) hD3.here
      have f5 : w8.cell? ⟨w5.heap.size, 0, none⟩ = some (.int .i64 0) := cell_later hb8 F5.out.1
      have f7 : w8.cell? ⟨w7.heap.size, 0, none⟩ = some (.int .i64 0) := cell_later hb8 F5.out.2
      have HF : Hid (∀ w9, Grew (fun b => V7.heap.size ≤ b ∧ b < w8.heap.size) w8 w9 → w9.cell? ⟨w5.heap.size, 0, none⟩ = some (.int .i64 0) ∧ w9.cell? ⟨w7.heap.size, 0, none⟩ = some (.int .i64 0) ∧ w5.heap.size < w9.heap.size ∧ w7.heap.size < w9.heap.size ∧ Below w.heap.size w w9) := fun w9 g => by
        obtain ⟨q5, q7⟩ := HQ.out
        have := g.size
        have := hB7'.size
        exact ⟨g.cell f5 (fun e => by have := e.1; dsimp only at this; omega), g.cell f7 (fun e => by have := e.1; dsimp only at this; omega), by omega, by omega, g.below hB8 (by omega) fun b hb => by have := hb.1; omega⟩
      clear hD3 hb8 z8 hB8 f5 f7 F5 HQ hB7'
      go_wp2_with fail
      refine hdo4.mono ?_
      clear hdo4
      rintro e w9 ⟨c4, r4, t4', E4, rfl, hc4, -, hl4, -, g4⟩
      obtain ⟨rfl, e4, -⟩ := hc4 hcl
      obtain ⟨f5, f7, q5, q7, hB9⟩ := HF.out w9 g4
      have hB10 : Below w.heap.size w (w9.alloc (.cells #[.int .i64 0, .int .i64 r4] 42)) := hB9.alloc hB9.size _
      have e5 : Hid (t4' = t2') := by show _ = _; rw [e4, HT.out]
      clear hc4 g4 HF e4 HT hB9 HDo HS HLen
      have y1 : (strB t1').size = t1'.length := rfl
      have y3 : (strB t3').size = t3'.length := rfl
      have y4 : ¬ (9223372036854775807 < t1'.length + t3'.length) := by omega
      obtain ⟨Z, eZ⟩ : ∃ Z, Z = t1' ++ t3' := ⟨_, rfl⟩
      have y5 : strB t1' ++ strB t3' = strB Z := by rw [eZ]; exact strB_appendD t1' t3'
      have y6 : ((strB Z).toList == (strB t2').toList) = true := by rw [str_beq, eZ, hcat.out]; simp
      have y7 : ((strB t4').toList == (strB t2').toList) = true := by rw [str_beq, e5.out]; simp
      clear eZ hcat e5 hcl
      go_wp2_with fail
      go_ret
      exact ⟨rfl, hB10⟩
    · obtain rfl := Hc2.out.2 hcl
      have hor : Hid (c1 = 11 ∨ (c1 = 0 ∧ c3 = 11)) := by
        show _ ∨ _
        by_cases h1 : Clean (ls.take k)
        · refine .inr ⟨(Hc1.out.1 h1).1, Hc3.out.2 fun h3 => hcl fun s hs => ?_⟩
          rw [← List.take_append_drop k ls] at hs
          rcases List.mem_append.1 hs with hs | hs
          · exact h1 s hs
          · exact h3 s hs
        · exact .inl (Hc1.out.2 h1)
      have hB8 : Below w.heap.size w (w7.alloc (.cells #[.int .i64 c3, .int .i64 r3] 42)) := by rw [H7.out]; exact hB7'
      clear Hc1 Hc2 Hc3 hcl HDo HS HLen H7 f5' f7 hq5 hq7 hB7'
      rcases hor.out with rfl | ⟨rfl, rfl⟩
      · clear hor
        go_wp2_with fail
        go_ret
        exact ⟨rfl, hB8⟩
      · clear hor
        go_wp2_with fail
        go_ret
        exact ⟨rfl, hB8⟩
end
end Go.Proofs.YtehkjbpgibdgpadGreatDoor
