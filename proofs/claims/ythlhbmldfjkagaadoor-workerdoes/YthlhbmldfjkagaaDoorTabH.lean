/-
  The walk of table.New.
-/
import Derived.Test.YthlhbmldfjkagaaDoorTabG
namespace Go.Proofs.YthlhbmldfjkagaaDoor
open Go.RowKit Go.Shelf

set_option maxHeartbeats 1000000 in
theorem new_bad (v : Value) (r : List (List Op5)) (s : Nat → Int) (w : World) (hr : RoundAt w v r) (hf : Fits r) (h0 : ¬ roundF r = 0) (hL : Lim w) :
    Calls Tryd.prog 31 #[stV s, v] w fun e w' => e = .returned (.tuple #[.pointer none, .int .i64 (roundF r)]) ∧ Below w.heap.size w w' := by
  have hrd := fun w' hr' hL' => round_any v r w' hr' hf hL'
  obtain ⟨c, hc⟩ : ∃ c, c = roundF r := ⟨_, rfl⟩
  rw [← hc] at h0 hrd ⊢
  have t0 : (c != 0) = true := by simp [h0]
  clear hc h0
  show Calls Tryd.prog 31 #[.agg #[.int .i64 (s 0), .int .i64 (s 1), .int .i64 (s 2), .int .i64 (s 3), .int .i64 (s 4), .int .i64 (s 5), .int .i64 (s 6), .int .i64 (s 7), .int .i64 (s 8), .int .i64 (s 9)], _] w _
  have hB0 : Below w.heap.size w (w.alloc (.cells #[.int .i64 (s 0), .int .i64 (s 1), .int .i64 (s 2), .int .i64 (s 3), .int .i64 (s 4), .int .i64 (s 5), .int .i64 (s 6), .int .i64 (s 7), .int .i64 (s 8), .int .i64 (s 9)] 38)) := (Below.refl _ _).alloc (Nat.le_refl _) _
  go_enter Tryd.func31, Tryd.ntmps31
  go_wp2_with fail
  refine (hrd _ (hr.later hB0) (hL.later hB0)).mono ?_
  rintro e w1 ⟨rfl, hb1⟩
  have hB1 : Below w.heap.size w w1 := hB0.trans (hb1.mono (by simp))
  clear hB0 hb1
  go_wp2_with fail
  exact bodyPost_ret (v := .tuple #[.pointer none, .int .i64 c]) (by simp [results, Tryd.results31, go_sem]) rfl ⟨rfl, hB1⟩

theorem zero_run (w : World) : (zeroValue 109).run Tryd.prog w = .ok (.agg Tryd.zeroCells109) w := by kernel_rfl
theorem zero_size : Tryd.zeroCells109.size = 370 := by kernel_rfl
theorem zero_many : ∀ k, k < 10 → Tryd.zeroCells109[k * 37 + 36]? = some (.int .i64 0)
  | 0, _ => by kernel_rfl
  | 1, _ => by kernel_rfl
  | 2, _ => by kernel_rfl
  | 3, _ => by kernel_rfl
  | 4, _ => by kernel_rfl
  | 5, _ => by kernel_rfl
  | 6, _ => by kernel_rfl
  | 7, _ => by kernel_rfl
  | 8, _ => by kernel_rfl
  | 9, _ => by kernel_rfl
theorem zero_ne : Tryd.zeroCells109 ≠ #[] := fun e => by have := zero_size; rw [e] at this; cases this
theorem cell_new (w : World) (cs : Array Value) (t : TypeId) (o : Nat) : (w.alloc (.cells cs t)).cell? ⟨w.heap.size, o, none⟩ = cs[o]? := by simp
theorem tab_new (w : World) : TabAt (w.alloc (.cells Tryd.zeroCells109 109)) w.heap.size (fun _ => []) ∧ Room (w.alloc (.cells Tryd.zeroCells109 109)) w.heap.size := by
  refine ⟨⟨fun k hk => ⟨by simp, by rw [cell_new, zero_many k hk]; rfl, fun i hi => by simp at hi⟩, fun o => by simp⟩, fun o ho => ?_⟩
  rw [cell_new, Array.getElem?_eq_getElem (by rw [zero_size]; exact ho)]; rfl

/-- The keys that a call has told, in memory beyond a block. -/
def KeysAt (w : World) (B : Nat) (u : Value) (ks : List Nat) : Prop :=
  ∃ a cap, u = .slice a ks.length cap ∧ ∀ i (h : i < ks.length), ∃ g, B < g ∧ a = some ⟨g, 0, none⟩ ∧ w.cell? ⟨g, i, none⟩ = some (.int .i64 (ks[i] : Int))
theorem KeysAt.kept {w w' : World} {B : Nat} {u : Value} {ks : List Nat} (h : KeysAt w B u ks) (hg : w.grownBy w' (some B)) : KeysAt w' B u ks := by
  obtain ⟨a, cap, e, h⟩ := h
  refine ⟨a, cap, e, fun i hi => ?_⟩
  obtain ⟨g, h1, h2, h3⟩ := h i hi
  refine ⟨g, h1, h2, ?_⟩
  have hlt := World.block_lt_of_cell? w _ h3
  rw [World.cell?_of_block (w := w) (hg.block g hlt (fun e => by cases e; omega))]; exact h3
theorem keysAt_of_owns {w : World} {base B : Nat} {u : Value} {ks : List Nat} (h : w.ownsRow base 3 1 u ks.length (ks.map fun k : Nat => .int .i64 (k : Int))) (hB : B < base) : KeysAt w B u ks := by
  have hc := h
  rcases h.2 with ⟨rfl, h0⟩ | ⟨g, cap, cur, rfl, hg, -⟩
  · exact ⟨none, 0, by rw [h0], fun i hi => by omega⟩
  · refine ⟨_, cap, rfl, fun i hi => ⟨g, by omega, rfl, ?_⟩⟩
    have := hc.cells (g := g) rfl i (.int .i64 (ks[i] : Int)) (by simp [hi])
    rw [show (⟨g, 0, none⟩ : Addr).add i = ⟨g, i, none⟩ by unfold Addr.add; split <;> simp_all] at this
    exact this

theorem take_mem {ks : List Nat} {m : Nat} (hm : m < ks.length) (k : Nat) : k ∈ ks.take (m + 1) ↔ k ∈ ks.take m ∨ k = ks[m] := by
  rw [List.take_succ_eq_append_getElem hm, List.mem_append, List.mem_singleton]

theorem newF_take (s : Nat → Int) (r : List (List Op5)) {j : Nat} (hj : j < r.length) (k : Nat) : newF s (r.take (j + 1)) k = newF s (r.take j) k ++ (if storesF r[j] k then [⟨(j : Int), true, false, 0⟩] else []) := by
  unfold newF
  rw [List.take_succ_eq_append_getElem hj, slotsF_append, List.length_take, Nat.min_eq_left (by omega)]
  simp only [slotsF, Nat.zero_add, List.cons_append]
theorem newF_length (s : Nat → Int) (r : List (List Op5)) (j k : Nat) : (newF s (r.take j) k).length ≤ j + 1 := by
  have := slotsF_length k 0 (r.take j)
  rw [List.length_take] at this
  simp only [newF, List.length_cons]; omega
/-- The table while the slots of deed j are laid. -/
def midF (s : Nat → Int) (r : List (List Op5)) (j m : Nat) (ks : List Nat) : Nat → List Slot4 := fun k => newF s (r.take j) k ++ (if k ∈ ks.take m then [⟨(j : Int), true, false, 0⟩] else [])
theorem midF_step {s : Nat → Int} {r : List (List Op5)} {j m : Nat} {ks : List Nat} (hm : m < ks.length) (hn : ks.Nodup) : putT (midF s r j m ks) ks[m] (midF s r j m ks ks[m] ++ [⟨(j : Int), true, false, 0⟩]) = midF s r j (m + 1) ks := by
  have hno : ¬ ks[m] ∈ ks.take m := fun h => by
    obtain ⟨i, hi, e⟩ := List.mem_iff_getElem.1 h
    rw [List.length_take] at hi
    rw [List.getElem_take] at e
    have := (List.nodup_iff_pairwise_ne.1 hn)
    exact List.pairwise_iff_getElem.1 this i m (by omega) hm (by omega) e
  funext k
  unfold putT
  by_cases e : k = ks[m]
  · subst e
    rw [if_pos rfl]
    unfold midF
    rw [if_neg hno, if_pos ((take_mem hm _).2 (.inr rfl))]
    simp
  · rw [if_neg e]
    unfold midF
    congr 1
    by_cases h : k ∈ ks.take m
    · rw [if_pos h, if_pos ((take_mem hm k).2 (.inl h))]
    · rw [if_neg h, if_neg (fun h' => by rcases (take_mem hm k).1 h' with h' | h'; exact h h'; exact e h')]
theorem midF_length {s : Nat → Int} {r : List (List Op5)} {j m : Nat} {ks : List Nat} (hm : m < ks.length) (hn : ks.Nodup) : (midF s r j m ks ks[m]).length ≤ j + 1 := by
  have hno : ¬ ks[m] ∈ ks.take m := fun h => by
    obtain ⟨i, hi, e⟩ := List.mem_iff_getElem.1 h
    rw [List.length_take] at hi
    rw [List.getElem_take] at e
    have := (List.nodup_iff_pairwise_ne.1 hn)
    exact List.pairwise_iff_getElem.1 this i m (by omega) hm (by omega) e
  unfold midF
  rw [if_neg hno]
  simpa using newF_length s r j ks[m]
theorem keysF_nodup (d : List Op5) : (keysF d).Nodup := (List.filter_sublist).nodup List.nodup_range
theorem keysF_lt {d : List Op5} {k : Nat} (h : k ∈ keysF d) : k < 10 := by
  have := (List.mem_filter.1 h).1; simpa using this
theorem midF_done {s : Nat → Int} {r : List (List Op5)} {j : Nat} (hj : j < r.length) : ∀ k, k < 10 → midF s r j (keysF r[j]).length (keysF r[j]) k = newF s (r.take (j + 1)) k := fun k hk => by
  rw [newF_take s r hj, midF, List.take_length]
  congr 1
  by_cases h : storesF r[j] k = true
  · rw [if_pos h, if_pos (show k ∈ keysF r[j] from List.mem_filter.2 ⟨by simpa using hk, h⟩)]
  · rw [if_neg h, if_neg (fun h' : k ∈ keysF r[j] => h (List.mem_filter.1 h').2)]
/-- The table while the slots of what keys had are laid. -/
def baseF (s : Nat → Int) (j : Nat) : Nat → List Slot4 := fun k => if k < j then [⟨-1, false, false, s k⟩] else []
theorem baseF_step (s : Nat → Int) (j : Nat) : putT (baseF s j) j (baseF s j j ++ [⟨-1, false, false, s j⟩]) = baseF s (j + 1) := by
  funext k
  unfold putT baseF
  by_cases e : k = j
  · subst e; simp
  · rw [if_neg e]
    by_cases h : k < j
    · rw [if_pos h, if_pos (by omega)]
    · rw [if_neg h, if_neg (by omega)]

set_option maxRecDepth 100000 in
set_option maxHeartbeats 1000000 in
theorem new_good (v : Value) (r : List (List Op5)) (s : Nat → Int) (w : World) (hr : RoundAt w v r) (hf : Fits r) (h0 : roundF r = 0) (hL : Lim w) :
    Calls Tryd.prog 31 #[stV s, v] w fun e w' => ∃ B, e = .returned (.tuple #[.pointer (some ⟨B, 0, none⟩), .int .i64 0]) ∧ w.heap.size ≤ B ∧ TabAt w' B (newF s r) ∧ Below w.heap.size w w' := by
  have hrd := fun w' hr' hL' => round_any v r w' hr' hf hL'
  rw [h0] at hrd
  show Calls Tryd.prog 31 #[.agg #[.int .i64 (s 0), .int .i64 (s 1), .int .i64 (s 2), .int .i64 (s 3), .int .i64 (s 4), .int .i64 (s 5), .int .i64 (s 6), .int .i64 (s 7), .int .i64 (s 8), .int .i64 (s 9)], _] w _
  have hB0 : Below w.heap.size w (w.alloc (.cells #[.int .i64 (s 0), .int .i64 (s 1), .int .i64 (s 2), .int .i64 (s 3), .int .i64 (s 4), .int .i64 (s 5), .int .i64 (s 6), .int .i64 (s 7), .int .i64 (s 8), .int .i64 (s 9)] 38)) := (Below.refl _ _).alloc (Nat.le_refl _) _
  have hX0 := box_new w s
  obtain ⟨hr8, hck⟩ := roundF_zero.1 h0
  have HR := hr
  obtain ⟨a, cap, rfl, hr⟩ := hr
  clear h0
  go_enter Tryd.func31, Tryd.ntmps31
  go_wp2_with fail
  refine (hrd _ (HR.later hB0) (hL.later hB0)).mono ?_
  rintro e w1 ⟨rfl, hb1⟩
  have hB1 : Below w.heap.size w w1 := hB0.trans (hb1.mono (by simp))
  have hX1 := hX0.later hb1
  obtain ⟨k0, k1, k2, k3, k4, k5, k6, k7, k8, k9⟩ := hX1.ten
  have hz1 : w.heap.size < w1.heap.size := World.block_lt_of_cell? w1 _ k0
  clear hB0 hb1 hX0 hrd
  have hzv := zero_run
  have hzs := zero_size
  have hzn := zero_ne
  go_wp2_with fail
  clear hzv hzs hzn
  obtain ⟨W, eW⟩ : ∃ W, W = w1.alloc (.cells Tryd.zeroCells109 109) := ⟨_, rfl⟩
  obtain ⟨B, eB⟩ : ∃ B, B = w1.heap.size := ⟨_, rfl⟩
  have hW : TabAt W B (baseF s 0) ∧ Room W B := by rw [eW, eB]; exact tab_new w1
  have hBW : Below w.heap.size w W := by rw [eW]; exact hB1.alloc hB1.size _
  have hB : w.heap.size ≤ B := by omega
  rw [← eW, ← eB]
  clear eW eB hX1 k0 k1 k2 k3 k4 k5 k6 k7 k8 k9 hz1 hB1
  go_loopg [21] 10 (fun g i wr => ∃ j : Nat, j ≤ 10 ∧ g = 10 - j ∧ i = .int .i64 j ∧ TabAt wr B (baseF s j) ∧ Room wr B ∧ Below w.heap.size w wr)
  case atStart => exact ⟨0, by omega, by omega, rfl, hW.1, hW.2, hBW⟩
  case round =>
    obtain ⟨j, hj, hg, rfl, hT, hR, hBl⟩ := hrel
    by_cases hlt : j < 10
    · have hix := index_int s wr j hlt
      have hji : (j : Int) < 10 := by omega
      have hadd := add_tab B j hlt (baseF s j) ⟨-1, false, false, s j⟩ wr hT hR (by simp [baseF])
      rw [baseF_step] at hadd
      dsimp only at hadd
      go_wp2_with fail
      refine hadd.mono ?_
      clear hadd
      rintro e w2 ⟨⟨u, rfl⟩, hT2, hR2, hg2⟩
      have hBl2 : Below w.heap.size w w2 := hBl.grown hg2 hBl.size (fun q hq => by cases hq; exact hB)
      clear hT hR hg2 hix
      go_wp2_with fail
      go_roundg (10 - (j + 1))
      case measure => omega
      case rel => exact ⟨j + 1, by omega, rfl, by go_num, hT2, hR2, hBl2⟩
    · obtain rfl : j = 10 := by omega
      have hT0 : TabAt wr B (newF s (r.take 0)) := hT.congr fun k hk => by simp [baseF, newF, slotsF, hk]
      clear hT hW hBW
      go_wp2_with fail
      go_loopg [36] r.length (fun g i wr => ∃ j : Nat, j ≤ r.length ∧ g = r.length - j ∧ i = .int .i64 j ∧ TabAt wr B (newF s (r.take j)) ∧ Room wr B ∧ Below w.heap.size w wr)
      case atStart => exact ⟨0, by omega, by omega, rfl, hT0, hR, hBl⟩
      case round =>
        clear hT0 hR hBl
        obtain ⟨j, hj, hg, rfl, hT, hR, hBl⟩ := hrel
        by_cases hlt : j < r.length
        · obtain ⟨b, off, rfl, dv, c0, hD⟩ := hr j hlt
          replace c0 := cell_later hBl c0
          replace hD := hD.later hBl
          have hc14 : r[j].length ≤ 14 := by
            have h := hck _ (List.getElem_mem hlt)
            unfold checkF at h
            split at h
            · exact absurd h (by decide)
            · omega
          have hkeys := keys_any dv r[j] wr hD hc14
          obtain ⟨ks, hks⟩ : ∃ ks, ks = keysF r[j] := ⟨_, rfl⟩
          have hdone : Hid (∀ k, k < 10 → midF s r j ks.length ks k = newF s (r.take (j + 1)) k) := by
            show ∀ k, _
            rw [hks]; exact midF_done hlt
          have hnd : ks.Nodup := by rw [hks]; exact keysF_nodup _
          have hk10 : ∀ i (h : i < ks.length), ks[i] < 10 := fun i h => keysF_lt (d := r[j]) (by rw [← hks]; exact List.getElem_mem h)
          have hkl : ks.length ≤ 10 := by
            rw [hks, keysF]
            have := List.length_filter_le (storesF r[j]) (List.range 10)
            simpa using this
          rw [← hks] at hkeys
          clear hks hr hD
          have hBz := hT.lt
          go_wp2_with fail
          refine hkeys.mono ?_
          clear hkeys
          rintro e w2 ⟨⟨u, rfl, hown⟩, hb2⟩
          have hK : KeysAt w2 B u ks := keysAt_of_owns hown hBz
          have hT2 : TabAt w2 B (midF s r j 0 ks) := (hT.later hb2).congr fun k hk => by simp [midF]
          have hR2 := hR.later hb2
          have hBl2 : Below w.heap.size w w2 := hBl.trans (hb2.mono hBl.size)
          clear hT hR hBl hb2 hown c0
          obtain ⟨ua, ucap, rfl, hcell⟩ := hK
          have hK : KeysAt w2 B (.slice ua ks.length ucap) ks := ⟨ua, ucap, rfl, hcell⟩
          clear hcell
          go_wp2_with fail
          go_loopg [44] ks.length (fun g i wr => ∃ m : Nat, m ≤ ks.length ∧ g = ks.length - m ∧ i = .int .i64 m ∧ KeysAt wr B (.slice ua ks.length ucap) ks ∧ TabAt wr B (midF s r j m ks) ∧ Room wr B ∧ Below w.heap.size w wr)
          case atStart => exact ⟨0, by omega, by omega, rfl, hK, hT2, hR2, hBl2⟩
          case round =>
            clear hK hT2 hR2 hBl2
            obtain ⟨m, hm, hg', rfl, hK, hT, hR, hBl⟩ := hrel
            by_cases hml : m < ks.length
            · obtain ⟨ua', ucap', e1, hcell⟩ := hK
              obtain ⟨gg, hgB, e2, hcm⟩ := hcell m hml
              cases e1
              subst e2
              have hK : Hid (KeysAt wr B (.slice (some ⟨gg, 0, none⟩) ks.length ucap) ks) := ⟨_, ucap, rfl, hcell⟩
              have hkm := hk10 m hml
              have hlen := midF_length (s := s) (r := r) (j := j) hml hnd
              have hadd := add_tab B ks[m] hkm (midF s r j m ks) ⟨(j : Int), true, false, 0⟩ wr hT hR (by omega)
              rw [midF_step hml hnd] at hadd
              dsimp only at hadd
              have hki : (ks[m] : Int) < 10 := by omega
              clear hcell hlen
              go_wp2_with fail
              refine hadd.mono ?_
              clear hadd
              rintro e w3 ⟨⟨u, rfl⟩, hT3, hR3, hg3⟩
              have hBl3 : Below w.heap.size w w3 := hBl.grown hg3 hBl.size (fun q hq => by cases hq; exact hB)
              have hK3 : Hid _ := hK.out.kept hg3
              clear hT hR hg3 hcm hK
              go_wp2_with fail
              go_roundg (ks.length - (m + 1))
              case measure => omega
              case rel => exact ⟨m + 1, by omega, rfl, by go_num, hK3.out, hT3, hR3, hBl3⟩
            · obtain rfl : m = ks.length := by omega
              have hT' : TabAt wr B (newF s (r.take (j + 1))) := hT.congr hdone.out
              clear hT hK
              go_wp2_with fail
              go_roundg (r.length - (j + 1))
              case measure => omega
              case rel => exact ⟨j + 1, by omega, rfl, by go_num, hT', hR, hBl⟩
        · obtain rfl : j = r.length := by omega
          rw [List.take_length] at hT
          clear hr
          go_wp2_with fail
          exact bodyPost_ret (v := .tuple #[.pointer (some ⟨B, 0, none⟩), .int .i64 0]) (by simp [results, Tryd.results31, go_sem]) rfl ⟨B, rfl, hB, hT, hBl⟩
end Go.Proofs.YthlhbmldfjkagaaDoor
