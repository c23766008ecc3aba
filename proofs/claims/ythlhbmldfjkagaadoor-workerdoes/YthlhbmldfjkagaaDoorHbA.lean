/-
  The walks of the reference's Board.Before and Board.Over.
-/
import Derived.Test.YthlhbmldfjkagaaDoorBoardA
import Derived.Test.YthlhbmldfjkagaaDoorSlotsA
import Derived.Test.YthlhbmldfjkagaaDoorTabE
namespace Go.Proofs.YthlhbmldfjkagaaDoor
open Go.RowKit Go.Shelf

def beF (b : Int) (acc : Int × Int) (t : Slot4) : Int × Int := if aheadP b t then (if t.op then (0, t.b) else (t.n, -1)) else acc
theorem before_fold0 (b : Int) : ∀ (l : List Slot4) (z : Int × Int), (match lastF (aheadP b) l with | none => z | some i => if (slotAt l i).op then (0, (slotAt l i).b) else ((slotAt l i).n, -1)) = l.foldl (beF b) z
  | [], z => rfl
  | t :: l, z => by
    have ih := before_fold0 b l (beF b z t)
    rw [List.foldl_cons, ← ih]
    simp only [lastF]
    cases h : lastF (aheadP b) l with
    | none =>
      by_cases ht : aheadP b t = true
      · simp [ht, slotAt, beF]
      · simp [ht, beF]
    | some i => simp [slotAt]; rfl
theorem before_fold (l : List Slot4) (b : Int) : beforeF l b = l.foldl (beF b) (0, -1) := by
  rw [← before_fold0 b l (0, -1)]
  unfold beforeF
  cases lastF (aheadP b) l <;> rfl
theorem fold_next {α : Type} (f : α → Slot4 → α) (z : α) {l : List Slot4} {j : Nat} (h : j < l.length) : (l.take (j + 1)).foldl f z = f ((l.take j).foldl f z) (slotAt l j) := by
  rw [List.take_succ_eq_append_getElem h, List.foldl_append, slotAt_get h]; rfl

theorem isKeyB (k : Nat) (hk : k < 10) (w : World) : Calls Tryd.prog 29 #[.int .i64 (k : Int)] w fun e w' => e = .returned (.bool true) ∧ w' = w := by
  have hki : (k : Int) < 10 := by omega
  go_enter Tryd.func29, Tryd.ntmps29
  go_wp2_with fail
  go_ret
  exact ⟨rfl, rfl⟩

/-- What is read of a board. -/
theorem BoardAt.slots {w : World} {N D : Nat} {T : Nat → List Slot4} {V : Nat → Value} (h : BoardAt w N D T V) {k : Nat} (hk : k < 10) : SlotsAt w (V k) (T k) := slotsAt_of_owns (h.own k hk)

set_option maxRecDepth 100000 in
set_option maxHeartbeats 1000000 in
theorem beforeB_any (N D k : Nat) (hk : k < 10) (b : Int) (T : Nat → List Slot4) (V : Nat → Value) (w : World) (h : BoardAt w N D T V) (h9 : (T k).length ≤ 9) :
    Calls Tryd.prog 34 #[.pointer (some ⟨D, 0, none⟩), .int .i64 (k : Int), .int .i64 b] w fun e w' => e = .returned (.tuple #[.int .i64 (beforeF (T k) b).1, .int .i64 (beforeF (T k) b).2]) ∧ Below w.heap.size w w' := by
  have hki : (k : Int) < 10 := by omega
  have HC : Hid (∀ w', Below w.heap.size w w' → w'.cell? ⟨D, k, none⟩ = some (V k)) := fun w' hb => cell_later hb (h.cell k hk)
  have HS := h.slots hk
  have hF : Hid (beforeF (T k) b = (T k).foldl (beF b) (0, -1)) := before_fold _ _
  obtain ⟨a, cap, ev, hs⟩ := HS
  rw [ev] at HC
  clear h ev
  generalize T k = L at *
  go_enter Tryd.func34, Tryd.ntmps34
  go_wp2_with (go_at_call 29; refine (isKeyB k hk _).mono ?_; rintro e w1 ⟨rfl, hw1⟩; rw [hw1]; clear hw1)
  go_loopg [8, 9, 10] L.length (fun g n who i wr => ∃ (j : Nat) (p q : Int), j ≤ L.length ∧ g = L.length - j ∧ i = .int .i64 j ∧ n = .int .i64 p ∧ who = .int .i64 q ∧ Hid ((L.take j).foldl (beF b) (0, -1) = (p, q)) ∧ Below w.heap.size w wr)
  case atStart => exact ⟨0, 0, -1, by omega, by omega, rfl, rfl, rfl, rfl, Below.refl _ _⟩
  case round =>
    obtain ⟨j, p, q, hj, hg, rfl, rfl, rfl, hp, hB⟩ := hrel
    have c := HC.out wr hB
    have hDz : D < wr.heap.size := World.block_lt_of_cell? wr _ c
    by_cases hlt : j < L.length
    · obtain ⟨sb, off, rfl, d0, d1, d2, d3⟩ := hs j hlt
      replace d0 := cell_later hB d0
      replace d1 := cell_later hB d1
      replace d2 := cell_later hB d2
      replace d3 := cell_later hB d3
      have hji : (j : Int) < (L.length : Int) := by omega
      have hn : Hid ((L.take (j + 1)).foldl (beF b) (0, -1) = beF b (p, q) (slotAt L j)) := by show _ = _; rw [fold_next _ _ hlt, hp.out]
      have hbe : Hid (beF b (p, q) (slotAt L j) = if aheadP b (slotAt L j) then (if (slotAt L j).op then (0, (slotAt L j).b) else ((slotAt L j).n, -1)) else (p, q)) := rfl
      have hap : Hid (aheadP b (slotAt L j) = (decide ((slotAt L j).b < b) && !(slotAt L j).vo)) := rfl
      clear hs hp
      generalize slotAt L j = t at *
      obtain ⟨tb, top, tvo, tn⟩ := t
      dsimp only at d0 d1 d2 d3 hbe hap
      by_cases hb : tb < b
      · cases tvo
        · cases top
          · go_wp2_with fail
            go_roundg (L.length - (j + 1))
            case measure => omega
            case rel => exact ⟨j + 1, tn, -1, by omega, rfl, by go_num, rfl, rfl, by show _ = _; rw [hn.out, hbe.out, hap.out]; simp [hb], hB.alloc hB.size _⟩
          · go_wp2_with fail
            go_quiet (fail)
            go_wp2_with fail
            go_roundg (L.length - (j + 1))
            case measure => omega
            case rel => exact ⟨j + 1, 0, tb, by omega, rfl, by go_num, rfl, rfl, by show _ = _; rw [hn.out, hbe.out, hap.out]; simp [hb], drewN_below (hB.alloc hB.size _) _⟩
        · go_wp2_with fail
          go_roundg (L.length - (j + 1))
          case measure => omega
          case rel => exact ⟨j + 1, p, q, by omega, rfl, by go_num, rfl, rfl, by show _ = _; rw [hn.out, hbe.out, hap.out]; simp, hB.alloc hB.size _⟩
      · have HB : Hid (aheadP b ⟨tb, top, tvo, tn⟩ = false) := by show _ = _; unfold aheadP; simp; intro h'; omega
        go_wp2_with fail
        go_roundg (L.length - (j + 1))
        case measure => omega
        case rel => exact ⟨j + 1, p, q, by omega, rfl, by go_num, rfl, rfl, by show _ = _; rw [hn.out, hbe.out, HB.out]; rfl, hB.alloc hB.size _⟩
    · obtain rfl : j = L.length := by omega
      have hpq : Hid (beforeF L b = (p, q)) := by show _ = _; rw [hF.out, ← hp.out, List.take_length]
      clear hs hp
      go_wp2_with fail
      exact bodyPost_ret (v := .tuple #[.int .i64 p, .int .i64 q]) (by simp [results, Tryd.results34, go_sem]) rfl ⟨ret_two hpq.out, hB⟩

set_option maxRecDepth 100000 in
set_option maxHeartbeats 1000000 in
theorem overB_any (N D : Nat) (T : Nat → List Slot4) (V : Nat → Value) (w : World) (h : BoardAt w N D T V) (h9 : ∀ k, k < 10 → (T k).length ≤ 9) :
    Calls Tryd.prog 36 #[.pointer (some ⟨D, 0, none⟩)] w fun e w' => e = .returned (.bool (overF T)) ∧ w' = w := by
  go_enter Tryd.func36, Tryd.ntmps36
  go_wp2_with fail
  go_loopg [3] 10 (fun g i wr => ∃ j : Nat, j ≤ 10 ∧ g = 10 - j ∧ i = .int .i64 j ∧ Hid (∀ k, k < j → ∀ t ∈ T k, t.op = false) ∧ wr = w)
  case atStart => exact ⟨0, by omega, by omega, rfl, fun k hk => by omega, rfl⟩
  case round =>
    obtain ⟨j, hj, hg, rfl, hF, rfl⟩ := hrel
    by_cases hlt : j < 10
    · have hji : (j : Int) < 10 := by omega
      have c := h.cell j hlt
      obtain ⟨a, cap, ev, hs⟩ := h.slots hlt
      have hl9 := h9 j hlt
      rw [ev] at c
      clear ev
      obtain ⟨L, eL'⟩ : ∃ L, L = T j := ⟨_, rfl⟩
      rw [← eL'] at c hs hl9
      have eL : Hid (L = T j) := eL'
      clear eL'
      go_wp2_with fail
      go_loopg [4] L.length (fun g i wq => ∃ m : Nat, m ≤ L.length ∧ g = L.length - m ∧ i = .int .i64 m ∧ Hid (∀ q, q < m → (slotAt L q).op = false) ∧ wq = wr)
      case atStart => exact ⟨0, by omega, by omega, rfl, fun q hq => by omega, rfl⟩
      case round =>
        obtain ⟨m, hm, hg2, rfl, hM, rfl⟩ := hrel
        by_cases hml : m < L.length
        · obtain ⟨sb, off, rfl, -, d1, -, -⟩ := hs m hml
          have hmi : (m : Int) < (L.length : Int) := by omega
          cases hop : (slotAt L m).op with
          | true =>
            rw [hop] at d1
            have hn : Hid (overF T = false) := by
              show _ = _
              cases ho : overF T with
              | false => rfl
              | true =>
                have := lastF_none.1 (overF_true.1 ho j hlt) (slotAt L m) (by rw [slotAt_get hml, ← eL.out]; exact List.getElem_mem _)
                simp [stillP, hop] at this
            clear hs hop
            go_wp2_with fail
            go_ret
            exact ⟨ret_bool' hn.out.symm, rfl⟩
          | false =>
            rw [hop] at d1
            have hM' : Hid (∀ q, q < m + 1 → (slotAt L q).op = false) := fun q hq => by
              by_cases e : q = m
              · rw [e]; exact hop
              · exact hM.out q (by omega)
            clear hs hM hop
            go_wp2_with fail
            go_roundg (L.length - (m + 1))
            case measure => omega
            case rel => exact ⟨m + 1, by omega, rfl, by go_num, hM', rfl⟩
        · obtain rfl : m = L.length := by omega
          have hF' : Hid (∀ k, k < j + 1 → ∀ t ∈ T k, t.op = false) := fun k hk t ht => by
            by_cases e : k = j
            · subst e
              rw [← eL.out] at ht
              obtain ⟨q, hq, rfl⟩ := List.mem_iff_getElem.1 ht
              rw [← slotAt_get hq]; exact hM.out q hq
            · exact hF.out k (by omega) t ht
          clear hs hM hF
          go_wp2_with fail
          go_roundg (10 - (j + 1))
          case measure => omega
          case rel => exact ⟨j + 1, by omega, rfl, by go_num, hF', rfl⟩
    · obtain rfl : j = 10 := by omega
      have ho : Hid (overF T = true) := overF_true.2 fun k hk => lastF_none.2 fun t ht => by simp [stillP, hF.out k hk t ht]
      clear hF
      go_wp2_with fail
      go_ret
      exact ⟨ret_bool' ho.out.symm, rfl⟩
end Go.Proofs.YthlhbmldfjkagaaDoor
