/-
  The walks of a round's Finish, of around and follow; what a round is in the end.
-/
import Derived.Test.YtihfjmdjjeciiacDoorRndCJ
namespace Go.Proofs.YtihfjmdjjeciiacDoor
open Go.RowKit Go.Shelf

/-- One all ahead of which are over is picked. -/
theorem RdIn.first {w : World} {c : Nat → Nat} {N E B : Nat} {vW : Value} {C : Nat → Nat} {U : Nat → Value} {s : Nat → Int} {r : List (List Op5)} {X : Nat → Wk} {T : Nat → List Slot4} (h : RdIn w c N E B vW C U s r X T) {i : Nat} (hi : i < r.length) (ha : ∀ q, q < i → (X q).over = true) :
    Calls Tryd.prog 93 #[.pointer (some ⟨E, 0, none⟩), .int .i64 (i : Int)] w fun e w' => ∃ (x y : Int) (X' : Nat → Wk) (T' : Nat → List Slot4), e = .returned (.tuple #[.int .i64 x, .int .i64 y]) ∧ RdIn w' c N E B vW C U s r X' T' ∧ Grew (crewS B C r.length) w w' ∧ Hid (∀ q, q < i → (X' q).over = true) ∧ Hid ((x = 1 ∧ (X' i).over = false ∧ todoW r[i] (X' i) < todoW r[i] (X i) ∧ (X i).over = false) ∨ (x = 3 ∧ (X' i).over = true)) ∧ Hid (((X i).over = false → todoF r X' r.length < todoF r X r.length)) := by
  refine (pick_in h hi).mono ?_
  rintro e w' ⟨rfl, h2, hg⟩
  have hput : ∀ y, putW X i y i = y := fun y => by unfold putW; rw [if_pos rfl]
  refine ⟨_, _, _, _, rfl, h2, hg, fun q hq => ?_, ?_, fun ho => ?_⟩
  · show (putW X i _ q).over = true
    unfold putW; rw [if_neg (by omega)]; exact ha q hq
  · show _ ∨ _
    rw [hput]
    cases ho : (X i).over with
    | true => rw [stepW_over ho]; exact .inr ⟨rfl, ho⟩
    | false =>
      obtain ⟨h3, h4⟩ := h.ord.goes h.ck hi ha ho
      rcases h3 with ⟨e1, e2⟩ | ⟨e1, e2⟩
      · exact .inl ⟨e1, e2, h4, rfl⟩
      · exact .inr ⟨e1, e2⟩
  · obtain ⟨-, h4⟩ := h.ord.goes h.ck hi ha ho
    have := (todo_put r X i (stepW T r[i] (i : Int) (X i)).x r.length).2 hi
    rw [List.getElem?_eq_getElem hi] at this
    simp only [Option.getD_some] at this
    omega

section
variable {w : World} {c : Nat → Nat} {N E B : Nat} {vW : Value} {C : Nat → Nat} {U : Nat → Value} {s : Nat → Int} {r : List (List Op5)} {X : Nat → Wk} {T : Nat → List Slot4}

set_option maxHeartbeats 1000000 in
theorem finish_any (h : RdIn w c N E B vW C U s r X T) :
    Calls Tryd.prog 82 #[.pointer (some ⟨E, 0, none⟩)] w fun e w' => e = .returned (.tuple #[]) ∧ ∃ (X' : Nat → Wk) (T' : Nat → List Slot4), RdIn w' c N E B vW C U s r X' T' ∧ Grew (crewS B C r.length) w w' ∧ ∀ q, q < r.length → (X' q).over = true := by
  have h8 := h.le
  obtain ⟨va, cap, rfl, -⟩ := h.at'.row
  have q1 := h.at'.fw
  go_enter Tryd.func82, Tryd.ntmps82
  go_wp2_with fail
  go_loopg [9] r.length (fun g i wr => ∃ (j : Nat) (X' : Nat → Wk) (T' : Nat → List Slot4), j ≤ r.length ∧ g = r.length - j ∧ i = .int .i64 j ∧ RdIn wr c N E B (.slice va r.length cap) C U s r X' T' ∧ Hid (∀ q, q < j → (X' q).over = true) ∧ Grew (crewS B C r.length) w wr)
  case atStart => exact ⟨0, X, T, by omega, by omega, rfl, h, fun q hq => by omega, Grew.refl _ _⟩
  case round =>
    clear h q1
    obtain ⟨j, X1, T1, hj, hg, rfl, h, ha, hG⟩ := hrel
    by_cases hlt : j < r.length
    · have hji : (j : Int) < (r.length : Int) := by omega
      go_wp2_with fail
      go_loopg [3] (todoW r[j] (X1 j) + 1) (fun g v wq => ∃ (x : Int) (X' : Nat → Wk) (T' : Nat → List Slot4), v = .int .i64 x ∧ RdIn wq c N E B (.slice va r.length cap) C U s r X' T' ∧ Hid (∀ q, q < j → (X' q).over = true) ∧ Grew (crewS B C r.length) w wq ∧ ((x = 1 ∧ g = todoW r[j] (X' j) + 1) ∨ (x = 3 ∧ (X' j).over = true)))
      case atStart => exact ⟨1, X1, T1, rfl, h, ha, hG, .inl ⟨rfl, rfl⟩⟩
      case round =>
        clear h ha hG
        obtain ⟨x, X2, T2, rfl, h, ha, hG, ⟨rfl, hg2⟩ | ⟨rfl, ho⟩⟩ := hrel
        · have hp := h.first hlt ha.out
          have hg3 : Hid (todoW r[j] (X2 j) + 1 = todoW r[j] (X2 j) + 1) := rfl
          go_wp2_with fail
          refine hp.mono ?_
          clear hp
          rintro e w1 ⟨x, y, X3, T3, rfl, h3, hg1, ha3, hx, -⟩
          have hG3 := hG.trans hg1
          clear h ha hG hg1
          go_wp2_with fail
          go_roundg (if x = 1 then todoW r[j] (X3 j) + 1 else 0)
          case measure =>
            rw [hg2]
            rcases hx.out with ⟨e1, -, e2, -⟩ | ⟨e1, -⟩
            · rw [if_pos e1]; omega
            · rw [if_neg (by omega)]; omega
          case rel =>
            refine ⟨x, X3, T3, rfl, h3, ha3, hG3, ?_⟩
            rcases hx.out with ⟨e1, -, -, -⟩ | ⟨e1, e2⟩
            · exact .inl ⟨e1, by rw [if_pos e1]⟩
            · exact .inr ⟨e1, e2⟩
        · have ha' : Hid (∀ q, q < j + 1 → (X2 q).over = true) := fun q hq => by
            by_cases e : q = j
            · rw [e]; exact ho
            · exact ha.out q (by omega)
          clear ha ho
          go_wp2_with fail
          go_roundg (r.length - (j + 1))
          case measure => omega
          case rel => exact ⟨j + 1, X2, T2, by omega, rfl, by go_num, h, ha', hG⟩
    · obtain rfl : j = r.length := by omega
      go_wp2_with fail
      go_end0
      exact ⟨rfl, X1, T1, h, hG, ha.out⟩

/-- A pick, counted round. -/
theorem around_any (p : Int) (n : Nat) (hn : n ≤ 8) (w : World) : Calls Tryd.prog 94 #[.int .i64 p, .int .i64 (n : Int)] w fun e w' => (∃ b : Int, e = .returned (.int .i64 b)) ∧ w' = w := by
  by_cases h0 : n = 0
  · have t0 : ((n : Int) == 0) = true := by simp [h0]
    clear h0
    go_enter Tryd.func94, Tryd.ntmps94
    go_wp2_with fail
    go_ret
    exact ⟨⟨_, rfl⟩, rfl⟩
  · have t0 : ((n : Int) == 0) = false := by rw [beq_eq_false_iff_ne]; omega
    have tn : (n : Int) ≠ 0 := by omega
    clear h0
    go_enter Tryd.func94, Tryd.ntmps94
    go_wp2_with fail
    go_ret
    exact ⟨⟨_, rfl⟩, rfl⟩

set_option maxHeartbeats 1000000 in
theorem follow_any (h : RdIn w c N E B vW C U s r X T) {a : Option Addr} {cap : Nat} {l : List Int} (hl : NumsAt w (.slice a l.length cap) l) (hN : ∀ b off i, a = some ⟨b, off, none⟩ → i < l.length → b < N) (hmax : l.length ≤ 9223372036854775807) :
    Calls Tryd.prog 81 #[.pointer (some ⟨E, 0, none⟩), .slice a l.length cap] w fun e w' => e = .returned (.tuple #[]) ∧ ∃ (X' : Nat → Wk) (T' : Nat → List Slot4), RdIn w' c N E B vW C U s r X' T' ∧ Grew (crewS B C r.length) w w' := by
  have h8 := h.le
  obtain ⟨a', cap', e1, hcell⟩ := hl
  cases e1
  have HC : Hid (∀ j (hj : j < l.length), ∃ b off, a = some ⟨b, off, none⟩ ∧ ∀ w', Grew (crewS B C r.length) w w' → w'.cell? ⟨b, off + j, none⟩ = some (.int .i64 l[j])) := fun j hj => by
    obtain ⟨b, off, e, hc⟩ := hcell j hj
    refine ⟨b, off, e, fun w' hg => hg.cell hc fun hS => ?_⟩
    have h1 := hN b off j e hj
    have h2 := h.at'.high hS
    dsimp only at h2
    omega
  clear hcell hN
  go_enter Tryd.func81, Tryd.ntmps81
  go_wp2_with fail
  go_loopg [8] l.length (fun g i wr => ∃ (j : Nat) (X' : Nat → Wk) (T' : Nat → List Slot4), j ≤ l.length ∧ g = l.length - j ∧ i = .int .i64 j ∧ RdIn wr c N E B vW C U s r X' T' ∧ Grew (crewS B C r.length) w wr)
  case atStart => exact ⟨0, X, T, by omega, by omega, rfl, h, Grew.refl _ _⟩
  case round =>
    clear h
    obtain ⟨j, X1, T1, hj, hg, rfl, h, hG⟩ := hrel
    by_cases hlt : j < l.length
    · obtain ⟨b, off, rfl, hc⟩ := HC.out j hlt
      have c0 := hc _ hG
      have hji : (j : Int) < (l.length : Int) := by omega
      have hlen := len_any h
      have hpk := fun b => pick_any h b
      have har := around_any l[j] r.length h8 wr
      generalize l[j] = p at *
      clear hc
      go_wp2_with (first | (go_at_call 95; refine hlen.mono ?_; rintro e w' ⟨rfl, rfl⟩) | (go_at_call 94; refine har.mono ?_; rintro e w' ⟨⟨bb, rfl⟩, rfl⟩) | (go_at_call 93; refine (hpk bb).mono ?_; rintro e w2 ⟨x, y, X3, T3, rfl, h3, hg1⟩))
      have hG3 := hG.trans hg1
      clear hlen hpk har h hG hg1
      go_roundg (l.length - (j + 1))
      case measure => omega
      case rel => exact ⟨j + 1, X3, T3, by omega, rfl, by go_num, h3, hG3⟩
    · obtain rfl : j = l.length := by omega
      go_wp2_with fail
      go_end0
      exact ⟨rfl, X1, T1, h, hG⟩
end

/-- What a round is when all are over. -/
theorem InOrder.noOpen {s : Nat → Int} {r : List (List Op5)} {X : Nat → Wk} {T : Nat → List Slot4} (h : InOrder s r X T) (ha : ∀ q, q < r.length → (X q).over = true) : ∀ k, k < 10 → ∀ t ∈ T k, t.op = false := fun k hk t ht => by
  rw [h.tab k hk] at ht
  rcases List.mem_cons.1 ht with rfl | ht
  · rfl
  · obtain ⟨a, ha', rfl⟩ := List.mem_map.1 ht
    have : a < r.length := by have := (List.mem_filter.1 ha').1; simpa using this
    unfold slW
    rw [if_pos (ha a this)]
    exact (endOf_b _ _ _).2
theorem InOrder.over {s : Nat → Int} {r : List (List Op5)} {X : Nat → Wk} {T : Nat → List Slot4} (h : InOrder s r X T) (ha : ∀ q, q < r.length → (X q).over = true) : overF T = true := by
  unfold overF
  rw [List.all_eq_true]
  intro k hk
  rw [List.all_eq_true]
  intro t ht
  rw [h.noOpen ha k (by simpa using hk) t ht]; rfl
theorem InOrder.known {s : Nat → Int} {r : List (List Op5)} {X : Nat → Wk} {T : Nat → List Slot4} (h : InOrder s r X T) : ∀ k, k < 10 → lastF knownP (T k) ≠ none := fun k hk e => by
  rw [lastF_none, h.tab k hk] at e
  have := e ⟨-1, false, false, s k⟩ (by simp [tabF, slotsW])
  simp [knownP] at this
theorem InOrder.value {s : Nat → Int} {r : List (List Op5)} {X : Nat → Wk} {T : Nat → List Slot4} (h : InOrder s r X T) (hck : ∀ d ∈ r, (checkF d).1 = 0) (ha : ∀ q, q < r.length → (X q).over = true) : ∀ k, k < 10 → valF (T k) = allSt s r k := fun k hk => by
  have hno := h.noOpen ha k hk
  rw [h.tab k hk] at hno ⊢
  have hc : lastF knownP (tabF s r X k) = lastF (fun t => !t.vo) (tabF s r X k) := lastF_congr fun t ht => by simp [knownP, hno t ht]
  have hv := back_value hck h.ends k r.length (Nat.le_refl _)
  rw [List.take_length] at hv
  have hb : backF (slotsW s r X k r.length) = (valF (tabF s r X k), -1) := by
    unfold backF valF
    rw [hc]
    show seenF (tabF s r X k) (lastF (fun t => !t.vo) (tabF s r X k)) = _
    cases e : lastF (fun t => !t.vo) (tabF s r X k) with
    | none =>
      have := lastF_none.1 e ⟨-1, false, false, s k⟩ (by simp [tabF, slotsW])
      simp at this
    | some i =>
      have hi := (lastF_some.1 e).1
      have : (slotAt (tabF s r X k) i).op = false := hno _ (by rw [slotAt_get hi]; exact List.getElem_mem _)
      simp [seenF, this]
  rw [hb] at hv
  exact hv (by simp)
/-- What each deed came to, when all are over. -/
theorem InOrder.came {s : Nat → Int} {r : List (List Op5)} {X : Nat → Wk} {T : Nat → List Slot4} (h : InOrder s r X T) {i : Nat} (hi : i < r.length) (ho : (X i).over = true) : resC (X i) = (outAt s r i).code ∧ ∀ j, resG (X i) j = (outAt s r i).regs j := by
  rw [h.ends i hi ho]
  unfold resC resG
  rw [if_pos ho]
  exact ⟨rfl, fun j => by rw [if_pos ho]⟩
/-- What the first n deeds of a round came to, cell by cell. -/
def outCells (s : Nat → Int) (r : List (List Op5)) : Nat → List Value
  | 0 => []
  | n + 1 => outCells s r n ++ [.int .i64 (outAt s r n).code, .int .i64 ((outAt s r n).regs 0), .int .i64 ((outAt s r n).regs 1), .int .i64 ((outAt s r n).regs 2), .int .i64 ((outAt s r n).regs 3)]
theorem InOrder.cells {s : Nat → Int} {r : List (List Op5)} {X : Nat → Wk} {T : Nat → List Slot4} (h : InOrder s r X T) (ha : ∀ q, q < r.length → (X q).over = true) : ∀ n, n ≤ r.length → resW X n = outCells s r n
  | 0, _ => rfl
  | n + 1, hn => by
    obtain ⟨e1, e2⟩ := h.came (i := n) (by omega) (ha n (by omega))
    simp only [resW, outCells]
    rw [h.cells ha n (by omega), e1, e2, e2, e2, e2]
end Go.Proofs.YtihfjmdjjeciiacDoor
