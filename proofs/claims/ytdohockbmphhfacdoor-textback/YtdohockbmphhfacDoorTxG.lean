/-
  The walk of text.Parse.
-/
import Derived.Test.YtdohockbmphhfacDoorTxF
import Derived.Test.YtdohockbmphhfacDoorWorkG
namespace Go.Proofs.YtdohockbmphhfacDoor
open Go.RowKit

/-! ### Parts, one behind the other -/

/-- Operations ahead of what comes. -/
def prep (os : List Op5) : Nat ⊕ List Op5 → Nat ⊕ List Op5
  | .inl k => .inl k
  | .inr d => .inr (os ++ d)
theorem prep_nil (x : Nat ⊕ List Op5) : prep [] x = x := by cases x <;> rfl
theorem partsF_cons {j : Nat} {ws : List (List UInt8)} {r : List (List (List UInt8))} {o : Op5} (h : opW ws = some o) (os : List Op5) : prep os (partsF j (ws :: r)) = prep (os ++ [o]) (partsF (j + 1) r) := by
  simp only [partsF, h]
  cases partsF (j + 1) r with
  | inl k => rfl
  | inr d => simp [prep]
theorem partsF_bad {j : Nat} {ws : List (List UInt8)} {r : List (List (List UInt8))} (h : opW ws = none) (os : List Op5) : prep os (partsF j (ws :: r)) = .inl j := by
  simp only [partsF, h]; rfl

/-- What is left of a text, and what the parts ahead were. -/
def Left9 (l : List UInt8) (j : Nat) (m : Bool) (rest : List UInt8) (os : List Op5) : Prop :=
  os.length = j ∧ (m = true → rest.length + j ≤ l.length ∧ prep os (partsF j (lex rest)) = partsF 0 (lex l)) ∧ (m = false → partsF 0 (lex l) = .inr os) ∧ j ≤ l.length + 1

theorem Left9.next {l rest : List UInt8} {j : Nat} {os : List Op5} {o : Op5} (h : Left9 l j true rest os) (ho : opW (wordsP (partF1 rest)) = some o) : Left9 l (j + 1) (moreF rest) (restF rest) (os ++ [o]) := by
  obtain ⟨h1, h2, -, h4⟩ := h
  obtain ⟨h2, h3⟩ := h2 rfl
  refine ⟨by simp [h1], fun hm => ?_, fun hm => ?_, by omega⟩
  · have := rest_shorter hm
    refine ⟨by omega, ?_⟩
    rw [← h3, lex_more hm, partsF_cons ho]
  · rw [← h3, lex_last hm, partsF_cons ho]; simp [partsF, prep]
theorem Left9.bad {l rest : List UInt8} {j : Nat} {os : List Op5} (h : Left9 l j true rest os) (hw : wordF l ≠ []) (ho : opW (wordsP (partF1 rest)) = none) : parseF l = ([], (10, (j : Int))) := by
  obtain ⟨-, h2, -, -⟩ := h
  obtain ⟨-, h3⟩ := h2 rfl
  unfold parseF
  rw [if_neg hw, ← h3]
  cases hm : moreF rest with
  | true => rw [lex_more hm, partsF_bad ho]
  | false => rw [lex_last hm, partsF_bad ho]

theorem left_start (l : List UInt8) : Left9 l 0 true l [] := ⟨rfl, fun _ => ⟨Nat.le_refl _, prep_nil _⟩, fun h => Bool.noConfusion h, Nat.zero_le _⟩

theorem check_take (os : List Op5) : checkF (os.take 15) = checkF os := by
  by_cases h : os.length ≤ 15
  · rw [List.take_of_length_le h]
  · unfold checkF
    rw [if_pos (by rw [List.length_take]; omega), if_pos (by omega)]
theorem Left9.check {l rest : List UInt8} {j : Nat} {os : List Op5} (h : Left9 l j false rest os) (hw : wordF l ≠ []) (hc : (checkF (os.take 15)).1 ≠ 0) : parseF l = ([], checkF (os.take 15)) := by
  unfold parseF
  rw [if_neg hw, h.2.2.1 rfl]
  dsimp only
  rw [check_take] at hc ⊢
  rw [if_pos hc]
theorem Left9.good {l rest : List UInt8} {j : Nat} {os : List Op5} (h : Left9 l j false rest os) (hw : wordF l ≠ []) (hc : (checkF (os.take 15)).1 = 0) : parseF l = (os.take 15, (0, 0)) := by
  unfold parseF
  rw [if_neg hw, h.2.2.1 rfl]
  dsimp only
  have := check_few_ops hc
  have h15 : os.take 15 = os := by
    rw [List.length_take] at this
    exact List.take_of_length_le (by omega)
  rw [h15] at hc ⊢
  rw [if_neg (by simp [hc])]

/-! ### A row of operations of the call's own -/

theorem infoOp9 : (Tryd.prog.info? 63).map (fun i => (i.zero, i.size, i.bytes)) = some (some (.agg #[.int .i64 0, .int .i64 0, .int .i64 0, .int .i64 0, .int .i64 0]), 5, 40) := by kernel_rfl

theorem owns_shape {w : World} {base : Nat} {e : TypeId} {size : Nat} {v : Value} {n : Nat} {xs : List Value} (h : w.ownsRow base e size v n xs) : ∃ a cap, v = .slice a n cap := by
  rcases h.2 with ⟨hv, h0⟩ | ⟨g, cap, cur, hv, _⟩
  · subst h0; exact ⟨_, _, hv⟩
  · exact ⟨_, _, hv⟩
theorem owns_deedIn {w : World} {base : Nat} {e : TypeId} {v : Value} {d : List Op5} (h : w.ownsRow base e 5 v d.length (deedCells d)) : DeedIn (fun b => base ≤ b) w v d := by
  obtain ⟨a, cap, rfl⟩ := owns_shape h
  refine ⟨a, cap, rfl, fun i hi => ?_⟩
  obtain ⟨g, cap', e1, hc⟩ := owns_cells h (by omega)
  injection e1 with e1 e2 e3
  subst e1
  have hg := (owns_lt h (g := g) rfl).1
  obtain ⟨d0, d1, d2, d3, d4⟩ := deedCells_at d i hi
  refine ⟨g, 0, hg, rfl, ?_, ?_, ?_, ?_, ?_⟩
  · simpa using hc _ _ d0
  · simpa using hc _ _ d1
  · simpa using hc _ _ d2
  · simpa using hc _ _ d3
  · simpa using hc _ _ d4
theorem DeedIn.set {P : Nat → Prop} {w : World} {v : Value} {d : List Op5} (h : DeedIn P w v d) {c : Nat} (hc : ¬ P c) (i : Nat) (x : Value) : DeedIn P (w.setCell ⟨c, i, none⟩ x) v d := by
  obtain ⟨a, cap, rfl, h⟩ := h
  refine ⟨a, cap, rfl, fun j hj => ?_⟩
  obtain ⟨b, off, hP, rfl, h0, h1, h2, h3, h4⟩ := h j hj
  have hne : c ≠ b := fun e => hc (e ▸ hP)
  refine ⟨b, off, hP, rfl, ?_, ?_, ?_, ?_, ?_⟩
  all_goals (rw [World.cell?_setCell_other _ _ _ _ (fun e => hne (by injection e))]; assumption)
theorem owns_deed {w : World} {base : Nat} {e : TypeId} {v : Value} {d : List Op5} (h : w.ownsRow base e 5 v d.length (deedCells d)) : DeedAt w v d := by
  obtain ⟨a, cap, rfl⟩ := owns_shape h
  refine ⟨a, cap, rfl, fun i hi => ?_⟩
  obtain ⟨g, cap', e1, hc⟩ := owns_cells h (by omega)
  injection e1 with e1 e2 e3
  subst e1
  obtain ⟨d0, d1, d2, d3, d4⟩ := deedCells_at d i hi
  refine ⟨g, 0, rfl, ?_, ?_, ?_, ?_, ?_⟩
  · simpa using hc _ _ d0
  · simpa using hc _ _ d1
  · simpa using hc _ _ d2
  · simpa using hc _ _ d3
  · simpa using hc _ _ d4
theorem deedCells_snoc (d : List Op5) (o : Op5) : deedCells (d ++ [o]) = deedCells d ++ [.int .i64 o.k, .int .i64 o.a, .int .i64 o.b, .int .i64 o.c, .int .i64 o.n] := by
  induction d with
  | nil => rfl
  | cons x d ih => simp [deedCells, ih]

theorem news_new (w : World) (vs : Array Value) (t : TypeId) : ∀ j u, vs.toList[j]? = some u → (w.alloc (.cells vs t)).cell? ((⟨w.heap.size, 0, none⟩ : Addr).add j) = some u := by
  intro j u hu
  obtain ⟨hj, rfl⟩ := List.getElem?_eq_some_iff.1 hu
  rw [addr_add, Nat.zero_add]
  exact (holds_new w vs t).2.1 j hj
theorem retP {v : Value} {a b : Int} {p : List Op5 × (Int × Int)} {d : List Op5} (h : p = (d, (a, b))) : Ending.returned (.tuple #[v, .agg #[.int .i64 a, .int .i64 b]]) = .returned (.tuple #[v, .agg #[.int .i64 p.2.1, .int .i64 p.2.2]]) := by rw [h]
theorem deedAt_nil (w : World) : DeedAt w (.slice none 0 0) [] := ⟨none, 0, rfl, fun i h => by simp at h⟩

/-- What Parse answers. -/
def OutP (l : List UInt8) (w : World) (e : Ending) (w' : World) : Prop := ∃ v, e = .returned (.tuple #[v, .agg #[.int .i64 (parseF l).2.1, .int .i64 (parseF l).2.2]]) ∧ DeedAt w' v (parseF l).1 ∧ Below w.heap.size w w'

set_option maxRecDepth 100000 in
set_option maxHeartbeats 4000000 in
theorem parse_any (l : List UInt8) (w : World) (hl : l.length ≤ 281474976710656) (hE : Env w) :
    Calls Tryd.prog 50 #[.string (strB l)] w (OutP l w) := by
  obtain ⟨i0, hi, hz0, hz1, hz2⟩ := info_parts infoOp9
  go_enter Tryd.func50, Tryd.ntmps50
  go_wp2_with fail
  refine (cutW_any l _ (by omega)).mono ?_
  rintro e w1 ⟨rfl, hb1⟩
  have hB1 : Below (w.heap.size + 1) (w.alloc (.cells #[.int .i64 0, .int .i64 0] 93)) w1 := by simpa using hb1
  clear hb1
  have hq := str_empty (wordF l)
  by_cases hw : wordF l = []
  · rw [decide_eq_true hw] at hq
    have hP : Hid (parseF l = ([], (0, 0))) := by show _ = _; rw [parseF, if_pos hw]
    obtain ⟨hz, r0, r1, f0, hB'⟩ := res_cells hB1
    clear hw
    go_wp2_with fail
    exact bodyPost_ret (v := .tuple #[.slice none 0 0, .agg #[.int .i64 0, .int .i64 0]]) (by simp [results, Tryd.results50, go_sem, r0, r1]) rfl ⟨_, retP hP.out, by rw [hP.out]; exact deedAt_nil _, below_two hB' _ _⟩
  · rw [decide_eq_false hw] at hq
    have HW : Hid (wordF l ≠ []) := hw
    clear hw
    go_wp2_with fail
    go_loopg [0, 6, 7, 8] (l.length + 1) (fun g sv dv av mv wr => ∃ (j : Nat) (m : Bool) (rest : List UInt8) (os d : List Op5) (n : Nat), g = (if m then rest.length + 1 else 0) ∧ sv = .string (strB rest) ∧ av = .int .i64 j ∧ mv = .bool m ∧ n ≤ 15 ∧ Hid (d = os.take 15 ∧ d.length = n) ∧ Hid (Left9 l j m rest os) ∧ Hid (wr.ownsRow (w.heap.size + 1) 63 5 dv n (deedCells d)) ∧ Below (w.heap.size + 1) (w.alloc (.cells #[.int .i64 0, .int .i64 0] 93)) wr)
    case atStart => exact ⟨0, true, l, [], [], 0, rfl, rfl, rfl, rfl, by omega, ⟨rfl, rfl⟩, left_start l, World.ownsRow_nil _ _ _ _, hB1⟩
    case round =>
      obtain ⟨j, m, rest, os, d, n, hg, rfl, rfl, rfl, hn15, hD, hL, hO, hB⟩ := hrel
      obtain ⟨hz, r0, r1, f0, hB'⟩ := res_cells hB
      obtain ⟨da, dcap, rfl⟩ := owns_shape hO.out
      cases m with
      | false =>
        have hDI : DeedIn (fun b => w.heap.size + 1 ≤ b) wr (.slice da n dcap) d := by
          have h1 := hO.out
          have h2 := hD.out.2
          rw [← h2] at h1 ⊢
          exact owns_deedIn h1
        have hDA := hDI.at
        have hdl : d.length ≤ 9223372036854775807 := by have := hD.out.2; omega
        clear hO r0 r1 f0
        go_wp2_with fail
        refine (check_any _ d _ hDA hdl (hE.later hB').lim).mono ?_
        rintro e w2 ⟨rfl, hb2⟩
        have hB2 : Below (w.heap.size + 1) (w.alloc (.cells #[.int .i64 0, .int .i64 0] 93)) w2 := hB.trans (hb2.mono (by omega))
        have hD2 : Hid (DeedIn (fun b => w.heap.size + 1 ≤ b) w2 (.slice da n dcap) d) := hDI.later hb2
        clear hB hB' hb2 hz hDA hDI
        obtain ⟨hz, r0, r1, f0, hB'⟩ := res_cells hB2
        by_cases hc : (checkF d).1 = 0
        · have hP : Hid (parseF l = (d, (0, 0))) := by
            have h1 := hD.out.1
            rw [h1] at hc ⊢
            exact hL.out.good HW.out hc
          rw [hc]
          clear hc
          go_wp2_with fail
          exact bodyPost_ret (v := .tuple #[.slice da n dcap, .agg #[.int .i64 0, .int .i64 0]]) (by simp [results, Tryd.results50, go_sem, r0, r1, hz]) rfl ⟨_, retP hP.out, by rw [hP.out]; exact (((hD2.out.set (by omega) _ _).set (by omega) _ _).later ((Below.refl _ _).alloc (Nat.le_refl _) _)).at, below_two_alloc hB' _ _ _⟩
        · have hP : Hid (parseF l = ([], checkF d)) := by
            have h1 := hD.out.1
            rw [h1] at hc ⊢
            exact hL.out.check HW.out hc
          generalize checkF d = p at hc hP ⊢
          have tc : (p.1 != 0) = true := by simp [hc]
          clear hc hD2 hD
          go_wp2_with fail
          go_region
          go_wp2_with fail
          exact bodyPost_ret (v := .tuple #[.slice none 0 0, .agg #[.int .i64 p.1, .int .i64 p.2]]) (by simp [results, Tryd.results50, go_sem, r0, r1, hz]) rfl ⟨_, retP hP.out, by rw [hP.out]; exact deedAt_nil _, (below_two_alloc hB' _ _ _).drew⟩
      | true =>
        replace hg : gk = rest.length + 1 := hg
        have hL4 := hL.out.2.2.2
        have hLr := (hL.out.2.1 rfl).1
        clear r0 r1 f0
        go_wp2_with fail
        refine (cutS_any rest _ (by omega)).mono ?_
        rintro e w2 ⟨rfl, hb2⟩
        have hpl := part_length rest
        go_wp2_with fail
        refine (parseOp_any (partF1 rest) _ (part_noSemi rest) (by omega) (hE.later (hB'.trans (hb2.mono hB'.size)))).mono ?_
        rintro e w3 ⟨rfl, hb3⟩
        have hb23 : Below wr.heap.size wr w3 := hb2.trans (hb3.mono hb2.size)
        have hO3 : Hid (w3.ownsRow (w.heap.size + 1) 63 5 (.slice da n dcap) n (deedCells d)) := owns_below hO.out hb23
        have hB3 : Below (w.heap.size + 1) (w.alloc (.cells #[.int .i64 0, .int .i64 0] 93)) w3 := hB.trans (hb23.mono (by omega))
        clear hb2 hb3 hb23 hO hB hB' hz
        obtain ⟨hz, r0, r1, f0, hB'⟩ := res_cells hB3
        cases ho : opW (wordsP (partF1 rest)) with
        | none =>
          have hP : Hid (parseF l = ([], (10, (j : Int)))) := hL.out.bad HW.out ho
          clear hL HW ho hO3
          simp only [outO, opV, Option.getD_none, Option.isSome_none]
          go_wp2_with fail
          exact bodyPost_ret (v := .tuple #[.slice none 0 0, .agg #[.int .i64 10, .int .i64 j]]) (by simp [results, Tryd.results50, go_sem, r0, r1, hz]) rfl ⟨_, retP hP.out, by rw [hP.out]; exact deedAt_nil _, below_two_alloc hB' _ _ _⟩
        | some o =>
          have hL' : Hid (Left9 l (j + 1) (moreF rest) (restF rest) (os ++ [o])) := hL.out.next ho
          have hsh : Hid (moreF rest = true → (restF rest).length < rest.length) := fun h => rest_shorter h
          have hms : (if moreF rest then (restF rest).length + 1 else 0) < rest.length + 1 := by
            split
            · have := hsh.out (by assumption); omega
            · omega
          clear hL ho r0 r1 f0 hsh
          simp only [outO, opV, Option.getD_some, Option.isSome_some]
          by_cases h14 : n ≤ 14
          · have hD' : Hid (d ++ [o] = (os ++ [o]).take 15 ∧ (d ++ [o]).length = n + 1) := by
              obtain ⟨h1, h2⟩ := hD.out
              have hl : os.length ≤ 14 := by rw [h1, List.length_take] at h2; omega
              refine ⟨?_, by simp [h2]⟩
              rw [h1, List.take_of_length_le (by omega), List.take_of_length_le (by simp; omega)]
            have hN := news_new (w3.alloc (.cells #[.int .i64 o.k, .int .i64 o.a, .int .i64 o.b, .int .i64 o.c, .int .i64 o.n] 63)) #[.int .i64 o.k, .int .i64 o.a, .int .i64 o.b, .int .i64 o.c, .int .i64 o.n] 63
            have HN : Hid (∀ j u, [Value.int .i64 o.k, .int .i64 o.a, .int .i64 o.b, .int .i64 o.c, .int .i64 o.n][j]? = some u → ((w3.alloc (.cells #[.int .i64 o.k, .int .i64 o.a, .int .i64 o.b, .int .i64 o.c, .int .i64 o.n] 63)).alloc (.cells #[.int .i64 o.k, .int .i64 o.a, .int .i64 o.b, .int .i64 o.c, .int .i64 o.n] 63)).cell? ((⟨w3.heap.size + 1, 0, none⟩ : Addr).add j) = some u) := by
              have h1 := hN
              simp only [World.size_alloc] at h1
              exact h1
            clear hN
            have hO4 : Hid (((w3.alloc (.cells #[.int .i64 o.k, .int .i64 o.a, .int .i64 o.b, .int .i64 o.c, .int .i64 o.n] 63)).alloc (.cells #[.int .i64 o.k, .int .i64 o.a, .int .i64 o.b, .int .i64 o.c, .int .i64 o.n] 63)).ownsRow (w.heap.size + 1) 63 5 (.slice da n dcap) n (deedCells d)) := (hO3.out.alloc _).alloc _
            go_wp2_with (at_builtin; refine wpList_append_own _ rfl _ _ 61 rfl (w.heap.size + 1) 63 i0 (.agg #[.int .i64 0, .int .i64 0, .int .i64 0, .int .i64 0, .int .i64 0]) 5 40 Tryd.underlying61 hi hz0 hz1 hz2 rfl (by decide) _ _ _ rfl hO4.out ⟨w3.heap.size + 1, 0, none⟩ 1 1 [.int .i64 o.k, .int .i64 o.a, .int .i64 o.b, .int .i64 o.c, .int .i64 o.n] rfl rfl HN.out (by simp [Value.oneCell']) (by unfold maxLen; omega) (by omega) (by simp; omega) ?_; intro v' w4 hown' hgrow hnil)
            have hB4 : Below (w.heap.size + 1) (w.alloc (.cells #[.int .i64 0, .int .i64 0] 93)) w4 := ((hB3.alloc (by omega) _).alloc (by simp; omega) _).grown hgrow (by simp; omega) (fun k hk => (hO4.out.lt k hk).1)
            have hO5 : Hid (w4.ownsRow (w.heap.size + 1) 63 5 v' (n + 1) (deedCells (d ++ [o]))) := by
              have h1 := hown'
              rw [← deedCells_snoc] at h1
              exact h1
            clear hown' hgrow hnil hO4 hO3 HN hB3 hB' hz
            go_wp2_with fail
            go_roundg (if moreF rest then (restF rest).length + 1 else 0)
            case measure => omega
            case rel => exact ⟨j + 1, moreF rest, restF rest, os ++ [o], d ++ [o], n + 1, rfl, rfl, by go_num, rfl, by omega, hD', hL', hO5, hB4⟩
          · have hD' : Hid (d = (os ++ [o]).take 15 ∧ d.length = n) := by
              obtain ⟨h1, h2⟩ := hD.out
              have hl : 15 ≤ os.length := by rw [h1, List.length_take] at h2; omega
              refine ⟨?_, h2⟩
              rw [h1, List.take_append_of_le_length hl]
            have hO4 : Hid ((w3.alloc (.cells #[.int .i64 o.k, .int .i64 o.a, .int .i64 o.b, .int .i64 o.c, .int .i64 o.n] 63)).ownsRow (w.heap.size + 1) 63 5 (.slice da n dcap) n (deedCells d)) := hO3.out.alloc _
            go_wp2_with fail
            go_roundg (if moreF rest then (restF rest).length + 1 else 0)
            case measure => omega
            case rel => exact ⟨j + 1, moreF rest, restF rest, os ++ [o], d, n, rfl, rfl, by go_num, rfl, hn15, hD', hL', hO4, hB3.alloc (by omega) _⟩
end Go.Proofs.YtdohockbmphhfacDoor
