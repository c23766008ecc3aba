/-
  The walk of text.Parse. The walks of strings.Builder's WriteString, of text.numbersOf and text.printOp. A region that draws its order: what is held of the world is asked till the late operations come up. The walk of text.printOp. The walk of text.Print. The walk of textBegun; numbers of 64 bits in what is parsed.
-/
import Derived.Test.YtehkjbpgibdgpadGreatDoorJqXb
import Derived.Test.YtehkjbpgibdgpadGreatDoorJqWa
import Derived.Deep.RegionHeld3
import Derived.Deep.DeepCutAuto
namespace Go.Proofs.YtehkjbpgibdgpadGreatDoor
open Go.RowKit

/-! ### Parts, one behind the other -/

/-- Operations ahead of what comes. -/
def prep (os : List Op5) : Nat ⊕ List Op5 → Nat ⊕ List Op5
  | .inl k => .inl k
  | .inr d => .inr (os ++ d)
theorem prep_nil (x : Nat ⊕ List Op5) : prep [] x = x := by cases x <;> rfl
theorem partsF_cons {j : Nat} {ws : List (List UInt8)} {r : List (List (List UInt8))} {o : Op5} (h : opW ws = some o) (os : List Op5) : prep os (partsF j (ws :: r)) = prep (os ++ [o]) (partsF (j + 1) r) := by
  simp only [partsF, h]
  cases partsF (j + 1) r with
  | inl k => rfl
  | inr d => simp [prep]
theorem partsF_bad {j : Nat} {ws : List (List UInt8)} {r : List (List (List UInt8))} (h : opW ws = none) (os : List Op5) : prep os (partsF j (ws :: r)) = .inl j := by
  simp only [partsF, h]; rfl

/-- What is left of a text, and what the parts ahead were. -/
def Left9 (l : List UInt8) (j : Nat) (m : Bool) (rest : List UInt8) (os : List Op5) : Prop :=
  os.length = j ∧ (m = true → rest.length + j ≤ l.length ∧ prep os (partsF j (lex rest)) = partsF 0 (lex l)) ∧ (m = false → partsF 0 (lex l) = .inr os) ∧ j ≤ l.length + 1

theorem Left9.next {l rest : List UInt8} {j : Nat} {os : List Op5} {o : Op5} (h : Left9 l j true rest os) (ho : opW (wordsP (partF1 rest)) = some o) : Left9 l (j + 1) (moreF rest) (restF rest) (os ++ [o]) := by
  obtain ⟨h1, h2, -, h4⟩ := h
  obtain ⟨h2, h3⟩ := h2 rfl
  refine ⟨by simp [h1], fun hm => ?_, fun hm => ?_, by omega⟩
  · have := rest_shorter hm
    refine ⟨by omega, ?_⟩
    rw [← h3, lex_more hm, partsF_cons ho]
  · rw [← h3, lex_last hm, partsF_cons ho]; simp [partsF, prep]
theorem Left9.bad {l rest : List UInt8} {j : Nat} {os : List Op5} (h : Left9 l j true rest os) (hw : wordF l ≠ []) (ho : opW (wordsP (partF1 rest)) = none) : parseF l = ([], (10, (j : Int))) := by
  obtain ⟨-, h2, -, -⟩ := h
  obtain ⟨-, h3⟩ := h2 rfl
  unfold parseF
  rw [if_neg hw, ← h3]
  cases hm : moreF rest with
  | true => rw [lex_more hm, partsF_bad ho]
  | false => rw [lex_last hm, partsF_bad ho]

theorem left_start (l : List UInt8) : Left9 l 0 true l [] := ⟨rfl, fun _ => ⟨Nat.le_refl _, prep_nil _⟩, fun h => Bool.noConfusion h, Nat.zero_le _⟩

theorem check_take (os : List Op5) : checkF (os.take 15) = checkF os := by
  by_cases h : os.length ≤ 15
  · rw [List.take_of_length_le h]
  · unfold checkF
    rw [if_pos (by rw [List.length_take]; omega), if_pos (by omega)]
theorem Left9.check {l rest : List UInt8} {j : Nat} {os : List Op5} (h : Left9 l j false rest os) (hw : wordF l ≠ []) (hc : (checkF (os.take 15)).1 ≠ 0) : parseF l = ([], checkF (os.take 15)) := by
  unfold parseF
  rw [if_neg hw, h.2.2.1 rfl]
  dsimp only
  rw [check_take] at hc ⊢
  rw [if_pos hc]
theorem Left9.good {l rest : List UInt8} {j : Nat} {os : List Op5} (h : Left9 l j false rest os) (hw : wordF l ≠ []) (hc : (checkF (os.take 15)).1 = 0) : parseF l = (os.take 15, (0, 0)) := by
  unfold parseF
  rw [if_neg hw, h.2.2.1 rfl]
  dsimp only
  have := check_few_ops hc
  have h15 : os.take 15 = os := by
    rw [List.length_take] at this
    exact List.take_of_length_le (by omega)
  rw [h15] at hc ⊢
  rw [if_neg (by simp [hc])]

/-! ### A row of operations of the call's own -/

theorem infoOp9 : (Tryz.prog.info? 121).map (fun i => (i.zero, i.size, i.bytes)) = some (some (.agg #[.int .i64 0, .int .i64 0, .int .i64 0, .int .i64 0, .int .i64 0]), 5, 40) := by kernel_rfl

theorem owns_shape {w : World} {base : Nat} {e : TypeId} {size : Nat} {v : Value} {n : Nat} {xs : List Value} (h : w.ownsRow base e size v n xs) : ∃ a cap, v = .slice a n cap := by
  rcases h.2 with ⟨hv, h0⟩ | ⟨g, cap, cur, hv, _⟩
  · subst h0; exact ⟨_, _, hv⟩
  · exact ⟨_, _, hv⟩
theorem owns_deedIn {w : World} {base : Nat} {e : TypeId} {v : Value} {d : List Op5} (h : w.ownsRow base e 5 v d.length (deedCells d)) : DeedIn (fun b => base ≤ b) w v d := by
  obtain ⟨a, cap, rfl⟩ := owns_shape h
  refine ⟨a, cap, rfl, fun i hi => ?_⟩
  obtain ⟨g, cap', e1, hc⟩ := owns_cells h (by omega)
  injection e1 with e1 e2 e3
  subst e1
  have hg := (owns_lt h (g := g) rfl).1
  obtain ⟨d0, d1, d2, d3, d4⟩ := deedCells_at d i hi
  refine ⟨g, 0, hg, rfl, ?_, ?_, ?_, ?_, ?_⟩
  · simpa using hc _ _ d0
  · simpa using hc _ _ d1
  · simpa using hc _ _ d2
  · simpa using hc _ _ d3
  · simpa using hc _ _ d4
theorem DeedIn.set {P : Nat → Prop} {w : World} {v : Value} {d : List Op5} (h : DeedIn P w v d) {c : Nat} (hc : ¬ P c) (i : Nat) (x : Value) : DeedIn P (w.setCell ⟨c, i, none⟩ x) v d := by
  obtain ⟨a, cap, rfl, h⟩ := h
  refine ⟨a, cap, rfl, fun j hj => ?_⟩
  obtain ⟨b, off, hP, rfl, h0, h1, h2, h3, h4⟩ := h j hj
  have hne : c ≠ b := fun e => hc (e ▸ hP)
  refine ⟨b, off, hP, rfl, ?_, ?_, ?_, ?_, ?_⟩
  all_goals (rw [World.cell?_setCell_other _ _ _ _ (fun e => hne (by injection e))]; assumption)
theorem owns_deed {w : World} {base : Nat} {e : TypeId} {v : Value} {d : List Op5} (h : w.ownsRow base e 5 v d.length (deedCells d)) : DeedAt w v d := by
  obtain ⟨a, cap, rfl⟩ := owns_shape h
  refine ⟨a, cap, rfl, fun i hi => ?_⟩
  obtain ⟨g, cap', e1, hc⟩ := owns_cells h (by omega)
  injection e1 with e1 e2 e3
  subst e1
  obtain ⟨d0, d1, d2, d3, d4⟩ := deedCells_at d i hi
  refine ⟨g, 0, rfl, ?_, ?_, ?_, ?_, ?_⟩
  · simpa using hc _ _ d0
  · simpa using hc _ _ d1
  · simpa using hc _ _ d2
  · simpa using hc _ _ d3
  · simpa using hc _ _ d4
theorem deedCells_snoc (d : List Op5) (o : Op5) : deedCells (d ++ [o]) = deedCells d ++ [.int .i64 o.k, .int .i64 o.a, .int .i64 o.b, .int .i64 o.c, .int .i64 o.n] := by
  induction d with
  | nil => rfl
  | cons x d ih => simp [deedCells, ih]

theorem news_new (w : World) (vs : Array Value) (t : TypeId) : ∀ j u, vs.toList[j]? = some u → (w.alloc (.cells vs t)).cell? ((⟨w.heap.size, 0, none⟩ : Addr).add j) = some u := by
  intro j u hu
  obtain ⟨hj, rfl⟩ := List.getElem?_eq_some_iff.1 hu
  rw [addr_add, Nat.zero_add]
  exact (holds_new w vs t).2.1 j hj
theorem retP {v : Value} {a b : Int} {p : List Op5 × (Int × Int)} {d : List Op5} (h : p = (d, (a, b))) : Ending.returned (.tuple #[v, .agg #[.int .i64 a, .int .i64 b]]) = .returned (.tuple #[v, .agg #[.int .i64 p.2.1, .int .i64 p.2.2]]) := by rw [h]
theorem deedAt_nil (w : World) : DeedAt w (.slice none 0 0) [] := ⟨none, 0, rfl, fun i h => by simp at h⟩

theorem deedIn_nil (P : Nat → Prop) (w : World) : DeedIn P w (.slice none 0 0) [] := ⟨none, 0, rfl, fun i h => by simp at h⟩

/-- What Parse answers. -/
def OutP (l : List UInt8) (w : World) (e : Ending) (w' : World) : Prop := ∃ v, e = .returned (.tuple #[v, .agg #[.int .i64 (parseF l).2.1, .int .i64 (parseF l).2.2]]) ∧ DeedAt w' v (parseF l).1 ∧ Below w.heap.size w w'
/-- The same, in new memory. -/
def OutPI (l : List UInt8) (w : World) (e : Ending) (w' : World) : Prop := ∃ v, e = .returned (.tuple #[v, .agg #[.int .i64 (parseF l).2.1, .int .i64 (parseF l).2.2]]) ∧ DeedIn (fun b => w.heap.size ≤ b) w' v (parseF l).1 ∧ Below w.heap.size w w'

set_option maxRecDepth 100000 in
set_option maxHeartbeats 4000000 in
theorem parse_in (l : List UInt8) (w : World) (hl : l.length ≤ 281474976710656) (hE : Env w) :
    Calls Tryz.prog 43 #[.string (strB l)] w (OutPI l w) := by
  obtain ⟨i0, hi, hz0, hz1, hz2⟩ := info_parts infoOp9
  go_enter Tryz.func43, Tryz.ntmps43
  go_wp2_with fail
  refine (cutW_any l _ (by omega)).mono ?_
  rintro e w1 ⟨rfl, hb1⟩
  have hB1 : Below (w.heap.size + 1) (w.alloc (.cells #[.int .i64 0, .int .i64 0] 42)) w1 := by simpa using hb1
  clear hb1
  have hq := str_empty (wordF l)
  by_cases hw : wordF l = []
  · rw [decide_eq_true hw] at hq
    have hP : Hid (parseF l = ([], (0, 0))) := by show _ = _; rw [parseF, if_pos hw]
    obtain ⟨hz, r0, r1, f0, hB'⟩ := res_cells hB1
    clear hw
    go_wp2_with fail
    exact bodyPost_ret (v := .tuple #[.slice none 0 0, .agg #[.int .i64 0, .int .i64 0]]) (by simp [results, Tryz.results43, go_sem, r0, r1]) rfl ⟨_, retP hP.out, by rw [hP.out]; exact deedIn_nil _ _, below_two hB' _ _⟩
  · rw [decide_eq_false hw] at hq
    have HW : Hid (wordF l ≠ []) := hw
    clear hw
    go_wp2_with fail
    go_loopg [0, 6, 7, 8] (l.length + 1) (fun g sv dv av mv wr => ∃ (j : Nat) (m : Bool) (rest : List UInt8) (os d : List Op5) (n : Nat), g = (if m then rest.length + 1 else 0) ∧ sv = .string (strB rest) ∧ av = .int .i64 j ∧ mv = .bool m ∧ n ≤ 15 ∧ Hid (d = os.take 15 ∧ d.length = n) ∧ Hid (Left9 l j m rest os) ∧ Hid (wr.ownsRow (w.heap.size + 1) 121 5 dv n (deedCells d)) ∧ Below (w.heap.size + 1) (w.alloc (.cells #[.int .i64 0, .int .i64 0] 42)) wr)
    case atStart => exact ⟨0, true, l, [], [], 0, rfl, rfl, rfl, rfl, by omega, ⟨rfl, rfl⟩, left_start l, World.ownsRow_nil _ _ _ _, hB1⟩
    case round =>
      obtain ⟨j, m, rest, os, d, n, hg, rfl, rfl, rfl, hn15, hD, hL, hO, hB⟩ := hrel
      obtain ⟨hz, r0, r1, f0, hB'⟩ := res_cells hB
      obtain ⟨da, dcap, rfl⟩ := owns_shape hO.out
      cases m with
      | false =>
        have hDI : DeedIn (fun b => w.heap.size + 1 ≤ b) wr (.slice da n dcap) d := by
          have h1 := hO.out
          have h2 := hD.out.2
          rw [← h2] at h1 ⊢
          exact owns_deedIn h1
        have hDA := hDI.at
        have hdl : d.length ≤ 9223372036854775807 := by have := hD.out.2; omega
        clear hO r0 r1 f0
        go_wp2_with fail
        refine (check_any _ d _ hDA hdl (hE.later hB').lim).mono ?_
        rintro e w2 ⟨rfl, hb2⟩
        have hB2 : Below (w.heap.size + 1) (w.alloc (.cells #[.int .i64 0, .int .i64 0] 42)) w2 := hB.trans (hb2.mono (by omega))
        have hD2 : Hid (DeedIn (fun b => w.heap.size + 1 ≤ b) w2 (.slice da n dcap) d) := hDI.later hb2
        clear hB hB' hb2 hz hDA hDI
        obtain ⟨hz, r0, r1, f0, hB'⟩ := res_cells hB2
        by_cases hc : (checkF d).1 = 0
        · have hP : Hid (parseF l = (d, (0, 0))) := by
            have h1 := hD.out.1
            rw [h1] at hc ⊢
            exact hL.out.good HW.out hc
          rw [hc]
          clear hc
          go_wp2_with fail
          exact bodyPost_ret (v := .tuple #[.slice da n dcap, .agg #[.int .i64 0, .int .i64 0]]) (by simp [results, Tryz.results43, go_sem, r0, r1, hz]) rfl ⟨_, retP hP.out, by rw [hP.out]; exact (((hD2.out.set (by omega) _ _).set (by omega) _ _).later ((Below.refl _ _).alloc (Nat.le_refl _) _)).mono fun b _ hb => by omega, below_two_alloc hB' _ _ _⟩
        · have hP : Hid (parseF l = ([], checkF d)) := by
            have h1 := hD.out.1
            rw [h1] at hc ⊢
            exact hL.out.check HW.out hc
          generalize checkF d = p at hc hP ⊢
          have tc : (p.1 != 0) = true := by simp [hc]
          clear hc hD2 hD
          go_wp2_with fail
          go_region
          go_wp2_with fail
          exact bodyPost_ret (v := .tuple #[.slice none 0 0, .agg #[.int .i64 p.1, .int .i64 p.2]]) (by simp [results, Tryz.results43, go_sem, r0, r1, hz]) rfl ⟨_, retP hP.out, by rw [hP.out]; exact deedIn_nil _ _, (below_two_alloc hB' _ _ _).drew⟩
      | true =>
        replace hg : gk = rest.length + 1 := hg
        have hL4 := hL.out.2.2.2
        have hLr := (hL.out.2.1 rfl).1
        clear r0 r1 f0
        go_wp2_with fail
        refine (cutS_any rest _ (by omega)).mono ?_
        rintro e w2 ⟨rfl, hb2⟩
        have hpl := part_length rest
        go_wp2_with fail
        refine (parseOp_any (partF1 rest) _ (part_noSemi rest) (by omega) (hE.later (hB'.trans (hb2.mono hB'.size)))).mono ?_
        rintro e w3 ⟨rfl, hb3⟩
        have hb23 : Below wr.heap.size wr w3 := hb2.trans (hb3.mono hb2.size)
        have hO3 : Hid (w3.ownsRow (w.heap.size + 1) 121 5 (.slice da n dcap) n (deedCells d)) := owns_below hO.out hb23
        have hB3 : Below (w.heap.size + 1) (w.alloc (.cells #[.int .i64 0, .int .i64 0] 42)) w3 := hB.trans (hb23.mono (by omega))
        clear hb2 hb3 hb23 hO hB hB' hz
        obtain ⟨hz, r0, r1, f0, hB'⟩ := res_cells hB3
        cases ho : opW (wordsP (partF1 rest)) with
        | none =>
          have hP : Hid (parseF l = ([], (10, (j : Int)))) := hL.out.bad HW.out ho
          clear hL HW ho hO3
          simp only [outO, opV9, Option.getD_none, Option.isSome_none]
          go_wp2_with fail
          exact bodyPost_ret (v := .tuple #[.slice none 0 0, .agg #[.int .i64 10, .int .i64 j]]) (by simp [results, Tryz.results43, go_sem, r0, r1, hz]) rfl ⟨_, retP hP.out, by rw [hP.out]; exact deedIn_nil _ _, below_two_alloc hB' _ _ _⟩
        | some o =>
          have hL' : Hid (Left9 l (j + 1) (moreF rest) (restF rest) (os ++ [o])) := hL.out.next ho
          have hsh : Hid (moreF rest = true → (restF rest).length < rest.length) := fun h => rest_shorter h
          have hms : (if moreF rest then (restF rest).length + 1 else 0) < rest.length + 1 := by
            split
            · have := hsh.out (by assumption); omega
            · omega
          clear hL ho r0 r1 f0 hsh
          simp only [outO, opV9, Option.getD_some, Option.isSome_some]
          by_cases h14 : n ≤ 14
          · have hD' : Hid (d ++ [o] = (os ++ [o]).take 15 ∧ (d ++ [o]).length = n + 1) := by
              obtain ⟨h1, h2⟩ := hD.out
              have hl : os.length ≤ 14 := by rw [h1, List.length_take] at h2; omega
              refine ⟨?_, by simp [h2]⟩
              rw [h1, List.take_of_length_le (by omega), List.take_of_length_le (by simp; omega)]
            have hN := news_new (w3.alloc (.cells #[.int .i64 o.k, .int .i64 o.a, .int .i64 o.b, .int .i64 o.c, .int .i64 o.n] 121)) #[.int .i64 o.k, .int .i64 o.a, .int .i64 o.b, .int .i64 o.c, .int .i64 o.n] 121
            have HN : Hid (∀ j u, [Value.int .i64 o.k, .int .i64 o.a, .int .i64 o.b, .int .i64 o.c, .int .i64 o.n][j]? = some u → ((w3.alloc (.cells #[.int .i64 o.k, .int .i64 o.a, .int .i64 o.b, .int .i64 o.c, .int .i64 o.n] 121)).alloc (.cells #[.int .i64 o.k, .int .i64 o.a, .int .i64 o.b, .int .i64 o.c, .int .i64 o.n] 121)).cell? ((⟨w3.heap.size + 1, 0, none⟩ : Addr).add j) = some u) := by
              have h1 := hN
              simp only [World.size_alloc] at h1
              exact h1
            clear hN
            have hO4 : Hid (((w3.alloc (.cells #[.int .i64 o.k, .int .i64 o.a, .int .i64 o.b, .int .i64 o.c, .int .i64 o.n] 121)).alloc (.cells #[.int .i64 o.k, .int .i64 o.a, .int .i64 o.b, .int .i64 o.c, .int .i64 o.n] 121)).ownsRow (w.heap.size + 1) 121 5 (.slice da n dcap) n (deedCells d)) := (hO3.out.alloc _).alloc _
            go_wp2_with (at_builtin; refine wpList_append_own _ rfl _ _ 85 rfl (w.heap.size + 1) 121 i0 (.agg #[.int .i64 0, .int .i64 0, .int .i64 0, .int .i64 0, .int .i64 0]) 5 40 Tryz.underlying85 hi hz0 hz1 hz2 rfl (by decide) _ _ _ rfl hO4.out ⟨w3.heap.size + 1, 0, none⟩ 1 1 [.int .i64 o.k, .int .i64 o.a, .int .i64 o.b, .int .i64 o.c, .int .i64 o.n] rfl rfl HN.out (by simp [Value.oneCell']) (by unfold maxLen; omega) (by omega) (by simp; omega) ?_; intro v' w4 hown' hgrow hnil)
            have hB4 : Below (w.heap.size + 1) (w.alloc (.cells #[.int .i64 0, .int .i64 0] 42)) w4 := ((hB3.alloc (by omega) _).alloc (by simp; omega) _).grown hgrow (by simp; omega) (fun k hk => (hO4.out.lt k hk).1)
            have hO5 : Hid (w4.ownsRow (w.heap.size + 1) 121 5 v' (n + 1) (deedCells (d ++ [o]))) := by
              have h1 := hown'
              rw [← deedCells_snoc] at h1
              exact h1
            clear hown' hgrow hnil hO4 hO3 HN hB3 hB' hz
            go_wp2_with fail
            go_roundg (if moreF rest then (restF rest).length + 1 else 0)
            case measure => omega
            case rel => exact ⟨j + 1, moreF rest, restF rest, os ++ [o], d ++ [o], n + 1, rfl, rfl, by go_num, rfl, by omega, hD', hL', hO5, hB4⟩
          · have hD' : Hid (d = (os ++ [o]).take 15 ∧ d.length = n) := by
              obtain ⟨h1, h2⟩ := hD.out
              have hl : 15 ≤ os.length := by rw [h1, List.length_take] at h2; omega
              refine ⟨?_, h2⟩
              rw [h1, List.take_append_of_le_length hl]
            have hO4 : Hid ((w3.alloc (.cells #[.int .i64 o.k, .int .i64 o.a, .int .i64 o.b, .int .i64 o.c, .int .i64 o.n] 121)).ownsRow (w.heap.size + 1) 121 5 (.slice da n dcap) n (deedCells d)) := hO3.out.alloc _
            go_wp2_with fail
            go_roundg (if moreF rest then (restF rest).length + 1 else 0)
            case measure => omega
            case rel => exact ⟨j + 1, moreF rest, restF rest, os ++ [o], d, n, rfl, rfl, by go_num, rfl, hn15, hD', hL', hO4, hB3.alloc (by omega) _⟩
theorem parse_any (l : List UInt8) (w : World) (hl : l.length ≤ 281474976710656) (hE : Env w) :
    Calls Tryz.prog 43 #[.string (strB l)] w (OutP l w) := by
  refine (parse_in l w hl hE).mono ?_
  rintro e w' ⟨v, rfl, h1, h2⟩
  exact ⟨v, rfl, h1.at, h2⟩
end Go.Proofs.YtehkjbpgibdgpadGreatDoor
namespace Go.Proofs.YtehkjbpgibdgpadGreatDoor
open Go.RowKit

theorem sizeBd : (Tryz.prog.info? 55).map (·.size) = some 2 := by kernel_rfl
theorem liesBd : liesAt Tryz.prog Tryz.prog.depth 55 (2 / Tryz.prog.cellsOf 55) 0 55 1 = true := by kernel_rfl
theorem infoBy : (Tryz.prog.info? 5).map (fun i => (i.zero, i.size, i.bytes)) = some (some (.int .u8 0), 1, 1) := by kernel_rfl

set_option maxRecDepth 100000 in
set_option maxHeartbeats 1000000 in
theorem copyCheck_used (b : Nat) (w : World) (h0 : w.cell? ⟨b, 0, none⟩ = some (.pointer (some ⟨b, 0, none⟩))) :
    Calls Tryz.prog 89 #[.pointer (some ⟨b, 0, none⟩)] w fun e w' => e = .returned (.tuple #[]) ∧ w' = w := by
  obtain ⟨j, hj, -⟩ := Option.map_eq_some_iff.1 sizeBd
  go_enter Tryz.func89, Tryz.ntmps89
  go_wp2
  rw [Lib.run_neq_ptr_same w _ Tryz.underlying52 hj]
  go_wp2
  go_end0
  exact ⟨rfl, rfl⟩

set_option maxRecDepth 100000 in
set_option maxHeartbeats 1000000 in
theorem copyCheck_fresh (b : Nat) (w : World) (h0 : w.cell? ⟨b, 0, none⟩ = some (.pointer none)) (hsh : w.shape? b = some (55, 2)) (hfz : w.frozen? ⟨b, 0, none⟩ = false) :
    Calls Tryz.prog 89 #[.pointer (some ⟨b, 0, none⟩)] w fun e w' => e = .returned (.tuple #[]) ∧ w' = w.setCell ⟨b, 0, none⟩ (.pointer (some ⟨b, 0, none⟩)) := by
  obtain ⟨j, hj, hjs⟩ := Option.map_eq_some_iff.1 sizeBd
  go_enter Tryz.func89, Tryz.ntmps89
  go_wp2
  rw [Lib.run_to_unsafe w ⟨b, 0, none⟩ Tryz.underlying52 Tryz.underlying167 hj (by rw [hjs]; decide) hsh (Nat.zero_lt_succ 1)]
  simp only [Result.andThen]
  rw [Oper.upon_value]
  go_wp2
  rw [run_callFunc_extern Tryz.func123 (by kernel_rfl) (by kernel_rfl) (by kernel_rfl) (e := Extern.AbiNoEscape.same) (by kernel_rfl), Lib.run_noEscape]
  simp only [Result.andThen]
  rw [Oper.upon_value]
  go_wp2
  rw [Lib.run_from_unsafe w ⟨b, 0, none⟩ Tryz.underlying167 Tryz.underlying52 hj hsh liesBd]
  simp only [Result.andThen]
  rw [Oper.upon_value]
  go_wp2
  go_end0
  exact ⟨rfl, rfl⟩

/-- A builder in block b that holds these bytes. -/
def Bd (b : Nat) (l : List UInt8) (w : World) : Prop := Lib.IsBuilderF 55 5 b b (Lib.byteCells l) w

/-- Blocks that are not b, and no rows of bytes, are as they were. -/
def Kept9 (b : Nat) (w w' : World) : Prop := Lib.OthersKept 5 (some b) w w'

theorem strCells_eq (l : List UInt8) : Lib.strCells (strB l) = Lib.byteCells l := rfl

set_option maxRecDepth 100000 in
set_option maxHeartbeats 2000000 in
theorem writeS_any (b : Nat) (l m : List UInt8) (w : World) (h : Bd b l w) (hlen : l.length + m.length ≤ 140737488355328) :
    Calls Tryz.prog 66 #[.pointer (some ⟨b, 0, none⟩), .string (strB m)] w fun e w' => (∃ v, e = .returned v) ∧ Bd b (l ++ m) w' ∧ Below b w w' ∧ Kept9 b w w' := by
  obtain ⟨i0, hi, hz0, hz1, hz2⟩ := info_parts infoBy
  have hcc : Calls Tryz.prog 89 #[.pointer (some ⟨b, 0, none⟩)] w fun e w' => e = .returned (.tuple #[]) ∧ Lib.BuilderAtF 55 5 b b (.pointer (some ⟨b, 0, none⟩)) (Lib.byteCells l) w' ∧ Below b w w' ∧ Kept9 b w w' := by
    rcases h with h | h
    · refine (copyCheck_fresh b w h.cell0 h.shape h.frozen0).mono ?_
      rintro e w' ⟨rfl, rfl⟩
      exact ⟨rfl, h.used _, (Below.refl b w).setCell (p := ⟨b, 0, none⟩) (Nat.le_refl _) _, (Lib.OthersKept.refl _ _ w).setCell ⟨b, 0, none⟩ rfl _⟩
    · refine (copyCheck_used b w h.cell0).mono ?_
      rintro e w' ⟨rfl, rfl⟩
      exact ⟨rfl, h, Below.refl _ _, Lib.OthersKept.refl _ _ _⟩
  have hlt0 : b < w.heap.size := by rcases h with h | h <;> exact h.lt
  have hcl : (Lib.byteCells l).length = l.length := by simp [Lib.byteCells]
  have hS : (strB m).size = m.length := rfl
  clear h
  go_enter Tryz.func66, Tryz.ntmps66
  go_wp2_with fail
  refine hcc.mono ?_
  rintro e w1 ⟨rfl, hA1, hb1, hk1⟩
  clear hcc
  have hlt := hA1.lt
  obtain ⟨-, v, hbk, hown, hne⟩ := hA1
  have c0 : w1.cell? ⟨b, 0, none⟩ = some (.pointer (some ⟨b, 0, none⟩)) := by rw [Lib.cell_of_heap hbk]; rfl
  have c1 : w1.cell? ⟨b, 1, none⟩ = some v := by rw [Lib.cell_of_heap hbk]; rfl
  have HO : Hid (w1.ownsRowF b 5 1 v (Lib.byteCells l).length (Lib.byteCells l)) := hown
  have HB : Hid (w1.heap[b]? = some (.cells #[.pointer (some ⟨b, 0, none⟩), v] 55 (0, 0))) := hbk
  have HC : Hid ((Lib.byteCells l).length = l.length) := hcl
  clear hcl hown hbk
  go_wp2_with (at_builtin; refine Lib.wpList_append_own_stringF _ rfl _ _ 53 9 rfl b 5 i0 Tryz.underlying53 Tryz.underlying9 hi hz0 hz1 hz2 _ _ _ rfl HO.out (strB m) rfl (by rw [HC.out]; unfold maxLen; omega) (by rw [HC.out]; omega) (by omega) ?_)
  intro v' w2 hown' hgrow hnil
  have hb2 : w2.heap[b]? = some (.cells #[.pointer (some ⟨b, 0, none⟩), v] 55 (0, 0)) := by
    rw [hgrow.block b hlt (fun e => hne e.symm)]
    exact HB.out
  have d0 : w2.cell? ⟨b, 0, none⟩ = some (.pointer (some ⟨b, 0, none⟩)) := by rw [Lib.cell_of_heap hb2]; rfl
  have d1 : w2.cell? ⟨b, 1, none⟩ = some v := by rw [Lib.cell_of_heap hb2]; rfl
  have f1 : w2.frozen? ⟨b, 1, none⟩ = false := Lib.frozen_of_heap hb2 1
  obtain ⟨ao, n', cap, rfl⟩ : ∃ ao n' cap, v' = .slice ao n' cap := by
    rcases hown'.2 with ⟨hv, _⟩ | ⟨g, cap, cur, fz, hv, _⟩
    · exact ⟨_, _, _, hv⟩
    · exact ⟨_, _, _, hv⟩
  have hE : Hid (Bd b (l ++ m) (w2.setCell ⟨b, 1, none⟩ (.slice ao n' cap))) := by
    refine Or.inr (Lib.BuilderAtF.put (Nat.le_refl _) hb2 (bs' := Lib.byteCells (l ++ m)) ?_ (by decide))
    have h1 := hown'
    rw [strCells_eq, ← Lib.byteCells_append] at h1
    have h2 : (Lib.byteCells (l ++ m)).length = (Lib.byteCells l).length + (strB m).size := by simp [Lib.byteCells, strB_size]
    rw [h2]; exact h1
  have hF : Hid (Below b w (w2.setCell ⟨b, 1, none⟩ (.slice ao n' cap))) := (hb1.grown hgrow (by omega) (fun k hk => (HO.out.lt k hk).1)).setCell (p := ⟨b, 1, none⟩) (Nat.le_refl _) _
  have hK : Hid (Kept9 b w (w2.setCell ⟨b, 1, none⟩ (.slice ao n' cap))) := (hk1.grown hgrow (Lib.ownsRowF_kind HO.out)).setCell ⟨b, 1, none⟩ rfl _
  clear hown' hgrow hnil hb1 hb2 hk1 HO HB HC
  go_wp2_with fail
  go_ret2
  exact ⟨⟨_, rfl⟩, hE.out, hF.out, hK.out⟩

/-! ### What stays -/

theorem Kept9.trans {b : Nat} {u v w : World} (h : Kept9 b u v) (k : Kept9 b v w) : Kept9 b u w := Lib.OthersKept.trans h k
theorem kept_later {b : Nat} {w w' : World} (h : Below w.heap.size w w') : Kept9 b w w' := by
  intro k o hk _ _
  have hlt : k < w.heap.size := (Array.getElem?_eq_some_iff.1 hk).1
  rw [h.block k hlt]; exact hk
theorem Bd.lt {b : Nat} {l : List UInt8} {w : World} (h : Bd b l w) : b < w.heap.size := by rcases h with h | h <;> exact h.lt
theorem ownsF_later {w w' : World} {base : Nat} {e : TypeId} {v : Value} {n : Nat} {xs : List Value} {size : Nat} (h : w.ownsRowF base e size v n xs) (hb : Below w.heap.size w w') : w'.ownsRowF base e size v n xs := by
  refine ⟨h.1, ?_⟩
  rcases h.2 with hn | ⟨g, cap, cur, fz, hv, hbase, hg, rest⟩
  · exact .inl hn
  · refine .inr ⟨g, cap, cur, fz, hv, hbase, ?_, rest⟩
    rw [hb.block g (Array.getElem?_eq_some_iff.1 hg).1]; exact hg
theorem Bd.later {b : Nat} {l : List UInt8} {w w' : World} (h : Bd b l w) (hb : Below w.heap.size w w') : Bd b l w' := by
  have hlt := h.lt
  rcases h with ⟨h1, v, h2, h3, h4⟩ | ⟨h1, v, h2, h3, h4⟩
  · exact .inl ⟨h1, v, by rw [hb.block b hlt]; exact h2, ownsF_later h3 hb, h4⟩
  · exact .inr ⟨h1, v, by rw [hb.block b hlt]; exact h2, ownsF_later h3 hb, h4⟩

/-- A block of cells of a type that is no byte's. -/
def Blk (w : World) (k : Nat) (vs : Array Value) (t : TypeId) : Prop := w.heap[k]? = some (.cells vs t (0, 0))
theorem Blk.lt {w : World} {k : Nat} {vs : Array Value} {t : TypeId} (h : Blk w k vs t) : k < w.heap.size := (Array.getElem?_eq_some_iff.1 h).1
theorem Blk.later {w w' : World} {k : Nat} {vs : Array Value} {t : TypeId} (h : Blk w k vs t) (hb : Below w.heap.size w w') : Blk w' k vs t := by
  unfold Blk; rw [hb.block k h.lt]; exact h
theorem Blk.kept {w w' : World} {b k : Nat} {vs : Array Value} {t : TypeId} (h : Blk w k vs t) (hk : Kept9 b w w') (hb : k ≠ b) (ht : t ≠ 5) : Blk w' k vs t :=
  hk k _ h (fun e => hb (by injection e)) (fun c fz e => ht (by injection e))
theorem Blk.cell {w : World} {k : Nat} {vs : Array Value} {t : TypeId} (h : Blk w k vs t) (i : Nat) : w.cell? ⟨k, i, none⟩ = vs[i]? := Lib.cell_of_heap h i
theorem Blk.free {w : World} {k : Nat} {vs : Array Value} {t : TypeId} (h : Blk w k vs t) (i : Nat) : w.frozen? ⟨k, i, none⟩ = false := Lib.frozen_of_heap h i
theorem blk_new (w : World) (vs : Array Value) (t : TypeId) : Blk (w.alloc (.cells vs t)) w.heap.size vs t := heap_alloc_new w _

theorem Blk.set {w : World} {k : Nat} {vs : Array Value} {t : TypeId} (h : Blk w k vs t) (i : Nat) (v : Value) : Blk (w.setCell ⟨k, i, none⟩ v) k (vs.setIfInBounds i v) t := by
  unfold Blk at h ⊢
  simp [World.setCell, Array.getElem?_modify, h]
theorem Blk.other {w : World} {k c : Nat} {vs : Array Value} {t : TypeId} (h : Blk w k vs t) (hc : c ≠ k) (i : Nat) (v : Value) : Blk (w.setCell ⟨c, i, none⟩ v) k vs t := by
  unfold Blk at h ⊢
  rw [Below.heap_setCell _ _ _ _ (fun e => hc e.symm)]
  exact h

/-! ### numbersOf -/

set_option maxRecDepth 100000 in
set_option maxHeartbeats 400000 in
theorem numbers_any (k a b c n x y z : Int) (hx : numsO ⟨k, a, b, c, n⟩ = [x, y, z]) (w : World) :
    Calls Tryz.prog 146 #[.agg #[.int .i64 k, .int .i64 a, .int .i64 b, .int .i64 c, .int .i64 n]] w fun e w' => e = .returned (.agg #[.int .i64 x, .int .i64 y, .int .i64 z]) ∧ w' = (w.alloc (.cells #[.int .i64 k, .int .i64 a, .int .i64 b, .int .i64 c, .int .i64 n] 121)).alloc (.cells #[.int .i64 x, .int .i64 y, .int .i64 z] 157) := by
  by_cases h : k = 1
  · subst h
    simp only [numsO, if_pos, List.cons.injEq, and_true] at hx
    obtain ⟨rfl, rfl, rfl⟩ := hx
    go_enter Tryz.func146, Tryz.ntmps146
    go_wp2
    exact bodyPost_ret (v := .agg #[.int .i64 a, .int .i64 n, .int .i64 0]) (by simp [results, Tryz.results146, go_sem]) rfl ⟨rfl, rfl⟩
  · have t : (k == 1) = false := by simp [h]
    simp only [numsO, if_neg h, List.cons.injEq, and_true] at hx
    obtain ⟨rfl, rfl, rfl⟩ := hx
    clear h
    go_enter Tryz.func146, Tryz.ntmps146
    go_wp2
    exact bodyPost_ret (v := .agg #[.int .i64 a, .int .i64 b, .int .i64 c]) (by simp [results, Tryz.results146, go_sem]) rfl ⟨rfl, rfl⟩
end Go.Proofs.YtehkjbpgibdgpadGreatDoor
namespace Go.Proofs.YtehkjbpgibdgpadGreatDoor
open Go

section
variable {P : Program} {md : Region.Mode} {ops : Array Oper} {Q : Exit → Act → World → Prop} {S : World → Prop} {late : Nat → Bool}

/-- Whatever order is picked from here on; S holds behind each operation that is not a late one. -/
def AnyTill (P : Program) (md : Region.Mode) (ops : Array Oper) (Q : Exit → Act → World → Prop) (S : World → Prop) (late : Nat → Bool) : Nat → Array Bool → Act → World → Prop
  | 0, listed, a, w => Region.ready md ops listed = [] ∧ Q .normal a w
  | n + 1, listed, a, w => (Region.ready md ops listed = [] → Q .normal a w) ∧
      ∀ i ∈ Region.ready md ops listed, wpOp P ops Q i (fun a' w' => (late i = false → S w') ∧ AnyTill P md ops Q S late n (listed.setIfInBounds i true) a' w') a w

theorem AnyTill.any : ∀ (n : Nat) (listed : Array Bool) (a : Act) (w : World), AnyTill P md ops Q S late n listed a w → wpAny P md ops Q n listed a w
  | 0, _, _, _, h => h
  | n + 1, _, _, _, h => ⟨h.1, fun i hi => wpOp_mono (fun a' w' h' => AnyTill.any n _ a' w' h'.2) (h.2 i hi)⟩

/-- The operation o waits for i, or for one of L. -/
def waitsOn (md : Region.Mode) (L : List Nat) (i : Nat) (o : Oper) : Bool := o.after.any fun e => Region.binds md e && (e.on == i || L.contains e.on)
/-- Each late operation, and each of L, waits for i or for one of L. -/
def waitsBy (md : Region.Mode) (ops : Array Oper) (late : Nat → Bool) (L : List Nat) (i : Nat) : Bool :=
  (List.range ops.size).all fun j => !(late j || L.contains j) || (match ops[j]? with | some o => waitsOn md L i o | none => true)
theorem waitsBy_spec {L : List Nat} {i : Nat} (h : waitsBy md ops late L i = true) {j : Nat} {oj : Oper} (hj : ops[j]? = some oj) (hl : late j = true ∨ j ∈ L) : ∃ e ∈ oj.after, Region.binds md e = true ∧ (e.on = i ∨ e.on ∈ L) := by
  unfold waitsBy at h
  rw [List.all_eq_true] at h
  have h1 := h j (List.mem_range.2 (Array.getElem?_eq_some_iff.1 hj).1)
  have h2 : (late j || L.contains j) = true := by rcases hl with hl | hl <;> simp [hl]
  rw [h2, hj] at h1
  simp only [Bool.not_true, Bool.false_or, waitsOn] at h1
  obtain ⟨e, he, hb⟩ := Array.any_eq_true'.1 h1
  simp only [Bool.and_eq_true, Bool.or_eq_true, beq_iff_eq, List.contains_eq_mem, decide_eq_true_eq] at hb
  exact ⟨e, he, hb.1, hb.2⟩

theorem anyTill_first {i : Nat} {oi : Oper} {v : Value} {L : List Nat} (hi : ops[i]? = some oi) (hsel : ∀ (j : Nat) (o : Oper) cs b, ops[j]? = some o → o.op ≠ .select cs b)
    (hQ : ∀ c a w, Q (.panic c) (a.put oi.dst v) w → Q (.panic c) a w) (hl : waitsBy md ops late L i = true) :
    ∀ (n : Nat) (listed : Array Bool) (a : Act) (w : World),
      (∀ j oj, ops[j]? = some oj → j ≠ i → listed.getD j true = false → (∀ e ∈ oj.after, Region.binds md e = true → e.on ≠ i) → oi.apart ops oj = true) →
      i ∈ Region.ready md ops listed → (∀ l ∈ L, listed.getD l true = false) → YieldsIf P ops S oi v a → S w →
      AnyTill P md ops Q S late n (listed.setIfInBounds i true) (a.put oi.dst v) w → AnyTill P md ops Q S late (n + 1) listed a w := by
  intro n
  induction n with
  | zero =>
    intro listed a w _ hr _ hy hS H
    refine ⟨fun h => (by rw [h] at hr; cases hr), fun j hj => ?_⟩
    by_cases hji : j = i
    · subst hji; exact hy.wpOp hi hS ⟨fun _ => hS, H⟩
    · have := ready_mono hj hji
      rw [H.1] at this; cases this
  | succ n ih =>
    intro listed a w hfree hr hL hy hS H
    refine ⟨fun h => (by rw [h] at hr; cases hr), fun j hj => ?_⟩
    by_cases hji : j = i
    · subst hji; exact hy.wpOp hi hS ⟨fun _ => hS, H⟩
    · have h1 := H.2 j (ready_mono hj hji)
      obtain ⟨hjun, oj, hoj, hall⟩ := mem_ready.1 hj
      have hun : listed.getD i true = false := (mem_ready.1 hr).1
      have hno : ∀ k, listed.getD k true = false → listed.getD k false = true → False := fun k h0 h3 => by
        rcases Nat.lt_or_ge k listed.size with h' | h'
        · simp [h'] at h0 h3; rw [h0] at h3; cases h3
        · simp [Array.getElem?_eq_none h'] at h3
      have hnot : ∀ e ∈ oj.after, Region.binds md e = true → e.on ≠ i := fun e he hb heq => hno i hun (by rw [← heq]; exact hall e he hb)
      have hfree2 : ¬ (late j = true ∨ j ∈ L) := fun hc => by
        obtain ⟨e, he, hb, hon | hon⟩ := waitsBy_spec hl hoj hc
        · exact hnot e he hb hon
        · exact hno e.on (hL e.on hon) (hall e he hb)
      have hearly : late j = false := by cases hlj : late j with
        | false => rfl
        | true => exact absurd (.inl hlj) hfree2
      have h2 := wpOp_putIf hoj (hfree j oj hoj hji hjun hnot) (fun cs b => hsel i oi cs b hi) (fun cs b => hsel j oj cs b hoj) hQ hy h1
      refine wpOp_mono (fun a' w' h3 => ⟨fun _ => h3.2.1 hearly, ih (listed.setIfInBounds j true) a' w' (fun k ok hk hki hku hno => hfree k ok hk hki ?_ hno) (ready_mono hr (Ne.symm hji)) (fun l hl => ?_) h3.1 (h3.2.1 hearly) ?_⟩) h2
      · by_cases hjk : j = k
        · subst hjk; exact hjun
        · rw [getD_set_ne true hjk] at hku; exact hku
      · rw [getD_set_ne true (fun (e : j = l) => hfree2 (.inr (by rw [e]; exact hl)))]; exact hL l hl
      · rw [Array.setIfInBounds_comm _ _ hji]; exact h3.2.2

/-- The same behind a wall that no unifier looks through. -/
structure AnyT (P : Program) (md : Region.Mode) (ops : Array Oper) (Q : Exit → Act → World → Prop) (S : World → Prop) (late : Nat → Bool) (n : Nat) (listed : Array Bool) (a : Act) (w : World) : Prop where
  out : AnyTill P md ops Q S late n listed a w

theorem anyT_take (i : Nat) (L : List Nat) (v : Value) {oi : Oper} {n : Nat} {listed : Array Bool} {a : Act} {w : World} (hi : ops[i]? = some oi)
    (hs : Region.noSelect ops = true) (hf : Region.free md ops listed i = true) (hr : (Region.ready md ops listed).contains i = true) (hl : waitsBy md ops late L i = true) (hL : (L.all fun l => listed.getD l true == false) = true)
    (hQ : ∀ c a w, Q (.panic c) (a.put oi.dst v) w → Q (.panic c) a w) (hy : YieldsIf P ops S oi v a) (hS : S w)
    (h : AnyT P md ops Q S late n (listed.setIfInBounds i true) (a.put oi.dst v) w) : AnyT P md ops Q S late (n + 1) listed a w :=
  ⟨anyTill_first hi (Region.noSelect_spec hs) hQ hl n listed a w (Region.free_spec hi hf) (by simpa using hr) (fun l hl => by have := List.all_eq_true.1 hL l hl; simpa using this) hy hS h.out⟩

/-- Each of rs comes up next. -/
structure EachT (P : Program) (md : Region.Mode) (ops : Array Oper) (Q : Exit → Act → World → Prop) (S : World → Prop) (late : Nat → Bool) (n : Nat) (listed : Array Bool) (a : Act) (w : World) (rs : List Nat) : Prop where
  out : ∀ i ∈ rs, wpOp P ops Q i (fun a' w' => (late i = false → S w') ∧ AnyTill P md ops Q S late n (listed.setIfInBounds i true) a' w') a w
theorem EachT.nil {n : Nat} {listed : Array Bool} {a : Act} {w : World} : EachT P md ops Q S late n listed a w [] := ⟨fun _ h => by cases h⟩
theorem EachT.cons {n : Nat} {listed : Array Bool} {a : Act} {w : World} {i : Nat} {o : Oper} {rs : List Nat} (ho : ops[i]? = some o)
    (h : ∀ K' : Act → World → Prop, Shut (∀ a w, (late i = false → S w) → AnyT P md ops Q S late n (listed.setIfInBounds i true) a w → K' a w) → if Region.wanted o (yielded ops a.tmps) = true then Oper.wp P o a w K' Q else K' (a.put o.dst undef) w)
    (hs : EachT P md ops Q S late n listed a w rs) : EachT P md ops Q S late n listed a w (i :: rs) := ⟨fun j hj => by
  rcases List.mem_cons.1 hj with rfl | hj
  · exact wpOp_step ho (fun K' hK => h K' (fun a w hS hW => hK a w ⟨hS, hW.out⟩))
  · exact hs.out j hj⟩
theorem anyT_ready (rs : List Nat) {n : Nat} {listed : Array Bool} {a : Act} {w : World} (hr : Region.ready md ops listed = rs) (hne : rs ≠ [])
    (h : EachT P md ops Q S late n listed a w rs) : AnyT P md ops Q S late (n + 1) listed a w := ⟨⟨fun h0 => absurd (hr ▸ h0) hne, hr ▸ h.out⟩⟩
theorem anyT_done {listed : Array Bool} {a : Act} {w : World} (hr : Region.ready md ops listed = []) (h : Q .normal a w) : AnyT P md ops Q S late 0 listed a w := ⟨⟨hr, h⟩⟩
theorem wp_region_till {id : Nat} {a : Act} {w : World} (late : Nat → Bool) (hm : P.follows .mixedOrders = true) (hS : S w.drew)
    (h : S w.drew → AnyT P .any ops Q S late ops.size (Array.replicate ops.size false) a w.drew) : (Code.region id ops true).wp P Q a w :=
  wp_region_any hm (AnyTill.any _ _ _ _ (h hS).out)
end
end Go.Proofs.YtehkjbpgibdgpadGreatDoor
namespace Go.Proofs.YtehkjbpgibdgpadGreatDoor
open Go.RowKit

theorem numsO_three (o : Op5) : ∃ x y z, numsO o = [x, y, z] := by
  unfold numsO; split
  · exact ⟨_, _, _, rfl⟩
  · exact ⟨_, _, _, rfl⟩

set_option maxRecDepth 100000 in
set_option maxHeartbeats 8000000 in
theorem printOp_any (o : Op5) (h1 : 1 ≤ o.k) (h9 : o.k ≤ 9) (h64 : Op64 o) (b : Nat) (l : List UInt8) (w0 w : World) (hE : Env w0) (h0 : Below w0.heap.size w0 w) (hb0 : w0.heap.size ≤ b) (hB : Bd b l w) (hlen : l.length ≤ 70368744177664) :
    Calls Tryz.prog 120 #[.pointer (some ⟨b, 0, none⟩), opV9 o] w fun e w' => e = .returned (.tuple #[]) ∧ Bd b (l ++ opB9 o) w' ∧ Below b w w' ∧ Kept9 b w w' := by
  have hn64 := numsO_64 h64
  obtain ⟨x, y, z, hxyz⟩ := numsO_three o
  obtain ⟨k, hk⟩ : ∃ k : Nat, o.k = (k : Int) := ⟨o.k.toNat, by omega⟩
  have hk9 : k < 10 := by omega
  have hki : ¬ (10 : Int) ≤ (k : Int) := by omega
  have hkj : (k : Int) < 10 := by omega
  have hE1 := hE.later h0
  obtain ⟨f0, f1⟩ := hE1.form k hk9
  have ft := World.block_lt_of_cell? w _ f0
  have hlt := hB.lt
  have HOB : Hid (opB9 o = wordK k ++ numsB ([x, y, z].take (manyK k))) := by show _ = _; rw [opB9, hk, hxyz]; rfl
  obtain ⟨ok, oa, ob, oc, on⟩ := o
  unfold opV9
  dsimp only at hk h1 h9 ⊢
  subst hk
  have hnum := numbers_any (k : Int) oa ob oc on x y z hxyz
  go_enter Tryz.func120, Tryz.ntmps120
  go_wp2_with fail
  have b0 : (w.alloc (.cells #[.int .i64 (k : Int), .int .i64 oa, .int .i64 ob, .int .i64 oc, .int .i64 on] 121)).cell? ⟨w.heap.size, 0, none⟩ = some (.int .i64 (k : Int)) := by simp
  have b1 : (w.alloc (.cells #[.int .i64 (k : Int), .int .i64 oa, .int .i64 ob, .int .i64 oc, .int .i64 on] 121)).cell? ⟨w.heap.size, 1, none⟩ = some (.int .i64 oa) := by simp
  have b2 : (w.alloc (.cells #[.int .i64 (k : Int), .int .i64 oa, .int .i64 ob, .int .i64 oc, .int .i64 on] 121)).cell? ⟨w.heap.size, 2, none⟩ = some (.int .i64 ob) := by simp
  have b3 : (w.alloc (.cells #[.int .i64 (k : Int), .int .i64 oa, .int .i64 ob, .int .i64 oc, .int .i64 on] 121)).cell? ⟨w.heap.size, 3, none⟩ = some (.int .i64 oc) := by simp
  have b4 : (w.alloc (.cells #[.int .i64 (k : Int), .int .i64 oa, .int .i64 ob, .int .i64 oc, .int .i64 on] 121)).cell? ⟨w.heap.size, 4, none⟩ = some (.int .i64 on) := by simp
  have hbW : Below w.heap.size w (w.alloc (.cells #[.int .i64 (k : Int), .int .i64 oa, .int .i64 ob, .int .i64 oc, .int .i64 on] 121)) := (Below.refl _ _).alloc (Nat.le_refl _) _
  replace f0 := cell_later hbW f0
  replace f1 := cell_later hbW f1
  have hzW : (w.alloc (.cells #[.int .i64 (k : Int), .int .i64 oa, .int .i64 ob, .int .i64 oc, .int .i64 on] 121)).heap.size = w.heap.size + 1 := by simp
  obtain ⟨W0, hW0⟩ : ∃ W0, W0 = w.alloc (.cells #[.int .i64 (k : Int), .int .i64 oa, .int .i64 ob, .int .i64 oc, .int .i64 on] 121) := ⟨_, rfl⟩
  rw [← hW0] at b0 b1 b2 b3 b4 hbW f0 f1 hzW ⊢
  clear hW0
  go_cut [4, 5] from 7 (fun p4 p5 wc => ∃ F N, p4 = .pointer (some ⟨F, 0, none⟩) ∧ p5 = .pointer (some ⟨N, 0, none⟩) ∧ W0.heap.size ≤ F ∧ W0.heap.size ≤ N ∧ Blk wc F #[.string (strB (wordK k)), .int .i64 ((manyK k : Nat) : Int)] 155 ∧ Blk wc N #[.int .i64 x, .int .i64 y, .int .i64 z] 157 ∧ Below W0.heap.size W0 wc)
  case first =>
    refine wp_region_till (S := fun w' => Below W0.heap.size W0 w') (fun _ => false) (by kernel_rfl) ((Below.refl _ _).drew) (fun hS => ?_)
    refine anyT_take 0 [] (.pointer (some ⟨w.heap.size, 0, none⟩)) rfl (by kernel_rfl) (by kernel_rfl) (by kernel_rfl) (by kernel_rfl) (by kernel_rfl) (fun _ _ _ h => h) (Or.inl ⟨by kernel_rfl, ?_⟩) hS ?_
    · intro w' hb'
      go_simp
    refine anyT_take 1 [] (.int .i64 (k : Int)) rfl (by kernel_rfl) (by kernel_rfl) (by kernel_rfl) (by kernel_rfl) (by kernel_rfl) (fun _ _ _ h => h) (Or.inl ⟨by kernel_rfl, ?_⟩) hS ?_
    · intro w' hb'
      have g0 := cell_later hb' b0
      go_simp
    refine anyT_take 2 [] (.pointer (some ⟨3, k * 2, none⟩)) rfl (by kernel_rfl) (by kernel_rfl) (by kernel_rfl) (by kernel_rfl) (by kernel_rfl) (fun _ _ _ h => h) (Or.inl ⟨by kernel_rfl, ?_⟩) hS ?_
    · intro w' hb'
      go_simp
    refine anyT_take 3 [] (.agg #[.string (strB (wordK k)), .int .i64 ((manyK k : Nat) : Int)]) rfl (by kernel_rfl) (by kernel_rfl) (by kernel_rfl) (by kernel_rfl) (by kernel_rfl) (fun _ _ _ h => h) (Or.inl ⟨by kernel_rfl, ?_⟩) hS ?_
    · intro w' hb'
      have g0 := cell_later hb' f0
      have g1 := cell_later hb' f1
      go_simp
    refine anyT_take 4 [] (.agg #[.int .i64 (k : Int), .int .i64 oa, .int .i64 ob, .int .i64 oc, .int .i64 on]) rfl (by kernel_rfl) (by kernel_rfl) (by kernel_rfl) (by kernel_rfl) (by kernel_rfl) (fun _ _ _ h => h) (Or.inl ⟨by kernel_rfl, ?_⟩) hS ?_
    · intro w' hb'
      have g0 := cell_later hb' b0
      have g1 := cell_later hb' b1
      have g2 := cell_later hb' b2
      have g3 := cell_later hb' b3
      have g4 := cell_later hb' b4
      go_simp
    obtain ⟨v0, hv0⟩ : ∃ v0, v0 = W0.drew := ⟨_, rfl⟩
    rw [← hv0] at hS ⊢
    clear hv0
    refine anyT_ready [5, 6, 7] (by kernel_rfl) (by simp) ?_
    refine EachT.cons rfl (fun K hK => ?_) (EachT.cons rfl (fun K hK => ?_) (EachT.cons rfl (fun K hK => ?_) (EachT.nil)))
    · simp only [List.getElem_toArray, List.getElem_cons_zero, List.getElem_cons_succ]
      go_simp
      refine (hnum v0).mono ?_
      rintro e v1 ⟨rfl, hu⟩
      have hb : Below v0.heap.size v0 v1 := by rw [hu]; exact below_alloc2 _ _ _
      clear hu
      replace hS : Below W0.heap.size W0 v1 := hS.trans (hb.mono hS.size)
      (try go_wp2_with fail)
      refine hK.out _ _ (fun _ => hS) ?_
      clear hK K hb
      refine anyT_ready [6, 7] (by kernel_rfl) (by simp) ?_
      refine EachT.cons rfl (fun K hK => ?_) (EachT.cons rfl (fun K hK => ?_) (EachT.nil))
      · simp only [List.getElem_toArray, List.getElem_cons_zero, List.getElem_cons_succ]
        go_simp
        obtain ⟨v2, hu⟩ : ∃ u, u = v1.alloc (.cells #[.string ⟨#[]⟩, .int .i64 0] 155) := ⟨_, rfl⟩
        have hb : Below v1.heap.size v1 v2 := by rw [hu]; exact (Below.refl _ _).alloc (Nat.le_refl _) _
        have hFx : Blk v2 v1.heap.size #[.string ⟨#[]⟩, .int .i64 0] 155 := by rw [hu]; exact blk_new _ _ _
        rw [← hu]
        clear hu
        have hsz := hS.size
        replace hS : Below W0.heap.size W0 v2 := hS.trans (hb.mono hS.size)
        obtain ⟨Fn, hFn⟩ : ∃ n, n = v1.heap.size := ⟨_, rfl⟩
        rw [← hFn] at hFx ⊢
        have hF := hFx
        have hFnl : W0.heap.size ≤ Fn := by omega
        clear hFx hFn hsz
        refine hK.out _ _ (fun _ => hS) ?_
        clear hK K hb
        refine anyT_ready [7] (by kernel_rfl) (by simp) ?_
        refine EachT.cons rfl (fun K hK => ?_) (EachT.nil)
        · simp only [List.getElem_toArray, List.getElem_cons_zero, List.getElem_cons_succ]
          go_simp
          obtain ⟨v3, hu⟩ : ∃ u, u = v2.alloc (.cells #[.int .i64 0, .int .i64 0, .int .i64 0] 157) := ⟨_, rfl⟩
          have hb : Below v2.heap.size v2 v3 := by rw [hu]; exact (Below.refl _ _).alloc (Nat.le_refl _) _
          have hNx : Blk v3 v2.heap.size #[.int .i64 0, .int .i64 0, .int .i64 0] 157 := by rw [hu]; exact blk_new _ _ _
          rw [← hu]
          clear hu
          have hsz := hS.size
          have hlt' := hF.lt
          replace hF := hF.later hb
          replace hS : Below W0.heap.size W0 v3 := hS.trans (hb.mono hS.size)
          obtain ⟨Nn, hNn⟩ : ∃ n, n = v2.heap.size := ⟨_, rfl⟩
          rw [← hNn] at hNx ⊢
          have hN := hNx
          have hNnl : W0.heap.size ≤ Nn := by omega
          have hne : Fn ≠ Nn := by omega
          clear hNx hNn hsz hlt'
          refine hK.out _ _ (fun _ => hS) ?_
          clear hK K hb
          refine anyT_ready [8] (by kernel_rfl) (by simp) ?_
          refine EachT.cons rfl (fun K hK => ?_) EachT.nil
          have e0 := hF.cell 0
          have e1 := hF.cell 1
          have e2 := hF.free
          have e3 := hF.lt
          simp only [List.getElem?_toArray, List.getElem?_cons_zero, List.getElem?_cons_succ] at e0 e1
          simp only [List.getElem_toArray, List.getElem_cons_zero, List.getElem_cons_succ]
          go_simp
          obtain ⟨v4, hu⟩ : ∃ u, u = (v3.setCell ⟨Fn, 0, none⟩ (.string (strB (wordK k)))).setCell ⟨Fn, 1, none⟩ (.int .i64 ((manyK k : Nat) : Int)) := ⟨_, rfl⟩
          have hS4 : Below W0.heap.size W0 v4 := by rw [hu]; exact (hS.setCell (p := ⟨Fn, 0, none⟩) hFnl _).setCell (p := ⟨Fn, 1, none⟩) hFnl _
          have hF4 : Blk v4 Fn #[.string (strB (wordK k)), .int .i64 ((manyK k : Nat) : Int)] 155 := by rw [hu]; exact (hF.set 0 _).set 1 _
          have hN4 : Blk v4 Nn #[.int .i64 0, .int .i64 0, .int .i64 0] 157 := by rw [hu]; exact (hN.other (fun e => hne e) _ _).other (fun e => hne e) _ _
          rw [← hu]
          refine hK.out _ _ (fun _ => hS4) ?_
          clear hK K hu e0 e1 e2 e3 hF hN hS
          refine anyT_ready [9] (by kernel_rfl) (by simp) ?_
          refine EachT.cons rfl (fun K hK => ?_) EachT.nil
          have e0 := hN4.cell 0
          have e1 := hN4.cell 1
          have e4 := hN4.cell 2
          have e2 := hN4.free
          have e3 := hN4.lt
          simp only [List.getElem?_toArray, List.getElem?_cons_zero, List.getElem?_cons_succ] at e0 e1 e4
          simp only [List.getElem_toArray, List.getElem_cons_zero, List.getElem_cons_succ]
          go_simp
          obtain ⟨v5, hu⟩ : ∃ u, u = ((v4.setCell ⟨Nn, 0, none⟩ (.int .i64 x)).setCell ⟨Nn, 1, none⟩ (.int .i64 y)).setCell ⟨Nn, 2, none⟩ (.int .i64 z) := ⟨_, rfl⟩
          have hS5 : Below W0.heap.size W0 v5 := by rw [hu]; exact ((hS4.setCell (p := ⟨Nn, 0, none⟩) hNnl _).setCell (p := ⟨Nn, 1, none⟩) hNnl _).setCell (p := ⟨Nn, 2, none⟩) hNnl _
          have hN5 : Blk v5 Nn #[.int .i64 x, .int .i64 y, .int .i64 z] 157 := by rw [hu]; exact ((hN4.set 0 _).set 1 _).set 2 _
          have hF5 : Blk v5 Fn #[.string (strB (wordK k)), .int .i64 ((manyK k : Nat) : Int)] 155 := by rw [hu]; exact ((hF4.other (fun e => hne e.symm) _ _).other (fun e => hne e.symm) _ _).other (fun e => hne e.symm) _ _
          rw [← hu]
          refine hK.out _ _ (fun _ => hS5) ?_
          clear hK K hu e0 e1 e2 e3 e4 hF4 hN4 hS4
          refine anyT_done (by kernel_rfl) ?_
          (try go_wp2_with fail)
          go_meet
          exact ⟨Fn, Nn, rfl, rfl, hFnl, hNnl, hF5, hN5, hS5⟩
      · simp only [List.getElem_toArray, List.getElem_cons_zero, List.getElem_cons_succ]
        go_simp
        obtain ⟨v2, hu⟩ : ∃ u, u = v1.alloc (.cells #[.int .i64 0, .int .i64 0, .int .i64 0] 157) := ⟨_, rfl⟩
        have hb : Below v1.heap.size v1 v2 := by rw [hu]; exact (Below.refl _ _).alloc (Nat.le_refl _) _
        have hNx : Blk v2 v1.heap.size #[.int .i64 0, .int .i64 0, .int .i64 0] 157 := by rw [hu]; exact blk_new _ _ _
        rw [← hu]
        clear hu
        have hsz := hS.size
        replace hS : Below W0.heap.size W0 v2 := hS.trans (hb.mono hS.size)
        obtain ⟨Nn, hNn⟩ : ∃ n, n = v1.heap.size := ⟨_, rfl⟩
        rw [← hNn] at hNx ⊢
        have hN := hNx
        have hNnl : W0.heap.size ≤ Nn := by omega
        clear hNx hNn hsz
        refine hK.out _ _ (fun _ => hS) ?_
        clear hK K hb
        refine anyT_ready [6] (by kernel_rfl) (by simp) ?_
        refine EachT.cons rfl (fun K hK => ?_) (EachT.nil)
        · simp only [List.getElem_toArray, List.getElem_cons_zero, List.getElem_cons_succ]
          go_simp
          obtain ⟨v3, hu⟩ : ∃ u, u = v2.alloc (.cells #[.string ⟨#[]⟩, .int .i64 0] 155) := ⟨_, rfl⟩
          have hb : Below v2.heap.size v2 v3 := by rw [hu]; exact (Below.refl _ _).alloc (Nat.le_refl _) _
          have hFx : Blk v3 v2.heap.size #[.string ⟨#[]⟩, .int .i64 0] 155 := by rw [hu]; exact blk_new _ _ _
          rw [← hu]
          clear hu
          have hsz := hS.size
          have hlt' := hN.lt
          replace hN := hN.later hb
          replace hS : Below W0.heap.size W0 v3 := hS.trans (hb.mono hS.size)
          obtain ⟨Fn, hFn⟩ : ∃ n, n = v2.heap.size := ⟨_, rfl⟩
          rw [← hFn] at hFx ⊢
          have hF := hFx
          have hFnl : W0.heap.size ≤ Fn := by omega
          have hne : Fn ≠ Nn := by omega
          clear hFx hFn hsz hlt'
          refine hK.out _ _ (fun _ => hS) ?_
          clear hK K hb
          refine anyT_ready [8] (by kernel_rfl) (by simp) ?_
          refine EachT.cons rfl (fun K hK => ?_) EachT.nil
          have e0 := hF.cell 0
          have e1 := hF.cell 1
          have e2 := hF.free
          have e3 := hF.lt
          simp only [List.getElem?_toArray, List.getElem?_cons_zero, List.getElem?_cons_succ] at e0 e1
          simp only [List.getElem_toArray, List.getElem_cons_zero, List.getElem_cons_succ]
          go_simp
          obtain ⟨v4, hu⟩ : ∃ u, u = (v3.setCell ⟨Fn, 0, none⟩ (.string (strB (wordK k)))).setCell ⟨Fn, 1, none⟩ (.int .i64 ((manyK k : Nat) : Int)) := ⟨_, rfl⟩
          have hS4 : Below W0.heap.size W0 v4 := by rw [hu]; exact (hS.setCell (p := ⟨Fn, 0, none⟩) hFnl _).setCell (p := ⟨Fn, 1, none⟩) hFnl _
          have hF4 : Blk v4 Fn #[.string (strB (wordK k)), .int .i64 ((manyK k : Nat) : Int)] 155 := by rw [hu]; exact (hF.set 0 _).set 1 _
          have hN4 : Blk v4 Nn #[.int .i64 0, .int .i64 0, .int .i64 0] 157 := by rw [hu]; exact (hN.other (fun e => hne e) _ _).other (fun e => hne e) _ _
          rw [← hu]
          refine hK.out _ _ (fun _ => hS4) ?_
          clear hK K hu e0 e1 e2 e3 hF hN hS
          refine anyT_ready [9] (by kernel_rfl) (by simp) ?_
          refine EachT.cons rfl (fun K hK => ?_) EachT.nil
          have e0 := hN4.cell 0
          have e1 := hN4.cell 1
          have e4 := hN4.cell 2
          have e2 := hN4.free
          have e3 := hN4.lt
          simp only [List.getElem?_toArray, List.getElem?_cons_zero, List.getElem?_cons_succ] at e0 e1 e4
          simp only [List.getElem_toArray, List.getElem_cons_zero, List.getElem_cons_succ]
          go_simp
          obtain ⟨v5, hu⟩ : ∃ u, u = ((v4.setCell ⟨Nn, 0, none⟩ (.int .i64 x)).setCell ⟨Nn, 1, none⟩ (.int .i64 y)).setCell ⟨Nn, 2, none⟩ (.int .i64 z) := ⟨_, rfl⟩
          have hS5 : Below W0.heap.size W0 v5 := by rw [hu]; exact ((hS4.setCell (p := ⟨Nn, 0, none⟩) hNnl _).setCell (p := ⟨Nn, 1, none⟩) hNnl _).setCell (p := ⟨Nn, 2, none⟩) hNnl _
          have hN5 : Blk v5 Nn #[.int .i64 x, .int .i64 y, .int .i64 z] 157 := by rw [hu]; exact ((hN4.set 0 _).set 1 _).set 2 _
          have hF5 : Blk v5 Fn #[.string (strB (wordK k)), .int .i64 ((manyK k : Nat) : Int)] 155 := by rw [hu]; exact ((hF4.other (fun e => hne e.symm) _ _).other (fun e => hne e.symm) _ _).other (fun e => hne e.symm) _ _
          rw [← hu]
          refine hK.out _ _ (fun _ => hS5) ?_
          clear hK K hu e0 e1 e2 e3 e4 hF4 hN4 hS4
          refine anyT_done (by kernel_rfl) ?_
          (try go_wp2_with fail)
          go_meet
          exact ⟨Fn, Nn, rfl, rfl, hFnl, hNnl, hF5, hN5, hS5⟩
    · simp only [List.getElem_toArray, List.getElem_cons_zero, List.getElem_cons_succ]
      go_simp
      obtain ⟨v1, hu⟩ : ∃ u, u = v0.alloc (.cells #[.string ⟨#[]⟩, .int .i64 0] 155) := ⟨_, rfl⟩
      have hb : Below v0.heap.size v0 v1 := by rw [hu]; exact (Below.refl _ _).alloc (Nat.le_refl _) _
      have hFx : Blk v1 v0.heap.size #[.string ⟨#[]⟩, .int .i64 0] 155 := by rw [hu]; exact blk_new _ _ _
      rw [← hu]
      clear hu
      have hsz := hS.size
      replace hS : Below W0.heap.size W0 v1 := hS.trans (hb.mono hS.size)
      obtain ⟨Fn, hFn⟩ : ∃ n, n = v0.heap.size := ⟨_, rfl⟩
      rw [← hFn] at hFx ⊢
      have hF := hFx
      have hFnl : W0.heap.size ≤ Fn := by omega
      clear hFx hFn hsz
      refine hK.out _ _ (fun _ => hS) ?_
      clear hK K hb
      refine anyT_ready [5, 7] (by kernel_rfl) (by simp) ?_
      refine EachT.cons rfl (fun K hK => ?_) (EachT.cons rfl (fun K hK => ?_) (EachT.nil))
      · simp only [List.getElem_toArray, List.getElem_cons_zero, List.getElem_cons_succ]
        go_simp
        refine (hnum v1).mono ?_
        rintro e v2 ⟨rfl, hu⟩
        have hb : Below v1.heap.size v1 v2 := by rw [hu]; exact below_alloc2 _ _ _
        clear hu
        replace hF := hF.later hb
        replace hS : Below W0.heap.size W0 v2 := hS.trans (hb.mono hS.size)
        (try go_wp2_with fail)
        refine hK.out _ _ (fun _ => hS) ?_
        clear hK K hb
        refine anyT_ready [7] (by kernel_rfl) (by simp) ?_
        refine EachT.cons rfl (fun K hK => ?_) (EachT.nil)
        · simp only [List.getElem_toArray, List.getElem_cons_zero, List.getElem_cons_succ]
          go_simp
          obtain ⟨v3, hu⟩ : ∃ u, u = v2.alloc (.cells #[.int .i64 0, .int .i64 0, .int .i64 0] 157) := ⟨_, rfl⟩
          have hb : Below v2.heap.size v2 v3 := by rw [hu]; exact (Below.refl _ _).alloc (Nat.le_refl _) _
          have hNx : Blk v3 v2.heap.size #[.int .i64 0, .int .i64 0, .int .i64 0] 157 := by rw [hu]; exact blk_new _ _ _
          rw [← hu]
          clear hu
          have hsz := hS.size
          have hlt' := hF.lt
          replace hF := hF.later hb
          replace hS : Below W0.heap.size W0 v3 := hS.trans (hb.mono hS.size)
          obtain ⟨Nn, hNn⟩ : ∃ n, n = v2.heap.size := ⟨_, rfl⟩
          rw [← hNn] at hNx ⊢
          have hN := hNx
          have hNnl : W0.heap.size ≤ Nn := by omega
          have hne : Fn ≠ Nn := by omega
          clear hNx hNn hsz hlt'
          refine hK.out _ _ (fun _ => hS) ?_
          clear hK K hb
          refine anyT_ready [8] (by kernel_rfl) (by simp) ?_
          refine EachT.cons rfl (fun K hK => ?_) EachT.nil
          have e0 := hF.cell 0
          have e1 := hF.cell 1
          have e2 := hF.free
          have e3 := hF.lt
          simp only [List.getElem?_toArray, List.getElem?_cons_zero, List.getElem?_cons_succ] at e0 e1
          simp only [List.getElem_toArray, List.getElem_cons_zero, List.getElem_cons_succ]
          go_simp
          obtain ⟨v4, hu⟩ : ∃ u, u = (v3.setCell ⟨Fn, 0, none⟩ (.string (strB (wordK k)))).setCell ⟨Fn, 1, none⟩ (.int .i64 ((manyK k : Nat) : Int)) := ⟨_, rfl⟩
          have hS4 : Below W0.heap.size W0 v4 := by rw [hu]; exact (hS.setCell (p := ⟨Fn, 0, none⟩) hFnl _).setCell (p := ⟨Fn, 1, none⟩) hFnl _
          have hF4 : Blk v4 Fn #[.string (strB (wordK k)), .int .i64 ((manyK k : Nat) : Int)] 155 := by rw [hu]; exact (hF.set 0 _).set 1 _
          have hN4 : Blk v4 Nn #[.int .i64 0, .int .i64 0, .int .i64 0] 157 := by rw [hu]; exact (hN.other (fun e => hne e) _ _).other (fun e => hne e) _ _
          rw [← hu]
          refine hK.out _ _ (fun _ => hS4) ?_
          clear hK K hu e0 e1 e2 e3 hF hN hS
          refine anyT_ready [9] (by kernel_rfl) (by simp) ?_
          refine EachT.cons rfl (fun K hK => ?_) EachT.nil
          have e0 := hN4.cell 0
          have e1 := hN4.cell 1
          have e4 := hN4.cell 2
          have e2 := hN4.free
          have e3 := hN4.lt
          simp only [List.getElem?_toArray, List.getElem?_cons_zero, List.getElem?_cons_succ] at e0 e1 e4
          simp only [List.getElem_toArray, List.getElem_cons_zero, List.getElem_cons_succ]
          go_simp
          obtain ⟨v5, hu⟩ : ∃ u, u = ((v4.setCell ⟨Nn, 0, none⟩ (.int .i64 x)).setCell ⟨Nn, 1, none⟩ (.int .i64 y)).setCell ⟨Nn, 2, none⟩ (.int .i64 z) := ⟨_, rfl⟩
          have hS5 : Below W0.heap.size W0 v5 := by rw [hu]; exact ((hS4.setCell (p := ⟨Nn, 0, none⟩) hNnl _).setCell (p := ⟨Nn, 1, none⟩) hNnl _).setCell (p := ⟨Nn, 2, none⟩) hNnl _
          have hN5 : Blk v5 Nn #[.int .i64 x, .int .i64 y, .int .i64 z] 157 := by rw [hu]; exact ((hN4.set 0 _).set 1 _).set 2 _
          have hF5 : Blk v5 Fn #[.string (strB (wordK k)), .int .i64 ((manyK k : Nat) : Int)] 155 := by rw [hu]; exact ((hF4.other (fun e => hne e.symm) _ _).other (fun e => hne e.symm) _ _).other (fun e => hne e.symm) _ _
          rw [← hu]
          refine hK.out _ _ (fun _ => hS5) ?_
          clear hK K hu e0 e1 e2 e3 e4 hF4 hN4 hS4
          refine anyT_done (by kernel_rfl) ?_
          (try go_wp2_with fail)
          go_meet
          exact ⟨Fn, Nn, rfl, rfl, hFnl, hNnl, hF5, hN5, hS5⟩
      · simp only [List.getElem_toArray, List.getElem_cons_zero, List.getElem_cons_succ]
        go_simp
        obtain ⟨v2, hu⟩ : ∃ u, u = v1.alloc (.cells #[.int .i64 0, .int .i64 0, .int .i64 0] 157) := ⟨_, rfl⟩
        have hb : Below v1.heap.size v1 v2 := by rw [hu]; exact (Below.refl _ _).alloc (Nat.le_refl _) _
        have hNx : Blk v2 v1.heap.size #[.int .i64 0, .int .i64 0, .int .i64 0] 157 := by rw [hu]; exact blk_new _ _ _
        rw [← hu]
        clear hu
        have hsz := hS.size
        have hlt' := hF.lt
        replace hF := hF.later hb
        replace hS : Below W0.heap.size W0 v2 := hS.trans (hb.mono hS.size)
        obtain ⟨Nn, hNn⟩ : ∃ n, n = v1.heap.size := ⟨_, rfl⟩
        rw [← hNn] at hNx ⊢
        have hN := hNx
        have hNnl : W0.heap.size ≤ Nn := by omega
        have hne : Fn ≠ Nn := by omega
        clear hNx hNn hsz hlt'
        refine hK.out _ _ (fun _ => hS) ?_
        clear hK K hb
        refine anyT_ready [5] (by kernel_rfl) (by simp) ?_
        refine EachT.cons rfl (fun K hK => ?_) (EachT.nil)
        · simp only [List.getElem_toArray, List.getElem_cons_zero, List.getElem_cons_succ]
          go_simp
          refine (hnum v2).mono ?_
          rintro e v3 ⟨rfl, hu⟩
          have hb : Below v2.heap.size v2 v3 := by rw [hu]; exact below_alloc2 _ _ _
          clear hu
          replace hF := hF.later hb
          replace hN := hN.later hb
          replace hS : Below W0.heap.size W0 v3 := hS.trans (hb.mono hS.size)
          (try go_wp2_with fail)
          refine hK.out _ _ (fun _ => hS) ?_
          clear hK K hb
          refine anyT_ready [8] (by kernel_rfl) (by simp) ?_
          refine EachT.cons rfl (fun K hK => ?_) EachT.nil
          have e0 := hF.cell 0
          have e1 := hF.cell 1
          have e2 := hF.free
          have e3 := hF.lt
          simp only [List.getElem?_toArray, List.getElem?_cons_zero, List.getElem?_cons_succ] at e0 e1
          simp only [List.getElem_toArray, List.getElem_cons_zero, List.getElem_cons_succ]
          go_simp
          obtain ⟨v4, hu⟩ : ∃ u, u = (v3.setCell ⟨Fn, 0, none⟩ (.string (strB (wordK k)))).setCell ⟨Fn, 1, none⟩ (.int .i64 ((manyK k : Nat) : Int)) := ⟨_, rfl⟩
          have hS4 : Below W0.heap.size W0 v4 := by rw [hu]; exact (hS.setCell (p := ⟨Fn, 0, none⟩) hFnl _).setCell (p := ⟨Fn, 1, none⟩) hFnl _
          have hF4 : Blk v4 Fn #[.string (strB (wordK k)), .int .i64 ((manyK k : Nat) : Int)] 155 := by rw [hu]; exact (hF.set 0 _).set 1 _
          have hN4 : Blk v4 Nn #[.int .i64 0, .int .i64 0, .int .i64 0] 157 := by rw [hu]; exact (hN.other (fun e => hne e) _ _).other (fun e => hne e) _ _
          rw [← hu]
          refine hK.out _ _ (fun _ => hS4) ?_
          clear hK K hu e0 e1 e2 e3 hF hN hS
          refine anyT_ready [9] (by kernel_rfl) (by simp) ?_
          refine EachT.cons rfl (fun K hK => ?_) EachT.nil
          have e0 := hN4.cell 0
          have e1 := hN4.cell 1
          have e4 := hN4.cell 2
          have e2 := hN4.free
          have e3 := hN4.lt
          simp only [List.getElem?_toArray, List.getElem?_cons_zero, List.getElem?_cons_succ] at e0 e1 e4
          simp only [List.getElem_toArray, List.getElem_cons_zero, List.getElem_cons_succ]
          go_simp
          obtain ⟨v5, hu⟩ : ∃ u, u = ((v4.setCell ⟨Nn, 0, none⟩ (.int .i64 x)).setCell ⟨Nn, 1, none⟩ (.int .i64 y)).setCell ⟨Nn, 2, none⟩ (.int .i64 z) := ⟨_, rfl⟩
          have hS5 : Below W0.heap.size W0 v5 := by rw [hu]; exact ((hS4.setCell (p := ⟨Nn, 0, none⟩) hNnl _).setCell (p := ⟨Nn, 1, none⟩) hNnl _).setCell (p := ⟨Nn, 2, none⟩) hNnl _
          have hN5 : Blk v5 Nn #[.int .i64 x, .int .i64 y, .int .i64 z] 157 := by rw [hu]; exact ((hN4.set 0 _).set 1 _).set 2 _
          have hF5 : Blk v5 Fn #[.string (strB (wordK k)), .int .i64 ((manyK k : Nat) : Int)] 155 := by rw [hu]; exact ((hF4.other (fun e => hne e.symm) _ _).other (fun e => hne e.symm) _ _).other (fun e => hne e.symm) _ _
          rw [← hu]
          refine hK.out _ _ (fun _ => hS5) ?_
          clear hK K hu e0 e1 e2 e3 e4 hF4 hN4 hS4
          refine anyT_done (by kernel_rfl) ?_
          (try go_wp2_with fail)
          go_meet
          exact ⟨Fn, Nn, rfl, rfl, hFnl, hNnl, hF5, hN5, hS5⟩
    · simp only [List.getElem_toArray, List.getElem_cons_zero, List.getElem_cons_succ]
      go_simp
      obtain ⟨v1, hu⟩ : ∃ u, u = v0.alloc (.cells #[.int .i64 0, .int .i64 0, .int .i64 0] 157) := ⟨_, rfl⟩
      have hb : Below v0.heap.size v0 v1 := by rw [hu]; exact (Below.refl _ _).alloc (Nat.le_refl _) _
      have hNx : Blk v1 v0.heap.size #[.int .i64 0, .int .i64 0, .int .i64 0] 157 := by rw [hu]; exact blk_new _ _ _
      rw [← hu]
      clear hu
      have hsz := hS.size
      replace hS : Below W0.heap.size W0 v1 := hS.trans (hb.mono hS.size)
      obtain ⟨Nn, hNn⟩ : ∃ n, n = v0.heap.size := ⟨_, rfl⟩
      rw [← hNn] at hNx ⊢
      have hN := hNx
      have hNnl : W0.heap.size ≤ Nn := by omega
      clear hNx hNn hsz
      refine hK.out _ _ (fun _ => hS) ?_
      clear hK K hb
      refine anyT_ready [5, 6] (by kernel_rfl) (by simp) ?_
      refine EachT.cons rfl (fun K hK => ?_) (EachT.cons rfl (fun K hK => ?_) (EachT.nil))
      · simp only [List.getElem_toArray, List.getElem_cons_zero, List.getElem_cons_succ]
        go_simp
        refine (hnum v1).mono ?_
        rintro e v2 ⟨rfl, hu⟩
        have hb : Below v1.heap.size v1 v2 := by rw [hu]; exact below_alloc2 _ _ _
        clear hu
        replace hN := hN.later hb
        replace hS : Below W0.heap.size W0 v2 := hS.trans (hb.mono hS.size)
        (try go_wp2_with fail)
        refine hK.out _ _ (fun _ => hS) ?_
        clear hK K hb
        refine anyT_ready [6] (by kernel_rfl) (by simp) ?_
        refine EachT.cons rfl (fun K hK => ?_) (EachT.nil)
        · simp only [List.getElem_toArray, List.getElem_cons_zero, List.getElem_cons_succ]
          go_simp
          obtain ⟨v3, hu⟩ : ∃ u, u = v2.alloc (.cells #[.string ⟨#[]⟩, .int .i64 0] 155) := ⟨_, rfl⟩
          have hb : Below v2.heap.size v2 v3 := by rw [hu]; exact (Below.refl _ _).alloc (Nat.le_refl _) _
          have hFx : Blk v3 v2.heap.size #[.string ⟨#[]⟩, .int .i64 0] 155 := by rw [hu]; exact blk_new _ _ _
          rw [← hu]
          clear hu
          have hsz := hS.size
          have hlt' := hN.lt
          replace hN := hN.later hb
          replace hS : Below W0.heap.size W0 v3 := hS.trans (hb.mono hS.size)
          obtain ⟨Fn, hFn⟩ : ∃ n, n = v2.heap.size := ⟨_, rfl⟩
          rw [← hFn] at hFx ⊢
          have hF := hFx
          have hFnl : W0.heap.size ≤ Fn := by omega
          have hne : Fn ≠ Nn := by omega
          clear hFx hFn hsz hlt'
          refine hK.out _ _ (fun _ => hS) ?_
          clear hK K hb
          refine anyT_ready [8] (by kernel_rfl) (by simp) ?_
          refine EachT.cons rfl (fun K hK => ?_) EachT.nil
          have e0 := hF.cell 0
          have e1 := hF.cell 1
          have e2 := hF.free
          have e3 := hF.lt
          simp only [List.getElem?_toArray, List.getElem?_cons_zero, List.getElem?_cons_succ] at e0 e1
          simp only [List.getElem_toArray, List.getElem_cons_zero, List.getElem_cons_succ]
          go_simp
          obtain ⟨v4, hu⟩ : ∃ u, u = (v3.setCell ⟨Fn, 0, none⟩ (.string (strB (wordK k)))).setCell ⟨Fn, 1, none⟩ (.int .i64 ((manyK k : Nat) : Int)) := ⟨_, rfl⟩
          have hS4 : Below W0.heap.size W0 v4 := by rw [hu]; exact (hS.setCell (p := ⟨Fn, 0, none⟩) hFnl _).setCell (p := ⟨Fn, 1, none⟩) hFnl _
          have hF4 : Blk v4 Fn #[.string (strB (wordK k)), .int .i64 ((manyK k : Nat) : Int)] 155 := by rw [hu]; exact (hF.set 0 _).set 1 _
          have hN4 : Blk v4 Nn #[.int .i64 0, .int .i64 0, .int .i64 0] 157 := by rw [hu]; exact (hN.other (fun e => hne e) _ _).other (fun e => hne e) _ _
          rw [← hu]
          refine hK.out _ _ (fun _ => hS4) ?_
          clear hK K hu e0 e1 e2 e3 hF hN hS
          refine anyT_ready [9] (by kernel_rfl) (by simp) ?_
          refine EachT.cons rfl (fun K hK => ?_) EachT.nil
          have e0 := hN4.cell 0
          have e1 := hN4.cell 1
          have e4 := hN4.cell 2
          have e2 := hN4.free
          have e3 := hN4.lt
          simp only [List.getElem?_toArray, List.getElem?_cons_zero, List.getElem?_cons_succ] at e0 e1 e4
          simp only [List.getElem_toArray, List.getElem_cons_zero, List.getElem_cons_succ]
          go_simp
          obtain ⟨v5, hu⟩ : ∃ u, u = ((v4.setCell ⟨Nn, 0, none⟩ (.int .i64 x)).setCell ⟨Nn, 1, none⟩ (.int .i64 y)).setCell ⟨Nn, 2, none⟩ (.int .i64 z) := ⟨_, rfl⟩
          have hS5 : Below W0.heap.size W0 v5 := by rw [hu]; exact ((hS4.setCell (p := ⟨Nn, 0, none⟩) hNnl _).setCell (p := ⟨Nn, 1, none⟩) hNnl _).setCell (p := ⟨Nn, 2, none⟩) hNnl _
          have hN5 : Blk v5 Nn #[.int .i64 x, .int .i64 y, .int .i64 z] 157 := by rw [hu]; exact ((hN4.set 0 _).set 1 _).set 2 _
          have hF5 : Blk v5 Fn #[.string (strB (wordK k)), .int .i64 ((manyK k : Nat) : Int)] 155 := by rw [hu]; exact ((hF4.other (fun e => hne e.symm) _ _).other (fun e => hne e.symm) _ _).other (fun e => hne e.symm) _ _
          rw [← hu]
          refine hK.out _ _ (fun _ => hS5) ?_
          clear hK K hu e0 e1 e2 e3 e4 hF4 hN4 hS4
          refine anyT_done (by kernel_rfl) ?_
          (try go_wp2_with fail)
          go_meet
          exact ⟨Fn, Nn, rfl, rfl, hFnl, hNnl, hF5, hN5, hS5⟩
      · simp only [List.getElem_toArray, List.getElem_cons_zero, List.getElem_cons_succ]
        go_simp
        obtain ⟨v2, hu⟩ : ∃ u, u = v1.alloc (.cells #[.string ⟨#[]⟩, .int .i64 0] 155) := ⟨_, rfl⟩
        have hb : Below v1.heap.size v1 v2 := by rw [hu]; exact (Below.refl _ _).alloc (Nat.le_refl _) _
        have hFx : Blk v2 v1.heap.size #[.string ⟨#[]⟩, .int .i64 0] 155 := by rw [hu]; exact blk_new _ _ _
        rw [← hu]
        clear hu
        have hsz := hS.size
        have hlt' := hN.lt
        replace hN := hN.later hb
        replace hS : Below W0.heap.size W0 v2 := hS.trans (hb.mono hS.size)
        obtain ⟨Fn, hFn⟩ : ∃ n, n = v1.heap.size := ⟨_, rfl⟩
        rw [← hFn] at hFx ⊢
        have hF := hFx
        have hFnl : W0.heap.size ≤ Fn := by omega
        have hne : Fn ≠ Nn := by omega
        clear hFx hFn hsz hlt'
        refine hK.out _ _ (fun _ => hS) ?_
        clear hK K hb
        refine anyT_ready [5] (by kernel_rfl) (by simp) ?_
        refine EachT.cons rfl (fun K hK => ?_) (EachT.nil)
        · simp only [List.getElem_toArray, List.getElem_cons_zero, List.getElem_cons_succ]
          go_simp
          refine (hnum v2).mono ?_
          rintro e v3 ⟨rfl, hu⟩
          have hb : Below v2.heap.size v2 v3 := by rw [hu]; exact below_alloc2 _ _ _
          clear hu
          replace hF := hF.later hb
          replace hN := hN.later hb
          replace hS : Below W0.heap.size W0 v3 := hS.trans (hb.mono hS.size)
          (try go_wp2_with fail)
          refine hK.out _ _ (fun _ => hS) ?_
          clear hK K hb
          refine anyT_ready [8] (by kernel_rfl) (by simp) ?_
          refine EachT.cons rfl (fun K hK => ?_) EachT.nil
          have e0 := hF.cell 0
          have e1 := hF.cell 1
          have e2 := hF.free
          have e3 := hF.lt
          simp only [List.getElem?_toArray, List.getElem?_cons_zero, List.getElem?_cons_succ] at e0 e1
          simp only [List.getElem_toArray, List.getElem_cons_zero, List.getElem_cons_succ]
          go_simp
          obtain ⟨v4, hu⟩ : ∃ u, u = (v3.setCell ⟨Fn, 0, none⟩ (.string (strB (wordK k)))).setCell ⟨Fn, 1, none⟩ (.int .i64 ((manyK k : Nat) : Int)) := ⟨_, rfl⟩
          have hS4 : Below W0.heap.size W0 v4 := by rw [hu]; exact (hS.setCell (p := ⟨Fn, 0, none⟩) hFnl _).setCell (p := ⟨Fn, 1, none⟩) hFnl _
          have hF4 : Blk v4 Fn #[.string (strB (wordK k)), .int .i64 ((manyK k : Nat) : Int)] 155 := by rw [hu]; exact (hF.set 0 _).set 1 _
          have hN4 : Blk v4 Nn #[.int .i64 0, .int .i64 0, .int .i64 0] 157 := by rw [hu]; exact (hN.other (fun e => hne e) _ _).other (fun e => hne e) _ _
          rw [← hu]
          refine hK.out _ _ (fun _ => hS4) ?_
          clear hK K hu e0 e1 e2 e3 hF hN hS
          refine anyT_ready [9] (by kernel_rfl) (by simp) ?_
          refine EachT.cons rfl (fun K hK => ?_) EachT.nil
          have e0 := hN4.cell 0
          have e1 := hN4.cell 1
          have e4 := hN4.cell 2
          have e2 := hN4.free
          have e3 := hN4.lt
          simp only [List.getElem?_toArray, List.getElem?_cons_zero, List.getElem?_cons_succ] at e0 e1 e4
          simp only [List.getElem_toArray, List.getElem_cons_zero, List.getElem_cons_succ]
          go_simp
          obtain ⟨v5, hu⟩ : ∃ u, u = ((v4.setCell ⟨Nn, 0, none⟩ (.int .i64 x)).setCell ⟨Nn, 1, none⟩ (.int .i64 y)).setCell ⟨Nn, 2, none⟩ (.int .i64 z) := ⟨_, rfl⟩
          have hS5 : Below W0.heap.size W0 v5 := by rw [hu]; exact ((hS4.setCell (p := ⟨Nn, 0, none⟩) hNnl _).setCell (p := ⟨Nn, 1, none⟩) hNnl _).setCell (p := ⟨Nn, 2, none⟩) hNnl _
          have hN5 : Blk v5 Nn #[.int .i64 x, .int .i64 y, .int .i64 z] 157 := by rw [hu]; exact ((hN4.set 0 _).set 1 _).set 2 _
          have hF5 : Blk v5 Fn #[.string (strB (wordK k)), .int .i64 ((manyK k : Nat) : Int)] 155 := by rw [hu]; exact ((hF4.other (fun e => hne e.symm) _ _).other (fun e => hne e.symm) _ _).other (fun e => hne e.symm) _ _
          rw [← hu]
          refine hK.out _ _ (fun _ => hS5) ?_
          clear hK K hu e0 e1 e2 e3 e4 hF4 hN4 hS4
          refine anyT_done (by kernel_rfl) ?_
          (try go_wp2_with fail)
          go_meet
          exact ⟨Fn, Nn, rfl, rfl, hFnl, hNnl, hF5, hN5, hS5⟩
  case rest =>
    obtain ⟨F, N, rfl, rfl, hFl, hNl, hF, hN, hS⟩ := hcut
    clear b0 b1 b2 b3 b4 f0 f1 hnum ft
    have hwc : Below w.heap.size w wc := hbW.trans (hS.mono (by omega))
    have hBc : Bd b l wc := hB.later hwc
    have hFb : F ≠ b := by omega
    have hNb : N ≠ b := by omega
    have HX : Hid (∀ n ∈ [x, y, z], I64 n) := by
      show ∀ n ∈ [x, y, z], I64 n
      rw [← hxyz]; exact hn64
    have hwk := wordK_length k
    have hm3 := manyK_le k
    have hcc : Below b w wc := hwc.mono (by omega)
    have hkc : Kept9 b w wc := kept_later hwc
    have c0 := hF.cell 0
    have c1 := hF.cell 1
    have c2 := hF.lt
    simp only [List.getElem?_toArray, List.getElem?_cons_zero, List.getElem?_cons_succ] at c0 c1
    clear hbW hS hzW hB hxyz hn64 h64
    go_wp2_with fail
    refine (writeS_any b l (wordK k) wc hBc (by omega)).mono ?_
    rintro e w2 ⟨⟨v, rfl⟩, hB2, hb2, hk2⟩
    have hF2 := hF.kept hk2 hFb (by decide)
    have hN2 := hN.kept hk2 hNb (by decide)
    clear c0 c1 c2 hBc hF hN
    have c1 := hF2.cell 1
    have c2 := hF2.lt
    simp only [List.getElem?_toArray, List.getElem?_cons_zero, List.getElem?_cons_succ] at c1
    have hst : Hid (Bd b (l ++ (wordK k ++ numsB ([x, y, z].take 0))) w2) := by
      show Bd _ _ _
      simpa [numsB] using hB2
    have hbst : Hid (Below b w w2) := hcc.trans hb2
    have hkst : Hid (Kept9 b w w2) := hkc.trans hk2
    clear hB2 hb2 hk2 hcc hkc hF2 hwc
    go_wp2_with fail
    clear c1 c2
    go_loopg [19] (manyK k) (fun g i wr => ∃ j : Nat, j ≤ manyK k ∧ g = manyK k - j ∧ i = .int .i64 j ∧ Hid (Bd b (l ++ (wordK k ++ numsB ([x, y, z].take j))) wr) ∧ Hid (Blk wr N #[.int .i64 x, .int .i64 y, .int .i64 z] 157) ∧ Hid (Below b w wr) ∧ Hid (Kept9 b w wr))
    case atStart => exact ⟨0, by omega, by omega, rfl, hst, hN2, hbst, hkst⟩
    case round =>
      obtain ⟨j, hj, hg, rfl, hBr, hNr, hbr, hkr⟩ := hrel
      by_cases hlt2 : j < manyK k
      · have hj3 : j < 3 := by omega
        obtain ⟨nv, hnv⟩ : ∃ nv, [x, y, z][j]? = some nv := ⟨_, List.getElem?_eq_getElem (by simpa using hj3)⟩
        have hI : I64 nv := HX.out nv (List.mem_of_getElem? hnv)
        have hil := itoa_le hI
        have hnl : (numsB ([x, y, z].take j)).length ≤ 66 := by
          have h1 := numsB_length (l := [x, y, z].take j) (fun n hn => HX.out n (List.mem_of_mem_take hn))
          have h2 : ([x, y, z].take j).length ≤ 3 := by simp; omega
          omega
        have HT : Hid (numsB ([x, y, z].take (j + 1)) = numsB ([x, y, z].take j) ++ (32 :: Lib.itoa nv)) := by
          show _ = _
          rw [List.take_add_one, hnv, numsB_append]
          simp [numsB]
        have hbl : b < wr.heap.size := hBr.out.lt
        go_wp2_with fail
        refine (writeS_any b (l ++ (wordK k ++ numsB ([x, y, z].take j))) [32] wr hBr.out (by simp only [List.length_append, List.length_cons, List.length_nil]; omega)).mono ?_
        rintro e w3 ⟨⟨v3, rfl⟩, hB3, hb3, hk3⟩
        have hN3 := hNr.out.kept hk3 hNb (by decide)
        have nc : w3.cell? ⟨N, j, none⟩ = some (.int .i64 nv) := by
          rw [hN3.cell j]
          have : j = 0 ∨ j = 1 ∨ j = 2 := by omega
          rcases this with rfl | rfl | rfl <;> (simp at hnv; subst hnv; rfl)
        have nlt := hN3.lt
        have hE3 : Env w3 := hE.later ((h0.trans (hbr.out.mono hb0)).trans (hb3.mono hb0))
        have Hb3 : Hid (Below b wr w3) := hb3
        have Hk3 : Hid (Kept9 b wr w3) := hk3
        have HN3 : Hid (Blk w3 N #[.int .i64 x, .int .i64 y, .int .i64 z] 157) := hN3
        clear hb3 hk3 hN3 hnv
        go_wp2_with fail
        refine (fmt_any hI w3 hE3).mono ?_
        rintro e w4 ⟨rfl, hb4⟩
        have hB4 := hB3.later hb4
        have hbl3 := hB3.lt
        clear nc nlt hE3 hB3
        go_wp2_with fail
        refine (writeS_any b _ (Lib.itoa nv) w4 hB4 (by simp only [List.length_append, List.length_cons, List.length_nil]; omega)).mono ?_
        rintro e w5 ⟨⟨v5, rfl⟩, hB5, hb5, hk5⟩
        have hN5 : Hid (Blk w5 N #[.int .i64 x, .int .i64 y, .int .i64 z] 157) := (HN3.out.later hb4).kept hk5 hNb (by decide)
        have hst5 : Hid (Bd b (l ++ (wordK k ++ numsB ([x, y, z].take (j + 1)))) w5) := by
          show Bd _ _ _
          rw [HT.out]
          simpa using hB5
        have hb5' : Hid (Below b w w5) := ((hbr.out.trans Hb3.out).trans (hb4.mono (by omega))).trans hb5
        have hk5' : Hid (Kept9 b w w5) := ((hkr.out.trans Hk3.out).trans (kept_later hb4)).trans hk5
        clear hB5 hb5 hk5 hb4 hB4 Hb3 Hk3 HN3
        go_wp2_with fail
        go_roundg (manyK k - (j + 1))
        case measure => omega
        case rel => exact ⟨j + 1, by omega, rfl, by go_num, hst5, hN5, hb5', hk5'⟩
      · obtain rfl : j = manyK k := by omega
        go_wp2_with fail
        go_end0
        refine ⟨rfl, ?_, hbr.out, hkr.out⟩
        rw [HOB.out]
        exact hBr.out
end Go.Proofs.YtehkjbpgibdgpadGreatDoor
namespace Go.Proofs.YtehkjbpgibdgpadGreatDoor
open Go.RowKit

/-- What Print answers. -/
def printF (d : List Op5) : List UInt8 × (Int × Int) := if (checkF d).1 ≠ 0 then ([], checkF d) else (printB d, (0, 0))
theorem print_bad {d : List Op5} (h : (checkF d).1 ≠ 0) : printF d = ([], checkF d) := if_pos h
theorem print_good {d : List Op5} (h : (checkF d).1 = 0) : printF d = (printB d, (0, 0)) := if_neg (by simp [h])

/-- A text and a fault as a value. -/
def outT (p : List UInt8 × (Int × Int)) : Value := .tuple #[.string (strB p.1), .agg #[.int .i64 p.2.1, .int .i64 p.2.2]]
theorem ret_outT {p q : List UInt8 × (Int × Int)} (h : p = q) : Ending.returned (outT p) = .returned (outT q) := by rw [h]

theorem DeedAt.five {w : World} {a : Option Addr} {n cap : Nat} {d : List Op5} (h : DeedAt w (.slice a n cap) d) (j : Nat) (hj : j < d.length) : ∃ b off, a = some ⟨b, off, none⟩ ∧
    w.cell? ⟨b, off + j * 5, none⟩ = some (.int .i64 d[j].k) ∧ w.cell? ⟨b, off + j * 5 + 1, none⟩ = some (.int .i64 d[j].a) ∧
    w.cell? ⟨b, off + j * 5 + 2, none⟩ = some (.int .i64 d[j].b) ∧ w.cell? ⟨b, off + j * 5 + 3, none⟩ = some (.int .i64 d[j].c) ∧
    w.cell? ⟨b, off + j * 5 + 4, none⟩ = some (.int .i64 d[j].n) := by
  obtain ⟨a', cap', e, h⟩ := h
  injection e with e1 e2 e3
  subst e1
  exact h j hj

set_option maxRecDepth 100000 in
set_option maxHeartbeats 8000000 in
theorem print_any (v : Value) (d : List Op5) (w : World) (hd : DeedAt w v d) (hmax : d.length ≤ 9223372036854775807) (h64 : ∀ o ∈ d, Op64 o) (hE : Env w) :
    Calls Tryz.prog 86 #[v] w fun e w' => e = .returned (outT (printF d)) ∧ Below w.heap.size w w' := by
  have hd0 := hd
  obtain ⟨da, dcap, rfl, -⟩ := hd0
  have HD : Hid (DeedAt w (.slice da d.length dcap) d) := hd
  clear hd
  obtain ⟨n, hn⟩ : ∃ n, n = d.length := ⟨_, rfl⟩
  rw [← hn] at HD ⊢
  have HN : Hid (n = d.length) := hn
  clear hn
  go_enter Tryz.func86, Tryz.ntmps86
  go_wp2_with fail
  have hbA : Below w.heap.size w (w.alloc (.cells #[.int .i64 0, .int .i64 0] 42)) := (Below.refl _ _).alloc (Nat.le_refl _) _
  refine (check_any _ d _ (HD.out.later hbA) hmax (hE.later hbA).lim).mono ?_
  rintro e w1 ⟨rfl, hb1⟩
  have hB1 : Below (w.heap.size + 1) (w.alloc (.cells #[.int .i64 0, .int .i64 0] 42)) w1 := by simpa using hb1
  clear hb1 hbA
  by_cases hc : (checkF d).1 = 0
  · have hP : Hid (printF d = (printB d, (0, 0))) := print_good hc
    have hl14 := check_few_ops hc
    have hK : Hid (Kinds d) := kinds_all hc
    obtain ⟨hz, r0, r1, f0, hB'⟩ := res_cells hB1
    rw [hc]
    clear hc r0 r1 f0
    go_wp2_with fail
    obtain ⟨w2, hw2⟩ : ∃ w2, w2 = w1.alloc (.cells #[.int .i64 0, .int .i64 (checkF d).2] 42) := ⟨_, rfl⟩
    have hB2 : Below (w.heap.size + 1) (w.alloc (.cells #[.int .i64 0, .int .i64 0] 42)) w2 := by rw [hw2]; exact hB1.alloc (by omega) _
    have hz2 : w2.heap.size = w1.heap.size + 1 := by rw [hw2]; simp
    rw [← hz2, ← hw2]
    clear hw2 hB1 hB'
    have hE2 : Env w2 := hE.later ((res_cells hB2).2.2.2.2)
    have hst : Hid (Bd w2.heap.size (printB (d.take 0)) (w2.alloc (.cells #[.pointer none, .slice none 0 0] 55))) := Lib.IsBuilderF.of (Lib.fresh_isBuilder _ _ w2)
    have hbs : Hid (Below w2.heap.size w2 (w2.alloc (.cells #[.pointer none, .slice none 0 0] 55))) := (Below.refl _ _).alloc (Nat.le_refl _) _
    obtain ⟨b, hb⟩ : ∃ b, b = w2.heap.size := ⟨_, rfl⟩
    rw [← hb] at hst hbs ⊢
    have HB : Hid (b = w2.heap.size) := hb
    obtain ⟨w3, hw3⟩ : ∃ w3, w3 = w2.alloc (.cells #[.pointer none, .slice none 0 0] 55) := ⟨_, rfl⟩
    rw [← hw3] at hst hbs ⊢
    have hbw : w.heap.size + 1 ≤ b := by have := hB2.size; simp at this; omega
    clear hw3 hb hz2
    go_loopg [16] n (fun g i wr => ∃ j : Nat, j ≤ n ∧ g = n - j ∧ i = .int .i64 j ∧ Hid (Bd b (printB (d.take j)) wr) ∧ Hid (Below b w2 wr))
    case atStart => exact ⟨0, by omega, by omega, rfl, hst, hbs⟩
    case round =>
      obtain ⟨j, hj, hg, rfl, hBr, hbr⟩ := hrel
      have hBw : Below (w.heap.size + 1) (w.alloc (.cells #[.int .i64 0, .int .i64 0] 42)) wr := hB2.trans (hbr.out.mono hbw)
      obtain ⟨hz, r0, r1, f0, hB'⟩ := res_cells hBw
      have hbl := hBr.out.lt
      have hpl : (printB (d.take j)).length ≤ 1022 := by
        have h1 := printB_length (d := d.take j) (fun o ho => h64 o (List.mem_of_mem_take ho))
        have h2 : (d.take j).length ≤ 14 := by rw [List.length_take]; omega
        omega
      by_cases hlt : j < n
      · have hjd : j < d.length := by have := HN.out; omega
        obtain ⟨db, doff, rfl, c0, c1, c2, c3, c4⟩ := HD.out.five j hjd
        replace c0 := cell_later hB' c0
        replace c1 := cell_later hB' c1
        replace c2 := cell_later hB' c2
        replace c3 := cell_later hB' c3
        replace c4 := cell_later hB' c4
        have ho64 : Hid (Op64 d[j]) := h64 _ (List.getElem_mem hjd)
        have hok : Hid (1 ≤ d[j].k ∧ d[j].k ≤ 9) := hK.out _ (List.getElem_mem hjd)
        have hTk : Hid (d.take (j + 1) = d.take j ++ [d[j]]) := List.take_succ_eq_append_getElem hjd
        obtain ⟨o, hoe⟩ : ∃ o, o = d[j] := ⟨_, rfl⟩
        rw [← hoe] at c0 c1 c2 c3 c4 ho64 hok hTk
        clear hoe r0 r1 f0
        have hbA : Below wr.heap.size wr (wr.alloc (.cells #[.int .i64 o.k, .int .i64 o.a, .int .i64 o.b, .int .i64 o.c, .int .i64 o.n] 121)) := (Below.refl _ _).alloc (Nat.le_refl _) _
        have hBA := hBr.out.later hbA
        have hblk := blk_new wr #[.int .i64 o.k, .int .i64 o.a, .int .i64 o.b, .int .i64 o.c, .int .i64 o.n] 121
        have hbrA : Below b w2 (wr.alloc (.cells #[.int .i64 o.k, .int .i64 o.a, .int .i64 o.b, .int .i64 o.c, .int .i64 o.n] 121)) := hbr.out.trans (hbA.mono (by omega))
        have HbA : Hid (Below b w2 (wr.alloc (.cells #[.int .i64 o.k, .int .i64 o.a, .int .i64 o.b, .int .i64 o.c, .int .i64 o.n] 121))) := hbrA
        have HBA : Hid (Bd b (printB (d.take j)) (wr.alloc (.cells #[.int .i64 o.k, .int .i64 o.a, .int .i64 o.b, .int .i64 o.c, .int .i64 o.n] 121))) := hBA
        have HBl : Hid (Blk (wr.alloc (.cells #[.int .i64 o.k, .int .i64 o.a, .int .i64 o.b, .int .i64 o.c, .int .i64 o.n] 121)) wr.heap.size #[.int .i64 o.k, .int .i64 o.a, .int .i64 o.b, .int .i64 o.c, .int .i64 o.n] 121) := hblk
        clear hbA hBA hblk hbrA
        by_cases hj0 : j = 0
        · have hT : Hid (printB (d.take (j + 1)) = printB (d.take j) ++ opB9 o) := by show _ = _; rw [hTk.out, hj0]; simp [printB, moreB]
          have hji : ¬ (0 : Int) < (j : Int) := by omega
          clear hj0
          go_wp2_with fail
          refine (printOp_any o hok.out.1 hok.out.2 ho64.out b _ w2 _ hE2 (by have := HB.out; rw [← this]; exact HbA.out) (by have := HB.out; omega) HBA.out (by omega)).mono ?_
          rintro e w4 ⟨rfl, hB4, hb4, -⟩
          have hst4 : Hid (Bd b (printB (d.take (j + 1))) w4) := by show Bd _ _ _; rw [hT.out]; exact hB4
          have hb4' : Hid (Below b w2 w4) := HbA.out.trans hb4
          clear hB4 hb4 HbA HBA HBl c0 c1 c2 c3 c4
          go_wp2_with fail
          go_roundg (n - (j + 1))
          case measure => omega
          case rel => exact ⟨j + 1, by omega, rfl, by go_num, hst4, hb4'⟩
        · have hji : (0 : Int) < (j : Int) := by omega
          have hT : Hid (printB (d.take (j + 1)) = (printB (d.take j) ++ [59, 32]) ++ opB9 o) := by
            show _ = _
            rw [hTk.out, printB_snoc]
            · simp
            · intro e
              have := congrArg List.length e
              rw [List.length_take, List.length_nil] at this; omega
          clear hj0
          go_wp2_with fail
          refine (writeS_any b _ [59, 32] _ HBA.out (by simp only [List.length_cons, List.length_nil]; omega)).mono ?_
          rintro e w4 ⟨⟨v4, rfl⟩, hB4, hb4, hk4⟩
          have hblk4 := HBl.out.kept hk4 (by omega) (by decide)
          have hb4' : Hid (Below b w2 w4) := HbA.out.trans hb4
          clear hb4 hk4 HbA HBA HBl c0 c1 c2 c3 c4
          have e0 := hblk4.cell 0
          have e1 := hblk4.cell 1
          have e2 := hblk4.cell 2
          have e3 := hblk4.cell 3
          have e4 := hblk4.cell 4
          have e5 := hblk4.lt
          simp only [List.getElem?_toArray, List.getElem?_cons_zero, List.getElem?_cons_succ] at e0 e1 e2 e3 e4
          have hbl4 := hB4.lt
          have HB4 : Hid (Bd b (printB (d.take j) ++ [59, 32]) w4) := hB4
          clear hblk4 hB4
          go_wp2_with fail
          refine (printOp_any o hok.out.1 hok.out.2 ho64.out b _ w2 _ hE2 (by have := HB.out; rw [← this]; exact hb4'.out) (by have := HB.out; omega) HB4.out (by simp only [List.length_append, List.length_cons, List.length_nil]; omega)).mono ?_
          rintro e w5 ⟨rfl, hB5, hb5, -⟩
          have hst5 : Hid (Bd b (printB (d.take (j + 1))) w5) := by show Bd _ _ _; rw [hT.out]; exact hB5
          have hb5' : Hid (Below b w2 w5) := hb4'.out.trans hb5
          clear hB5 hb5 hb4' HB4 e0 e1 e2 e3 e4 e5
          go_wp2_with fail
          go_roundg (n - (j + 1))
          case measure => omega
          case rel => exact ⟨j + 1, by omega, rfl, by go_num, hst5, hb5'⟩
      · obtain rfl : j = n := by omega
        have hfin : Hid (printB (d.take j) = printB d) := by show _ = _; rw [List.take_of_length_le (by have := HN.out; omega)]
        clear r0 r1 f0
        go_wp2_with fail
        refine (Tryz.Builder_String_any_k b b (printB (d.take j)) wr hBr.out (by omega)).mono ?_
        rintro e w4 ⟨rfl, -, hb4, -⟩
        have hB4 : Below (w.heap.size + 1) (w.alloc (.cells #[.int .i64 0, .int .i64 0] 42)) w4 := hBw.trans (hb4.mono hbw)
        clear hb4 hz hB' hBw
        obtain ⟨hz, r0, r1, f0, hB'⟩ := res_cells hB4
        go_wp2_with fail
        exact bodyPost_ret (v := outT (printB (d.take j), (0, 0))) (by simp [results, Tryz.results86, go_sem, r0, r1, outT, strB]) rfl ⟨ret_outT (by rw [hP.out, hfin.out]), below_two hB' _ _⟩
  · have hP : Hid (printF d = ([], checkF d)) := print_bad hc
    generalize checkF d = p at hc hP ⊢
    have tc : (p.1 != 0) = true := by simp [hc]
    obtain ⟨hz, r0, r1, f0, hB'⟩ := res_cells hB1
    clear hc HD
    go_wp2_with fail
    go_region
    go_wp2_with fail
    exact bodyPost_ret (v := outT ([], p)) (by simp [results, Tryz.results86, go_sem, r0, r1, hz, outT, strB]) rfl ⟨ret_outT hP.out.symm, (below_two_alloc hB' _ _ _).drew⟩
end Go.Proofs.YtehkjbpgibdgpadGreatDoor
namespace Go.Proofs.YtehkjbpgibdgpadGreatDoor
open Go.RowKit

/-! ### Numbers of 64 bits -/

theorem numF_range {l : List UInt8} {n : Int} (h : numF l = some n) : I64 n := by
  unfold numF at h
  split at h
  · rename_i v hv
    split at h
    · injection h with h
      subst h
      exact parseB_bounds hv
    · cases h
  · cases h
theorem numsW_range {ns : List (List UInt8)} {l : List Int} (h : numsW ns = some l) : ∀ n ∈ l, I64 n := by
  induction ns generalizing l with
  | nil => simp only [numsW, Option.some.injEq] at h; subst h; intro n hn; cases hn
  | cons x a ih =>
    simp only [numsW] at h
    split at h
    · rename_i m k h1 h2
      injection h with h
      subst h
      intro n hn
      rcases List.mem_cons.1 hn with rfl | hn
      · exact numF_range h1
      · exact ih h2 n hn
    · cases h
theorem i64_zero : I64 0 := ⟨by decide, by decide⟩
theorem getD_range {l : List Int} (h : ∀ n ∈ l, I64 n) (i : Nat) : I64 (l.getD i 0) := by
  rw [List.getD_eq_getElem?_getD]
  cases hi : l[i]? with
  | none => exact i64_zero
  | some x => exact h x (List.mem_of_getElem? hi)
theorem opW_range {ws : List (List UInt8)} {o : Op5} (h : opW ws = some o) : Op64 o := by
  unfold opW at h
  split at h
  · cases h
  · rename_i w ns
    split at h
    · cases h
    · split at h
      · obtain ⟨l, hl, rfl⟩ := Option.map_eq_some_iff.1 h
        have hr := numsW_range hl
        have hk := kindF_range w
        unfold mkO
        split
        · exact ⟨⟨by dsimp only; omega, by dsimp only; omega⟩, getD_range hr 0, i64_zero, i64_zero, getD_range hr 1⟩
        · exact ⟨⟨by dsimp only; omega, by dsimp only; omega⟩, getD_range hr 0, getD_range hr 1, getD_range hr 2, i64_zero⟩
      · cases h
theorem partsF_range {ps : List (List (List UInt8))} {i : Nat} {d : List Op5} (h : partsF i ps = .inr d) : ∀ o ∈ d, Op64 o := by
  induction ps generalizing i d with
  | nil => simp only [partsF, Sum.inr.injEq] at h; subst h; intro o ho; cases ho
  | cons ws r ih =>
    simp only [partsF] at h
    split at h
    · cases h
    · rename_i o ho
      split at h
      · cases h
      · rename_i d' hd
        injection h with h
        subst h
        intro x hx
        rcases List.mem_cons.1 hx with rfl | hx
        · exact opW_range ho
        · exact ih hd x hx
theorem parse_range (s : List UInt8) : ∀ o ∈ (parseF s).1, Op64 o := by
  unfold parseF
  split
  · intro o ho; cases ho
  · split
    · intro o ho; cases ho
    · rename_i d hd
      split
      · intro o ho; cases ho
      · exact partsF_range hd

theorem small_print {d : List Op5} (hd : (checkF d).1 = 0) (h64 : ∀ o ∈ d, Op64 o) : (printB d).length ≤ 1022 := by
  have h1 := printB_length h64
  have h2 := check_few_ops hd
  omega

/-! ### textBegun -/

def begD : List Op5 := [⟨1, 1, 0, 0, -5⟩, ⟨7, 2, 1, 0, 0⟩]
def begS : List UInt8 := [110, 117, 109, 32, 49, 32, 45, 53, 59, 115, 116, 111, 114, 101, 32, 50, 32, 49]
def begT : List UInt8 := [110, 117, 109, 32, 49, 32, 45, 53, 59, 32, 115, 116, 111, 114, 101, 32, 50, 32, 49]

theorem itoa_1 : Lib.itoa 1 = [49] := by
  have := Lib.decDigits_one (i := 1) (by decide)
  simp [Lib.itoa, this]
theorem itoa_2 : Lib.itoa 2 = [50] := by
  have := Lib.decDigits_one (i := 2) (by decide)
  simp [Lib.itoa, this]
theorem itoa_m5 : Lib.itoa (-5) = [45, 53] := by
  have := Lib.decDigits_one (i := 5) (by decide)
  simp [Lib.itoa, this]
theorem beg_print : printB begD = begT := by
  simp [printB, begD, opB9, moreB, numsO, manyK, wordK, numsB, itoa_1, itoa_2, itoa_m5, begT]
theorem beg_check : checkF begD = (0, 0) := by decide
theorem beg_64 : ∀ o ∈ begD, Op64 o := by
  intro o ho
  simp only [begD, List.mem_cons, List.not_mem_nil, or_false] at ho
  rcases ho with rfl | rfl
  · exact ⟨⟨by decide, by decide⟩, ⟨by decide, by decide⟩, ⟨by decide, by decide⟩, ⟨by decide, by decide⟩, ⟨by decide, by decide⟩⟩
  · exact ⟨⟨by decide, by decide⟩, ⟨by decide, by decide⟩, ⟨by decide, by decide⟩, ⟨by decide, by decide⟩, ⟨by decide, by decide⟩⟩
theorem beg_parse : parseF begS = (begD, (0, 0)) := parse_same (by rw [beg_check]) beg_64 (by rw [beg_print]; decide)
theorem beg_printF : printF begD = (begT, (0, 0)) := by rw [print_good (by rw [beg_check]), beg_print]

end Go.Proofs.YtehkjbpgibdgpadGreatDoor
