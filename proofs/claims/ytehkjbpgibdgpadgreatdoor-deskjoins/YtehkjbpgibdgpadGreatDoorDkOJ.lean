/-
  The walk of a desk's line.
-/
import Derived.Test.YtehkjbpgibdgpadGreatDoorJqDf
namespace Go.Proofs.YtehkjbpgibdgpadGreatDoor
open Go.RowKit Go.Shelf

theorem rowFrom_hit {wd : List UInt8} {n j : Nat} (hj : j < 9) (h : isRow wd n j = true) : rowFrom wd n (9 - j) j = j := by
  obtain ⟨f, hf⟩ : ∃ f, 9 - j = f + 1 := ⟨8 - j, by omega⟩
  rw [hf, rowFrom, if_pos h]
theorem rowFrom_miss {wd : List UInt8} {n j : Nat} (hj : j < 9) (h : isRow wd n j = false) : rowFrom wd n (9 - j) j = rowFrom wd n (9 - (j + 1)) (j + 1) := by
  obtain ⟨f, hf⟩ : ∃ f, 9 - j = f + 1 := ⟨8 - j, by omega⟩
  rw [hf, rowFrom, if_neg (by simp [h]), show 9 - (j + 1) = f by omega]
def rowI (i : Nat) : Int := if i < 9 then (i : Int) else -1

section
variable {w : World} {wd : List UInt8} {n N W R G B : Nat} {na : Option Addr} {ncap : Nat}
set_option maxRecDepth 100000 in
set_option maxHeartbeats 1000000 in
theorem find_row (hR : RowsAt w R G B) (cW : w.cell? ⟨W, 0, none⟩ = some (.string (strB wd))) (cN : w.cell? ⟨N, 0, none⟩ = some (.slice na n ncap)) :
    Calls Tryz.prog 27 #[.slice (some ⟨R, 0, none⟩) 9 9, .func (.func 28) #[] #[.pointer (some ⟨W, 0, none⟩), .pointer (some ⟨N, 0, none⟩)]] w fun e w' => e = .returned (.int .i64 (rowI (rowAt wd n))) ∧ Below w.heap.size w w' := by
  have hen := enters_of Tryz.func28 (by kernel_rfl) rfl
  have HR : Hid (RowsAt w R G B) := hR
  have HC : Hid (w.cell? ⟨W, 0, none⟩ = some (.string (strB wd)) ∧ w.cell? ⟨N, 0, none⟩ = some (.slice na n ncap)) := ⟨cW, cN⟩
  clear hR cW cN
  go_enter Tryz.func27, Tryz.ntmps27
  go_wp2_with fail
  go_loopg [8] 9 (fun g i wr => ∃ j : Nat, j ≤ 9 ∧ g = 9 - j ∧ i = .int .i64 j ∧ Hid (rowAt wd n = rowFrom wd n (9 - j) j) ∧ Below w.heap.size w wr)
  case atStart => exact ⟨0, by omega, by omega, rfl, rfl, Below.refl _ _⟩
  case round =>
    obtain ⟨j, hj, hg, rfl, hF, hb⟩ := hrel
    by_cases hlt : j < 9
    · obtain ⟨k0, k1, k2⟩ := (HR.out.later hb).row j hlt
      unfold fnV at k2
      have hr := is_row (x := rowW j) (m := rowM j) (rowFn j) G (cell_later hb HC.out.1) (cell_later hb HC.out.2)
      have e : Hid (isRow wd n j = (decide (rowW j = wd) && (rowM j == -1 || rowM j == (n : Int)))) := rfl
      rw [← e.out] at hr
      have t5 : (j : Int) < 9 := by omega
      cases hq : isRow wd n j with
      | true =>
        have hfin : Hid (rowI (rowAt wd n) = (j : Int)) := by show _ = _; rw [hF.out, rowFrom_hit hlt hq, rowI, if_pos hlt]
        rw [hq] at hr
        clear e hq hF
        generalize rowW j = x at *
        generalize rowM j = m at *
        generalize rowFn j = f at *
        go_wp2_with fail
        refine hr.mono ?_
        clear hr k0 k1 k2
        rintro e w1 ⟨rfl, hb1⟩
        go_wp2_with fail
        go_ret
        exact ⟨by rw [hfin.out]; rfl, hb.trans (hb1.mono hb.size)⟩
      | false =>
        have hF' : Hid (rowAt wd n = rowFrom wd n (9 - (j + 1)) (j + 1)) := by show _ = _; rw [hF.out, rowFrom_miss hlt hq]
        rw [hq] at hr
        clear e hq hF
        generalize rowW j = x at *
        generalize rowM j = m at *
        generalize rowFn j = f at *
        go_wp2_with fail
        refine hr.mono ?_
        clear hr k0 k1 k2
        rintro e w1 ⟨rfl, hb1⟩
        have hw1 : Below w.heap.size w w1 := hb.trans (hb1.mono hb.size)
        clear hb hb1
        go_wp2_with fail
        go_roundg (9 - (j + 1))
        case measure => omega
        case rel => exact ⟨j + 1, by omega, rfl, by go_num, hF', hw1⟩
    · obtain rfl : j = 9 := by omega
      have hfin : Hid (rowI (rowAt wd n) = -1) := by show _ = _; rw [hF.out]; rfl
      clear hF
      go_wp2_with fail
      go_ret
      exact ⟨by rw [hfin.out]; rfl, hb⟩
end

section
variable {P : Nat → Prop} {w0 w : World} {B G : Nat} {t : List UInt8} {D : DSt}

/-- What a row's function does. -/
theorem row_s {i : Nat} (hi : i < 9) {v : Value} {ns : List Int} (hn : NumsAt w v ns) (h1 : rowM i = 1 → ns.length = 1) (hG : w.cell? ⟨G, 0, none⟩ = some (.pointer (some ⟨B, 0, none⟩))) (h : Since P w0 w B t D) (hE : EnvP P w0) (ht : t.length ≤ 900000000) :
    Calls Tryz.prog (rowFn i) #[v, .pointer (some ⟨G, 0, none⟩)] w fun e w' => e = .returned (.tuple #[]) ∧ Since P w0 w' B (t ++ (doR D i ns).2) (doR D i ns).1 := by
  match i, hi with
  | 0, _ => exact rows1_s v hG h hE ht
  | 1, _ => exact rows2_s v hG h hE ht
  | 2, _ => exact rows3_s hn hG h hE ht
  | 3, _ => exact rows4_s hn (h1 rfl) hG h hE ht
  | 4, _ => exact rows5_s v hG h hE ht
  | 5, _ => exact rows6_s v hG h hE ht
  | 6, _ => exact rows7_s hn (h1 rfl) hG h hE ht
  | 7, _ => exact rows8_s hn (h1 rfl) hG h hE ht
  | 8, _ => exact rows9_s v hG h hE ht
theorem row_enters {i : Nat} (hi : i < 9) : ∀ (args : Array Value) (w : World), (callFunc (rowFn i) args).run Tryz.prog w = .ok (.enter (rowFn i) args) w := by
  match i, hi with
  | 0, _ => exact enters_of Tryz.func49 (by kernel_rfl) rfl
  | 1, _ => exact enters_of Tryz.func51 (by kernel_rfl) rfl
  | 2, _ => exact enters_of Tryz.func53 (by kernel_rfl) rfl
  | 3, _ => exact enters_of Tryz.func54 (by kernel_rfl) rfl
  | 4, _ => exact enters_of Tryz.func55 (by kernel_rfl) rfl
  | 5, _ => exact enters_of Tryz.func58 (by kernel_rfl) rfl
  | 6, _ => exact enters_of Tryz.func60 (by kernel_rfl) rfl
  | 7, _ => exact enters_of Tryz.func62 (by kernel_rfl) rfl
  | 8, _ => exact enters_of Tryz.func64 (by kernel_rfl) rfl

set_option maxRecDepth 100000 in
set_option maxHeartbeats 1000000 in
theorem line_s (h : Since P w0 w B t D) (hE : EnvP P w0) (s : List UInt8) (hl : s.length ≤ 1000000) (ht : t.length ≤ 900000000) :
    Calls Tryz.prog 13 #[.pointer (some ⟨B, 0, none⟩), .string (strB s)] w fun e w' => e = .returned (.tuple #[]) ∧ Since P w0 w' B (t ++ (lineF D s).2) (lineF D s).1 := by
  have hcp := cutP_any s w hl
  cases hp : deedW.isPrefixOf s with
  | true =>
    rw [hp, if_pos rfl] at hcp
    have hd : ∀ w1, Below w.heap.size w w1 → _ := fun w1 hb => deed_s (h.later hb) hE (s.drop 5) (by rw [List.length_drop]; omega) (by omega)
    have e : Hid (lineF D s = deedL D (s.drop 5)) := by show _ = _; rw [lineF, if_pos hp]
    rw [e.out]
    clear hp e h hE
    generalize s.drop 5 = x at *
    generalize (deedL D x).2 = t2 at *
    generalize (deedL D x).1 = D2 at *
    go_enter Tryz.func13, Tryz.ntmps13
    go_wp2_with fail
    refine hcp.mono ?_
    clear hcp
    rintro e w1 ⟨rfl, hb1⟩
    go_wp2_with fail
    refine (hd _ hb1).mono ?_
    rintro e w2 ⟨rfl, h2⟩
    go_wp2_with fail
    refine bodyPost_ret (results_none rfl _ _ _) rfl ?_
    exact ⟨rfl, h2⟩
  | false =>
    rw [hp, if_neg (by simp)] at hcp
    have hcut := fun W => cutW_any s W (by omega)
    have hq := str_empty (wordF s)
    have hbl := behind_length s
    by_cases hw : wordF s = []
    · have e : Hid (lineF D s = (D, [])) := by show _ = _; rw [lineF, if_neg (by simp [hp]), if_pos hw]
      rw [decide_eq_true hw] at hq
      have hfin : Hid (∀ w', Below w.heap.size w w' → Since P w0 w' B (t ++ (lineF D s).2) (lineF D s).1) := fun w' hb => by rw [e.out]; simpa using h.later hb
      generalize (lineF D s).2 = t2 at *
      generalize (lineF D s).1 = D2 at *
      clear hp e h hE hw
      generalize wordF s = wd at *
      generalize behindF s = bh at *
      go_enter Tryz.func13, Tryz.ntmps13
      go_wp2_with fail
      refine hcp.mono ?_
      clear hcp
      rintro e w1 ⟨rfl, hb1⟩
      go_wp2_with fail
      refine (hcut _).mono ?_
      clear hcut
      rintro e w2 ⟨rfl, hb2⟩
      have hw2 : Below w.heap.size w w2 := hb1.trans (hb2.mono hb1.size)
      have hw3 : Below w.heap.size w (w2.alloc (.cells #[.string (strB wd)] 9)) := hw2.alloc hw2.size _
      clear hb1 hb2 hw2
      go_wp2_with fail
      refine bodyPost_ret (results_none rfl _ _ _) rfl ?_
      exact ⟨rfl, hfin.out _ hw3⟩
    · rw [decide_eq_false hw] at hq
      have hnum : ∀ W, Below w.heap.size w W → _ := fun W hb => numbersOf_any (behindF s) W ((h.env hE).env.later hb) (by omega)
      unfold OutN at hnum
      have eL : Hid (∀ ns, numsL (behindF s) = some ns → lineF D s = doR D (rowAt (wordF s) ns.length) ns) := fun ns e => by rw [lineF, if_neg (by simp [hp]), if_neg hw, e]
      have eW : Hid (numsL (behindF s) = none → lineF D s = (D, sayB [wWhat])) := fun e => by rw [lineF, if_neg (by simp [hp]), if_neg hw, e]
      have HS : Hid (Since P w0 w B t D) := h
      have HE : Hid (EnvP P w0) := hE
      clear h hE hw hp hbl
      generalize numsL (behindF s) = on at *
      generalize wordF s = wd at *
      generalize behindF s = bh at *
      have HQ : Hid (∀ (w8 : World) (ns : List Int) (v : Value) (R G : Nat), on = some ns → rowAt wd ns.length < 9 → Below w.heap.size w w8 → NumsAt w8 v ns → w8.cell? ⟨G, 0, none⟩ = some (.pointer (some ⟨B, 0, none⟩)) → Calls Tryz.prog (rowFn (rowAt wd ns.length)) #[v, .pointer (some ⟨G, 0, none⟩)] w8 fun e w' => e = .returned (.tuple #[]) ∧ Since P w0 w' B (t ++ (lineF D s).2) (lineF D s).1) := fun w8 ns v R G e hi hb hn hG => by
        rw [eL.out ns e]
        refine row_s hi hn (fun e1 => ?_) hG (HS.out.later hb) HE.out ht
        rcases rowAt_is wd ns.length with h9 | h9
        · omega
        · exact isRow_one h9.2 e1
      have HWt : Hid (∀ w8, Below w.heap.size w w8 → (on = none ∨ ∃ ns, on = some ns ∧ ¬ rowAt wd ns.length < 9) → Calls Tryz.prog 29 #[.pointer (some ⟨B, 0, none⟩), .slice (some ⟨w8.heap.size, 0, none⟩) 1 1] (w8.alloc (.cells #[.string ⟨#[119, 104, 97, 116]⟩] 9)) fun e w' => e = .returned (.tuple #[]) ∧ Since P w0 w' B (t ++ (lineF D s).2) (lineF D s).1) := fun w8 hb ho => by
        have e : lineF D s = (D, sayB [wWhat]) := by
          rcases ho with e | ⟨ns, e, h9⟩
          · exact eW.out e
          · rw [eL.out ns e]
            rcases rowAt_is wd ns.length with h9' | h9'
            · rw [h9']; rfl
            · exact absurd h9'.1 h9
        rw [e]
        exact say_l (ws := [wWhat]) (HS.out.later hb) (by simp) (by decide) (by omega) _ rfl 1 rfl
      generalize (lineF D s).2 = t2 at *
      generalize (lineF D s).1 = D2 at *
      clear HS HE eL eW
      go_enter Tryz.func13, Tryz.ntmps13
      go_wp2_with fail
      refine hcp.mono ?_
      clear hcp
      rintro e w1 ⟨rfl, hb1⟩
      go_wp2_with fail
      refine (hcut _).mono ?_
      clear hcut
      rintro e w2 ⟨rfl, hb2⟩
      have hw2 : Below w.heap.size w w2 := hb1.trans (hb2.mono hb1.size)
      obtain ⟨W3, e3⟩ : ∃ W3, W3 = w2.alloc (.cells #[.string (strB wd)] 9) := ⟨_, rfl⟩
      have hw3 : Below w.heap.size w W3 := by rw [e3]; exact hw2.alloc hw2.size _
      have cW : W3.cell? ⟨w2.heap.size, 0, none⟩ = some (.string (strB wd)) := by rw [e3]; go_simp
      have H3 : Hid (w2.alloc (.cells #[.string (strB wd)] 9) = W3) := e3.symm
      clear hb1 hb2 hw2 e3
      go_wp2_with fail
      rw [H3.out]
      refine (hnum _ hw3).mono ?_
      clear hnum hq
      rintro e w4 ⟨⟨v, rfl, hN⟩, hb4⟩
      have hw4 : Below w.heap.size w w4 := hw3.trans (hb4.mono hw3.size)
      obtain ⟨na, ncap, rfl, -⟩ := id hN
      obtain ⟨W5, e5⟩ : ∃ W5, W5 = w4.alloc (.cells #[.slice na (on.getD []).length ncap] 72) := ⟨_, rfl⟩
      have hb5 : Below w4.heap.size w4 W5 := by rw [e5]; exact (Below.refl _ _).alloc (Nat.le_refl _) _
      have cN : W5.cell? ⟨w4.heap.size, 0, none⟩ = some (.slice na (on.getD []).length ncap) := by rw [e5]; go_simp
      have H5 : Hid (w4.alloc (.cells #[.slice na (on.getD []).length ncap] 72) = W5) := e5.symm
      have cW5 := cell_later hb5 (cell_later hb4 cW)
      have hw5 : Below w.heap.size w W5 := hw4.trans (hb5.mono hw4.size)
      have HN5 : Hid (NumsAt W5 (.slice na (on.getD []).length ncap) (on.getD [])) := hN.later hb5
      have hr := rows_any B W5
      clear e5 hN hb4 hb5 hw4 hw3 cW
      cases hon : on with
      | none =>
        subst hon
        have HW8 : Hid (∀ w8, Below w.heap.size w w8 → _) := fun w8 hb => HWt.out w8 hb (.inl rfl)
        clear HWt HQ HN5
        simp only [Option.getD_none, List.length_nil, Option.isSome_none] at *
        go_wp2_with fail
        rw [H5.out]
        refine hr.mono ?_
        clear hr
        rintro e w6 ⟨rfl, hR, hb6⟩
        have hf := find_row hR (cell_later hb6 cW5) (cell_later hb6 cN)
        have hw6 : Below w.heap.size w w6 := hw5.trans (hb6.mono hw5.size)
        generalize rowI (rowAt wd 0) = ri at *
        clear hR hb6 cW5 cN hw5
        go_wp2_with fail
        refine hf.mono ?_
        clear hf
        rintro e w7 ⟨rfl, hb7⟩
        have h8 := HW8.out w7 (hw6.trans (hb7.mono hw6.size))
        clear HW8 hb7 hw6
        go_wp2_with fail
        refine h8.mono ?_
        rintro e w9 ⟨rfl, h9⟩
        go_wp2_with fail
        refine bodyPost_ret (results_none rfl _ _ _) rfl ?_
        exact ⟨rfl, h9⟩
      | some ns =>
        subst hon
        simp only [Option.getD_some, Option.isSome_some] at *
        by_cases hi : rowAt wd ns.length < 9
        · have HW8 : Hid (∀ (w8 : World) (G : Nat), Below w.heap.size w w8 → NumsAt w8 (.slice na ns.length ncap) ns → w8.cell? ⟨G, 0, none⟩ = some (.pointer (some ⟨B, 0, none⟩)) → _) := fun w8 G hb hn hG => HQ.out w8 ns _ 0 G rfl hi hb hn hG
          have hen := row_enters hi
          have eI : Hid (rowI (rowAt wd ns.length) = ((rowAt wd ns.length : Nat) : Int)) := if_pos hi
          clear HWt HQ
          go_wp2_with fail
          rw [H5.out]
          refine hr.mono ?_
          clear hr
          rintro e w6 ⟨rfl, hR, hb6⟩
          have hf := find_row hR (cell_later hb6 cW5) (cell_later hb6 cN)
          have hw6 : Below w.heap.size w w6 := hw5.trans (hb6.mono hw5.size)
          have HN6 : Hid (NumsAt w6 (.slice na ns.length ncap) ns) := HN5.out.later hb6
          have HR6 : Hid (RowsAt w6 (W5.heap.size + 1) W5.heap.size B) := hR
          have cN6 := cell_later hb6 cN
          rw [eI.out] at hf
          clear hR hb6 cW5 cN hw5 HN5 eI
          go_wp2_with fail
          refine hf.mono ?_
          clear hf
          rintro e w7 ⟨rfl, hb7⟩
          obtain ⟨-, -, k2⟩ := (HR6.out.later hb7).row _ hi
          have k3 := (HR6.out.later hb7).box
          unfold fnV at k2
          have cN7 := cell_later hb7 cN6
          have h8 := HW8.out w7.drew W5.heap.size (hw6.trans (hb7.mono hw6.size)).drew ((HN6.out.later hb7).later (Below.refl _ _).drew) k3
          generalize rowAt wd ns.length = i at *
          generalize rowFn i = f at *
          generalize ns.length = n at *
          have ti : ¬ (i : Int) < 0 := by omega
          have ti9 : (i : Int) < 9 := by omega
          clear HW8 hb7 hw6 HN6 HR6 cN6 k3
          go_wp2_with fail
          go_region_with (go_at_fn f; refine h8.mono ?_; rintro e w9 ⟨rfl, h9⟩)
          all_goals go_wp2_with fail
          all_goals go_end0
          all_goals exact ⟨rfl, h9⟩
        · have HW8 : Hid (∀ w8, Below w.heap.size w w8 → _) := fun w8 hb => HWt.out w8 hb (.inr ⟨ns, rfl, hi⟩)
          have eI : Hid (rowI (rowAt wd ns.length) = -1) := if_neg hi
          clear HWt HQ HN5
          go_wp2_with fail
          rw [H5.out]
          refine hr.mono ?_
          clear hr
          rintro e w6 ⟨rfl, hR, hb6⟩
          have hf := find_row hR (cell_later hb6 cW5) (cell_later hb6 cN)
          rw [eI.out] at hf
          have hw6 : Below w.heap.size w w6 := hw5.trans (hb6.mono hw5.size)
          clear hR hb6 cW5 cN hw5 eI hi
          go_wp2_with fail
          refine hf.mono ?_
          clear hf
          rintro e w7 ⟨rfl, hb7⟩
          have h8 := HW8.out w7 (hw6.trans (hb7.mono hw6.size))
          clear HW8 hb7 hw6
          go_wp2_with fail
          refine h8.mono ?_
          rintro e w9 ⟨rfl, h9⟩
          go_wp2_with fail
          refine bodyPost_ret (results_none rfl _ _ _) rfl ?_
          exact ⟨rfl, h9⟩
end
end Go.Proofs.YtehkjbpgibdgpadGreatDoor
