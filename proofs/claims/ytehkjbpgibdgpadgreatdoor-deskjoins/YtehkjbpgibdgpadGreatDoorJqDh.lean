/-
  What the lines with which the laws begin tell. The walks of deskBegun and slow; rows of texts that are cut.
-/
import Derived.Test.YtehkjbpgibdgpadGreatDoorJqDg
namespace Go.Proofs.YtehkjbpgibdgpadGreatDoor
open Go.RowKit

theorem itoa_0 : Lib.itoa 0 = [48] := by
  have := Lib.decDigits_one (i := 0) (by decide)
  simp [Lib.itoa, this]
theorem itoa_5 : Lib.itoa 5 = [53] := by
  have := Lib.decDigits_one (i := 5) (by decide)
  simp [Lib.itoa, this]
theorem itoa_7 : Lib.itoa 7 = [55] := by
  have := Lib.decDigits_one (i := 7) (by decide)
  simp [Lib.itoa, this]

def b0 : List Op5 := [⟨1, 0, 0, 0, 5⟩, ⟨7, 2, 0, 0, 0⟩]
def b1 : List Op5 := [⟨2, 0, 2, 0, 0⟩]
def t0 : List UInt8 := [110, 117, 109, 32, 48, 32, 53, 59, 32, 115, 116, 111, 114, 101, 32, 50, 32, 48]
def t1 : List UInt8 := [108, 111, 97, 100, 32, 48, 32, 50]
theorem print0 : printB b0 = t0 := by simp [printB, b0, opB9, moreB, numsO, manyK, wordK, numsB, itoa_0, itoa_2, itoa_5, t0]
theorem print1 : printB b1 = t1 := by simp [printB, b1, opB9, moreB, numsO, manyK, wordK, numsB, itoa_0, itoa_2, t1]
theorem check0 : checkF b0 = (0, 0) := by decide
theorem check1 : checkF b1 = (0, 0) := by decide
theorem b0_64 : D64 b0 := fun o ho => by
  simp only [b0, List.mem_cons, List.not_mem_nil, or_false] at ho
  rcases ho with rfl | rfl <;> exact ⟨by decide, by decide⟩
theorem b1_64 : D64 b1 := fun o ho => by
  simp only [b1, List.mem_cons, List.not_mem_nil, or_false] at ho
  subst ho; exact ⟨by decide, by decide⟩
theorem parse0 : parseF t0 = (b0, (0, 0)) := by
  rw [← print0]; exact parse_print (by rw [check0]) (d64_of (by rw [check0]) b0_64)
theorem parse1 : parseF t1 = (b1, (0, 0)) := by
  rw [← print1]; exact parse_print (by rw [check1]) (d64_of (by rw [check1]) b1_64)

def D1 : DSt := ⟨[b0], [], 0, 0⟩
def D2 : DSt := ⟨[b0, b1], [], 0, 0⟩
def D3 : DSt := ⟨[], [[b0, b1]], 0, 0⟩
def D4 : DSt := ⟨[], [[b0, b1]], 1, 0⟩
def D5 : DSt := ⟨[], [[b0, b1]], 1, 1⟩
theorem line0 : lineF D0 (deedW ++ t0) = (D1, []) := by
  rw [lineF, if_pos (by decide), show (deedW ++ t0).drop 5 = t0 from rfl, deedL, parse0]; rfl
theorem line1 : lineF D1 (deedW ++ t1) = (D2, []) := by
  rw [lineF, if_pos (by decide), show (deedW ++ t1).drop 5 = t1 from rfl, deedL, parse1]; rfl
/-- A line of one word. -/
theorem line_word {D : DSt} {s : List UInt8} (h1 : deedW.isPrefixOf s = false) (h2 : wordF s ≠ []) (h3 : wordF (behindF s) = []) : lineF D s = doR D (rowAt (wordF s) 0) [] := by
  rw [lineF, if_neg (by simp [h1]), if_neg h2, numsL_end h3]; rfl
theorem ok_b : okP [] [b0, b1] = true := by decide
theorem line2 : lineF D2 [112, 117, 116] = (D3, [111, 107, 10]) := by
  rw [line_word (by decide) (by decide) (by decide), show rowAt (wordF [112, 117, 116]) 0 = 0 by decide]
  show putL D2 = _
  have e : stepQ [] 0 0 ⟨1, [b0, b1], [], 0⟩ = ⟨0, [[b0, b1]], 0, 0⟩ := by simp [stepQ, ok_b]
  simp only [putL, stepT, D2, e]; rfl
theorem no_7 : tellB wNo [7] = [110, 111, 32, 55, 10] := by rw [tellB_eq]; simp [numsB, itoa_7, wNo]
theorem line3 : lineF D3 [114, 117, 110] = (D3, [110, 111, 32, 55, 10]) := by
  rw [line_word (by decide) (by decide) (by decide), show rowAt (wordF [114, 117, 110]) 0 = 2 by decide]
  show stepT D3 ⟨3, [], [], 0⟩ = _
  have e : stepQ [[b0, b1]] 0 0 ⟨3, [], [], 0⟩ = ⟨7, [[b0, b1]], 0, 0⟩ := by simp [stepQ]
  simp only [stepT, D3, e, codeT]
  rw [if_neg (by decide), no_7]
theorem line4 : lineF D3 [115, 121, 110, 99] = (D4, [111, 107, 10]) := by
  rw [line_word (by decide) (by decide) (by decide), show rowAt (wordF [115, 121, 110, 99]) 0 = 1 by decide]
  show stepT D3 ⟨2, [], [], 0⟩ = _
  have e : stepQ [[b0, b1]] 0 0 ⟨2, [], [], 0⟩ = ⟨0, [[b0, b1]], 1, 0⟩ := by simp [stepQ]
  simp only [stepT, D3, e]; rfl
theorem num_1 : numF [49] = some 1 := by rw [← itoa_1]; exact num_itoa (by decide) (by decide)
theorem nums_11 : numsL [32, 49, 32, 49] = some [1, 1] := by
  rw [numsL_more (by decide) (show numF (wordF [32, 49, 32, 49]) = some 1 from num_1), show behindF [32, 49, 32, 49] = [32, 49] by decide,
    numsL_more (by decide) (show numF (wordF [32, 49]) = some 1 from num_1), numsL_end (by decide)]; rfl
theorem line5 : lineF D4 [114, 117, 110, 32, 49, 32, 49] = (D5, [111, 107, 10]) := by
  rw [lineF, if_neg (by decide), if_neg (by decide), show behindF [114, 117, 110, 32, 49, 32, 49] = [32, 49, 32, 49] by decide, nums_11, show wordF [114, 117, 110, 32, 49, 32, 49] = [114, 117, 110] by decide]
  show doR D4 (rowAt [114, 117, 110] 2) [1, 1] = _
  rw [show rowAt [114, 117, 110] 2 = 2 by decide]
  show stepT D4 ⟨3, [], [1, 1], 0⟩ = _
  have e : stepQ [[b0, b1]] 1 0 ⟨3, [], [1, 1], 0⟩ = ⟨0, [[b0, b1]], 1, 1⟩ := by simp [stepQ]
  simp only [stepT, D4, e]; rfl

theorem do0 : doF (fun _ => 0) b0 = ⟨putAt (fun _ => 0) 2 5, 0, putAt (fun _ => 0) 0 5⟩ := by
  rw [doF, ← runF_step (by decide) (by decide), ← runF_step (by decide) (by decide), runF_end (by decide)]
  simp [b0, stepF, putAt]
theorem do1 : doF (putAt (fun _ => 0) 2 5) b1 = ⟨putAt (fun _ => 0) 2 5, 0, putAt (fun _ => 0) 0 5⟩ := by
  rw [doF, ← runF_step (by decide) (by decide), runF_end (by decide)]
  simp [b1, stepF, putAt]
theorem outs (i : Nat) (h : i < 2) : outAt (fun _ => 0) [b0, b1] i = ⟨putAt (fun _ => 0) 2 5, 0, putAt (fun _ => 0) 0 5⟩ := by
  have e : allOut (fun _ => 0) [b0, b1] = [⟨putAt (fun _ => 0) 2 5, 0, putAt (fun _ => 0) 0 5⟩, ⟨putAt (fun _ => 0) 2 5, 0, putAt (fun _ => 0) 0 5⟩] := by
    simp only [allOut, do0, do1]
  unfold outAt
  rw [e]
  match i, h with
  | 0, _ => rfl
  | 1, _ => rfl
def cameB : List UInt8 := [99, 97, 109, 101, 32, 48, 32, 53, 32, 48, 32, 48, 32, 48, 10]
theorem came (i : Nat) (h : i < 2) : tellB wCame (lastC [[b0, b1]] 1 i :: four (lastG [[b0, b1]] 1 i)) = cameB := by
  have e : outAt (lastS [[b0, b1]] 1) (lastR [[b0, b1]] 1) i = ⟨putAt (fun _ => 0) 2 5, 0, putAt (fun _ => 0) 0 5⟩ := outs i h
  rw [tellB_eq]
  unfold lastC lastG
  rw [e]
  simp [four, putAt, numsB, itoa_0, itoa_5, wCame, cameB]
theorem line6 : lineF D5 [108, 97, 115, 116] = (D5, cameB ++ cameB ++ [101, 110, 100, 10]) := by
  rw [line_word (by decide) (by decide) (by decide), show rowAt (wordF [108, 97, 115, 116]) 0 = 5 by decide]
  show (D5, lastT [[b0, b1]] 1) = _
  have e : lastT [[b0, b1]] 1 = ([] ++ tellB wCame (lastC [[b0, b1]] 1 0 :: four (lastG [[b0, b1]] 1 0)) ++ tellB wCame (lastC [[b0, b1]] 1 1 :: four (lastG [[b0, b1]] 1 1))) ++ sayB [wEnd] := rfl
  rw [e, came 0 (by decide), came 1 (by decide)]; rfl
theorem line7 : lineF D5 [109, 97, 110, 121] = (D5, [109, 97, 110, 121, 32, 49, 32, 49, 32, 49, 10]) := by
  rw [line_word (by decide) (by decide) (by decide), show rowAt (wordF [109, 97, 110, 121]) 0 = 8 by decide]
  show (D5, tellB wMany [1, 1, 1]) = _
  rw [tellB_eq]; simp [numsB, itoa_1, wMany]
theorem line8 : lineF D5 [120] = (D5, [119, 104, 97, 116, 10]) := by
  rw [line_word (by decide) (by decide) (by decide), show rowAt (wordF [120]) 0 = 9 by decide]; rfl

def begL : List (List UInt8) := [deedW ++ t0, deedW ++ t1, [112, 117, 116], [114, 117, 110], [115, 121, 110, 99], [114, 117, 110, 32, 49, 32, 49], [108, 97, 115, 116], [109, 97, 110, 121], [120]]
def begO : List UInt8 := [111, 107, 10, 110, 111, 32, 55, 10, 111, 107, 10, 111, 107, 10] ++ cameB ++ cameB ++ [101, 110, 100, 10, 109, 97, 110, 121, 32, 49, 32, 49, 32, 49, 10, 119, 104, 97, 116, 10]
theorem beg_told : (linesF D0 begL).2 = begO := by
  simp only [begL, linesF, line0, line1, line2, line3, line4, line5, line6, line7, line8]; rfl
theorem beg_clean : Clean begL := by unfold Clean; decide
theorem beg_short : ∀ s ∈ begL, s.length ≤ 1000000 := by decide
end Go.Proofs.YtehkjbpgibdgpadGreatDoor
namespace Go.Proofs.YtehkjbpgibdgpadGreatDoor
open Go.RowKit Go.Shelf

theorem strs_newQ {Q : Nat → Prop} (w : World) (hQ : Q w.heap.size) (ws : List (List UInt8)) (vs : Array Value) (e : vs = (strVs ws).toArray) (T : TypeId) (n : Nat) (hn : n = ws.length) : StrsIn Q (w.alloc (.cells vs T)) (.slice (some ⟨w.heap.size, 0, none⟩) n n) ws := by
  subst e hn
  refine ⟨_, _, rfl, Nat.le_refl _, fun i hi => ⟨w.heap.size, 0, hQ, rfl, ?_⟩⟩
  rw [World.cell?_alloc_new]; simp [strVs, hi]
theorem begO_str : ((strB begO).toList == [111, 107, 10, 110, 111, 32, 55, 10, 111, 107, 10, 111, 107, 10, 99, 97, 109, 101, 32, 48, 32, 53, 32, 48, 32, 48, 32, 48, 10, 99, 97, 109, 101, 32, 48, 32, 53, 32, 48, 32, 48, 32, 48, 10, 101, 110, 100, 10, 109, 97, 110, 121, 32, 49, 32, 49, 32, 49, 10, 119, 104, 97, 116, 10]) = true := by
  rw [strB_toList]; decide

set_option maxRecDepth 100000 in
set_option maxHeartbeats 1000000 in
theorem deskBegun_any (w : World) (hE : Env w) : Calls Tryz.prog 5 #[] w fun e w' => e = .returned (.bool true) ∧ Below w.heap.size w w' := by
  have hn := new_any w
  have hq := begO_str
  go_enter Tryz.func5, Tryz.ntmps5
  go_wp2_with fail
  refine hn.mono ?_
  clear hn
  rintro e w1 ⟨B, rfl, hD, hb1⟩
  have hbA : Below w1.heap.size w1 (w1.alloc (.cells (strVs begL).toArray 9)) := (Below.refl _ _).alloc (Nat.le_refl _) _
  have hd := do_good (hD.here.later hbA) ⟨w, hE, hb1.trans (hbA.mono hb1.size), fun b hb => hb.1⟩ (strs_newQ w1 (fun e => by omega) begL _ rfl 9 9 rfl) (by decide) beg_short beg_clean
  have HB : Hid (∀ w3, Grew (fun b => w.heap.size ≤ b ∧ b < w1.heap.size) (w1.alloc (.cells (strVs begL).toArray 9)) w3 → Below w.heap.size w w3) := fun w3 hg => hg.below (hb1.trans (hbA.mono hb1.size)) (by have := hb1.size; simp; omega) fun k hk => hk.1
  rw [beg_told] at hd
  have eA : (strVs begL).toArray = #[.string ⟨#[100, 101, 101, 100, 32, 110, 117, 109, 32, 48, 32, 53, 59, 32, 115, 116, 111, 114, 101, 32, 50, 32, 48]⟩, .string ⟨#[100, 101, 101, 100, 32, 108, 111, 97, 100, 32, 48, 32, 50]⟩, .string ⟨#[112, 117, 116]⟩, .string ⟨#[114, 117, 110]⟩, .string ⟨#[115, 121, 110, 99]⟩, .string ⟨#[114, 117, 110, 32, 49, 32, 49]⟩, .string ⟨#[108, 97, 115, 116]⟩, .string ⟨#[109, 97, 110, 121]⟩, .string ⟨#[120]⟩] := rfl
  rw [eA] at hd HB
  generalize (linesF D0 begL).1 = DD at *
  generalize begO = tt at *
  clear eA hbA hD hb1
  go_wp2_with fail
  refine hd.mono ?_
  clear hd
  rintro e w3 ⟨rfl, -, -, hg3⟩
  have hb3 := HB.out _ hg3
  have hb4 : Below w.heap.size w (w3.alloc (.cells #[.int .i64 0, .int .i64 0] 42)) := hb3.alloc hb3.size _
  clear HB hg3 hb3
  go_wp2_with fail
  go_ret
  exact ⟨rfl, hb4⟩

/-- What slow tells. -/
def SlowOut (ls : List (List UInt8)) (e : Ending) : Prop := ∃ q, e = .returned (.bool q) ∧ (q = false → ∀ s ∈ ls, s.length ≤ 9000)

set_option maxRecDepth 100000 in
set_option maxHeartbeats 1000000 in
theorem slow_any {Q : Nat → Prop} {w : World} {v : Value} {ls : List (List UInt8)} (h : StrsIn Q w v ls) (hn : ls.length ≤ 150) (hlen : ∀ s ∈ ls, s.length ≤ 140737488355328) :
    Calls Tryz.prog 6 #[v] w fun e w' => SlowOut ls e ∧ w' = w := by
  obtain ⟨a, cap, rfl, -, h⟩ := h
  have HC : Hid (∀ i (h : i < ls.length), ∃ b off, Q b ∧ a = some ⟨b, off, none⟩ ∧ w.cell? ⟨b, off + i, none⟩ = some (.string (strB ls[i]))) := h
  obtain ⟨n, en⟩ : ∃ n, n = ls.length := ⟨_, rfl⟩
  have En : Hid (n = ls.length) := en
  rw [← en] at hn ⊢
  clear h en
  go_enter Tryz.func6, Tryz.ntmps6
  go_wp2_with fail
  go_loop [3, 4] (fun m i => ∃ j q : Nat, j ≤ n ∧ i = .int .i64 j ∧ m = .int .i64 q ∧ q ≤ 9000 ∧ Hid (∀ i (hi : i < ls.length), i < j → ls[i].length ≤ 9000)) (fun m i => n - (intOf i).toNat)
  case atStart => exact ⟨0, 0, by omega, rfl, rfl, by omega, fun i hi h => by omega⟩
  case round =>
    obtain ⟨j, q, hj, rfl, rfl, hq, hH⟩ := hrel
    by_cases hlt : j < n
    · have hjn : j < ls.length := by have := En.out; omega
      obtain ⟨b, off, -, rfl, hc⟩ := HC.out j hjn
      have hl := hlen _ (List.getElem_mem hjn)
      have t5 : (j : Int) < (n : Int) := by omega
      by_cases hs : q + ls[j].length ≤ 9000
      · have hH' : Hid (∀ i (hi : i < ls.length), i < j + 1 → ls[i].length ≤ 9000) := fun i hi h => by
          by_cases e : i = j
          · subst e; omega
          · exact hH.out i hi (by omega)
        clear hH
        generalize ls[j] = x at *
        have hS : (strB x).size = x.length := rfl
        have t6 : ¬ (9000 : Int) < (q : Int) + (x.length : Int) := by omega
        go_wp2_with fail
        go_round
        case rel => exact ⟨j + 1, q + x.length, by omega, by go_num, by go_num, hs, hH'⟩
        case measure => simp [intOf]; omega
      · clear hH
        generalize ls[j] = x at *
        have hS : (strB x).size = x.length := rfl
        have t6 : (9000 : Int) < (q : Int) + (x.length : Int) := by omega
        go_wp2_with fail
        go_ret
        exact ⟨⟨true, rfl, fun e => by cases e⟩, rfl⟩
    · obtain rfl : j = n := by omega
      have hfin : Hid (∀ s ∈ ls, s.length ≤ 9000) := fun s hs => by
        obtain ⟨i, hi, rfl⟩ := List.getElem_of_mem hs
        exact hH.out i hi (by have := En.out; omega)
      clear hH
      go_wp2_with fail
      go_ret
      exact ⟨⟨false, rfl, fun _ => hfin.out⟩, rfl⟩

/-! ### Rows of texts that are cut -/

theorem StrsIn.part {Q : Nat → Prop} {w : World} {l : List (List UInt8)} {a : Option Addr} {cap m n : Nat} (hmn : m ≤ n) (hn : n ≤ l.length) (h : StrsIn Q w (.slice a l.length cap) l) : StrsIn Q w (sliced a m n cap 1) ((l.take n).drop m) := by
  obtain ⟨a', cap', e, hc, h⟩ := h
  cases e
  have hl : ((l.take n).drop m).length = n - m := by simp; omega
  refine ⟨if cap = m then a else a.map (·.add (m * 1)), cap - m, ?_, by rw [hl]; omega, fun i hi => ?_⟩
  · unfold sliced; rw [hl]
  · rw [hl] at hi
    obtain ⟨b, off, hp, rfl, hcell⟩ := h (m + i) (by omega)
    rw [if_neg (by omega)]
    refine ⟨b, off + m, hp, by simp [Addr.add], ?_⟩
    rw [show off + m + i = off + (m + i) by omega]
    rw [hcell]
    simp [List.getElem_drop, List.getElem_take]
theorem sizeSt (w : World) : (sizeOf (Tryz.prog.elem 22)).run Tryz.prog w = .ok 1 w := by kernel_rfl
theorem slSt : Tryz.prog.underlying 22 = some (.slice (Tryz.prog.elem 22)) := by kernel_rfl
theorem cutH {Q : Nat → Prop} {W : World} {l : List (List UInt8)} {a : Option Addr} {cap : Nat} (h : StrsIn Q W (.slice a l.length cap) l) {k : Nat} (hk : k ≤ l.length) :
    ∃ a' cap', (∀ w, (Instr.slice 22 (.slice a l.length cap) none (some (.int .i64 (k : Int))) none).run Tryz.prog w = .ok (.slice a' k cap') w) ∧ StrsIn Q W (.slice a' k cap') (l.take k) := by
  have hc : l.length ≤ cap := by obtain ⟨a', cap', e, hc, -⟩ := h; cases e; exact hc
  have h1 := h.part (m := 0) (n := k) (by omega) hk
  rw [List.drop_zero] at h1
  have e : (Instr.slice 22 (.slice a l.length cap) none (some (.int .i64 (k : Int))) none).run Tryz.prog = fun w => .ok (sliced a 0 k cap 1) w := by
    funext w
    rw [run_slice_h w _ _ _ _ slSt .i64 (k : Int) (by omega) (by omega), sizeSt, Int.toNat_natCast]
    rfl
  refine ⟨_, _, fun w => ?_, h1⟩
  rw [e]; rfl
theorem cutL {Q : Nat → Prop} {W : World} {l : List (List UInt8)} {a : Option Addr} {cap : Nat} (h : StrsIn Q W (.slice a l.length cap) l) {k : Nat} (hk : k ≤ l.length) :
    ∃ a' cap', (∀ w, (Instr.slice 22 (.slice a l.length cap) (some (.int .i64 (k : Int))) none none).run Tryz.prog w = .ok (.slice a' (l.length - k) cap') w) ∧ StrsIn Q W (.slice a' (l.length - k) cap') (l.drop k) := by
  have h1 := h.part (m := k) (n := l.length) (by omega) (Nat.le_refl _)
  rw [List.take_length] at h1
  refine ⟨_, _, fun w => ?_, h1⟩
  rw [run_slice_l w _ _ _ _ slSt .i64 (k : Int) (by omega) (by omega), sizeSt, Int.toNat_natCast]
  rfl
end Go.Proofs.YtehkjbpgibdgpadGreatDoor
