/-
  The walk of a desk's check; how much lines tell. The walks of a desk's New and Do.
-/
import Derived.Test.YtehkjbpgibdgpadGreatDoorDkOJ
namespace Go.Proofs.YtehkjbpgibdgpadGreatDoor
open Go.RowKit Go.Shelf

/-! ### How much is told -/

theorem codeT_len {c : Int} (h : I64 c) : (codeT c).length ≤ 30 := by
  unfold codeT
  split
  · decide
  · have := tellB_len (w := wNo) (one_64 h)
    have e : wNo.length = 2 := rfl
    simp only [List.length_cons, List.length_nil, e] at this; omega
theorem stateT_len {s : Nat → Int} (h : S64 s) : (stateT s).length ≤ 300 := by
  have := tellB_len (w := wState) (ten_64 h)
  have e : wState.length = 5 := rfl
  have e2 : (ten s).length = 10 := rfl
  rw [e, e2] at this
  unfold stateT; omega
theorem noneT_len : noneT.length ≤ 30 := by
  have := tellB_len (w := wNo) (one_64 i64_seven)
  have e : wNo.length = 2 := rfl
  simp only [List.length_cons, List.length_nil, e] at this
  unfold noneT; omega
theorem stepT_len {D : DSt} (h : DOk D) {x : QStep} (hx : x.k = 1 → x.r = D.r) : (stepT D x).2.length ≤ 30 := codeT_len (stepQ_range h hx)
theorem say1_len : (sayB [wWhat]).length ≤ 30 := by decide
theorem end_len : (sayB [wEnd]).length ≤ 30 := by decide
theorem doR_len {D : DSt} (h : DOk D) (ho : LogOk D.l D.k) (hm : D.m ≤ D.k) (i : Nat) (ns : List Int) : (doR D i ns).2.length ≤ 20000 := by
  unfold doR
  split
  · have := stepT_len h (x := ⟨1, D.r, [], 0⟩) (fun _ => rfl)
    exact Nat.le_trans this (by decide)
  · exact Nat.le_trans (stepT_len h (fun e => by cases e)) (by decide)
  · exact Nat.le_trans (stepT_len h (fun e => by cases e)) (by decide)
  · exact Nat.le_trans (stepT_len h (fun e => by cases e)) (by decide)
  · exact Nat.le_trans (stateT_len (stN_64 h.l64 D.m)) (by decide)
  · have h1 := cameT_len h.l64 D.m (lastR D.l D.m).length
    have h2 := lastR_len ho.good D.m
    have h3 := end_len
    simp only [lastT, List.length_append]; omega
  · unfold thenT
    split
    · exact Nat.le_trans (stateT_len (stN_64 h.l64 _)) (by decide)
    · exact Nat.le_trans noneT_len (by decide)
  · unfold roundT
    split
    · rename_i hn
      obtain ⟨m, hm'⟩ : ∃ m : Nat, ns.getD 0 0 = m := ⟨(ns.getD 0 0).toNat, by omega⟩
      rw [hm'] at hn ⊢
      rw [Int.toNat_natCast, getD_at (by omega)]
      have hg := roundF_zero.1 (ho.good _ (List.getElem_mem (show m < D.l.length by omega))).1
      have hr := h.l64 _ (List.getElem_mem (show m < D.l.length by omega))
      have h1 := deedsT_len (r := D.l[m]) fun d hd => ⟨hg.2 d hd, d64_of (hg.2 d hd) (hr d hd)⟩
      have h2 := hg.1
      have h3 := end_len
      simp only [List.length_append]; omega
    · exact Nat.le_trans noneT_len (by decide)
  · have h1 := ho.few
    have h2 := ho.sure
    have h3 := tellB_len (w := wMany) (ns := [(D.l.length : Int), (D.k : Int), (D.m : Int)]) (three_64 ⟨by omega, by omega⟩ ⟨by omega, by omega⟩ ⟨by omega, by omega⟩)
    have e : wMany.length = 4 := rfl
    simp only [List.length_cons, List.length_nil, e] at h3
    dsimp only; unfold manyT; omega
  · exact Nat.le_trans say1_len (by decide)
theorem lineF_len {D : DSt} (h : DOk D) (ho : LogOk D.l D.k) (hm : D.m ≤ D.k) (s : List UInt8) (hs : s.length ≤ 1000000) : (lineF D s).2.length ≤ 20000 := by
  unfold lineF
  split
  · unfold deedL
    split
    · have hr := parse_fault_range (s := s.drop 5) (by rw [List.length_drop]; omega)
      have h3 := tellB_len (w := wNo) (two_64 hr.1 hr.2)
      have e : wNo.length = 2 := rfl
      simp only [List.length_cons, List.length_nil, e] at h3
      dsimp only; omega
    · exact Nat.zero_le _
  · split
    · exact Nat.zero_le _
    · split
      · exact Nat.le_trans say1_len (by decide)
      · exact doR_len h ho hm _ _

/-! ### check -/

theorem indexByte_has (l : List UInt8) (c : UInt8) : decide (0 ≤ Lib.indexByte l c) = decide (c ∈ l) := by
  rw [decide_eq_decide]
  induction l with
  | nil => simp [Lib.indexByte]
  | cons d r ih =>
    rw [Lib.indexByte]
    by_cases h : d = c
    · subst h; simp
    · have h' : ¬ c = d := fun e => h e.symm
      have hge := Lib.indexByte_ge r c
      have hne : (d == c) = false := by simpa using h
      simp only [List.mem_cons, h', false_or, ← ih, hne, Bool.false_eq_true, if_false, beq_iff_eq]
      split <;> omega
set_option maxHeartbeats 400000 in
theorem contains_any (l : List UInt8) (w : World) :
    Calls Tryz.prog 20 #[.string (strB l)] w fun e w' => e = .returned (.bool (decide (10 ∈ l))) ∧ w' = w := by
  have hi : Calls Tryz.prog 76 #[.string (strB l), .string ⟨#[10]⟩] w fun e w' => e = .returned (.int .i64 (Lib.indexByte l 10)) ∧ w' = w := Tryz.stringslite_Index_one (strB l) 10 w
  have h2 : Calls Tryz.prog 41 #[.string (strB l), .string ⟨#[10]⟩] w fun e w' => e = .returned (.int .i64 (Lib.indexByte l 10)) ∧ w' = w := by
    go_enter Tryz.func41, Tryz.ntmps41
    go_wp2_with fail
    refine hi.mono ?_
    rintro e w1 ⟨rfl, rfl⟩
    go_wp2_with fail
    go_ret
    exact ⟨rfl, rfl⟩
  have h3 : Calls Tryz.prog 21 #[.string (strB l), .string ⟨#[10]⟩] w fun e w' => e = .returned (.bool (decide (10 ∈ l))) ∧ w' = w := by
    rw [← indexByte_has]
    go_enter Tryz.func21, Tryz.ntmps21
    go_wp2_with fail
    refine h2.mono ?_
    rintro e w1 ⟨rfl, rfl⟩
    go_wp2_with fail
    go_ret
    exact ⟨rfl, rfl⟩
  generalize decide (10 ∈ l) = q at *
  go_enter Tryz.func20, Tryz.ntmps20
  go_wp2_with fail
  refine h3.mono ?_
  rintro e w1 ⟨rfl, rfl⟩
  go_wp2_with fail
  go_ret
  exact ⟨rfl, rfl⟩

/-- No line has a newline. -/
def Clean (ls : List (List UInt8)) : Prop := ∀ s ∈ ls, ¬ 10 ∈ s
/-- What the search for a line with a newline tells. -/
def FoundNl (ls : List (List UInt8)) (r : Int) : Prop := (r = -1 ∧ Clean ls) ∨ (0 ≤ r ∧ r < (ls.length : Int) ∧ ¬ Clean ls)

set_option maxRecDepth 100000 in
set_option maxHeartbeats 1000000 in
theorem find_nl {Q : Nat → Prop} {w : World} {v : Value} {ls : List (List UInt8)} (h : StrsIn Q w v ls) (hn : ls.length ≤ 150) :
    Calls Tryz.prog 19 #[v, .func (.func 20) #[] #[]] w fun e w' => (∃ r, e = .returned (.int .i64 r) ∧ FoundNl ls r) ∧ w' = w := by
  have hen := enters_of Tryz.func20 (by kernel_rfl) rfl
  obtain ⟨a, cap, rfl, -, h⟩ := h
  have HC : Hid (∀ i (h : i < ls.length), ∃ b off, Q b ∧ a = some ⟨b, off, none⟩ ∧ w.cell? ⟨b, off + i, none⟩ = some (.string (strB ls[i]))) := h
  obtain ⟨n, en⟩ : ∃ n, n = ls.length := ⟨_, rfl⟩
  have En : Hid (n = ls.length) := en
  rw [← en] at hn ⊢
  clear h en
  go_enter Tryz.func19, Tryz.ntmps19
  go_wp2_with fail
  go_loop [8] (fun i => ∃ j : Nat, j ≤ n ∧ i = .int .i64 j ∧ Hid (∀ i (hi : i < ls.length), i < j → ¬ 10 ∈ ls[i])) (fun i => n - (intOf i).toNat)
  case atStart => exact ⟨0, by omega, rfl, fun i hi h => by omega⟩
  case round =>
    obtain ⟨j, hj, rfl, hH⟩ := hrel
    by_cases hlt : j < n
    · have hjn : j < ls.length := by have := En.out; omega
      obtain ⟨b, off, -, rfl, hc⟩ := HC.out j hjn
      have hr := contains_any ls[j]
      have t5 : (j : Int) < (n : Int) := by omega
      by_cases hq : 10 ∈ ls[j]
      · have hfin : Hid (FoundNl ls (j : Int)) := .inr ⟨by omega, by omega, fun e => e _ (List.getElem_mem hjn) hq⟩
        rw [decide_eq_true hq] at hr
        clear hq hH
        generalize ls[j] = x at *
        go_wp2_with fail
        refine (hr _).mono ?_
        clear hr hc
        rintro e w1 ⟨rfl, rfl⟩
        go_wp2_with fail
        go_ret
        exact ⟨⟨_, rfl, hfin.out⟩, rfl⟩
      · have hH' : Hid (∀ i (hi : i < ls.length), i < j + 1 → ¬ 10 ∈ ls[i]) := fun i hi h => by
          by_cases e : i = j
          · subst e; exact hq
          · exact hH.out i hi (by omega)
        rw [decide_eq_false hq] at hr
        clear hq hH
        generalize ls[j] = x at *
        go_wp2_with fail
        refine (hr _).mono ?_
        clear hr hc
        rintro e w1 ⟨rfl, rfl⟩
        go_wp2_with fail
        go_round
        case rel => exact ⟨j + 1, by omega, by go_num, hH'⟩
        case measure => simp [intOf]; omega
    · obtain rfl : j = n := by omega
      have hfin : Hid (FoundNl ls (-1)) := .inl ⟨rfl, fun s hs => by
        obtain ⟨i, hi, rfl⟩ := List.getElem_of_mem hs
        exact hH.out i hi (by have := En.out; omega)⟩
      clear hH
      go_wp2_with fail
      go_ret
      exact ⟨⟨_, rfl, hfin.out⟩, rfl⟩

set_option maxRecDepth 100000 in
set_option maxHeartbeats 1000000 in
theorem check_any' {Q : Nat → Prop} {w : World} {v : Value} {ls : List (List UInt8)} (h : StrsIn Q w v ls) (hn : ls.length ≤ 150) :
    Calls Tryz.prog 12 #[v] w fun e w' => ((e = .returned (.agg #[.int .i64 0, .int .i64 0]) ∧ Clean ls) ∨ ∃ r : Int, e = .returned (.agg #[.int .i64 11, .int .i64 r]) ∧ ¬ Clean ls) ∧ Below w.heap.size w w' := by
  have hb : Below w.heap.size w (w.alloc (.cells #[.int .i64 0, .int .i64 0] 42)) := (Below.refl _ _).alloc (Nat.le_refl _) _
  have hf := find_nl (h.later hb) hn
  obtain ⟨a, cap, rfl, -, -⟩ := h
  have t1 : ¬ (150 : Int) < (ls.length : Int) := by omega
  unfold FoundNl at hf
  generalize ls.length = n at *
  go_enter Tryz.func12, Tryz.ntmps12
  go_wp2_with fail
  refine hf.mono ?_
  clear hf
  rintro e w1 ⟨⟨r, rfl, hr⟩, rfl⟩
  rcases hr with ⟨rfl, hc⟩ | ⟨h0, -, hc⟩
  · go_wp2_with fail
    exact bodyPost_ret (v := .agg #[.int .i64 0, .int .i64 0]) (by simp [results, Tryz.results12, go_sem]) rfl ⟨.inl ⟨rfl, hc⟩, (Below.refl _ _).alloc (Nat.le_refl _) _⟩
  · go_wp2_with fail
    exact bodyPost_ret (v := .agg #[.int .i64 11, .int .i64 r]) (by simp [results, Tryz.results12, go_sem]) rfl ⟨.inr ⟨r, rfl, hc⟩, (Below.refl _ _).alloc (Nat.le_refl _) _⟩
end Go.Proofs.YtehkjbpgibdgpadGreatDoor
namespace Go.Proofs.YtehkjbpgibdgpadGreatDoor
open Go.RowKit Go.Shelf

def D0 : DSt := ⟨[], [], 0, 0⟩
theorem ok0 : DOk D0 := ⟨fun _r hr => (List.not_mem_nil hr).elim, Nat.zero_le _, fun _d hd => (List.not_mem_nil hd).elim, r64_nil⟩

set_option maxRecDepth 100000 in
set_option maxHeartbeats 400000 in
theorem new_any (w : World) : Calls Tryz.prog 7 #[] w fun e w' => ∃ B, e = .returned (.pointer (some ⟨B, 0, none⟩)) ∧ DeskAt (fun b => w.heap.size ≤ b) w' B [] D0 ∧ Below w.heap.size w w' := by
  have hn := stNew_any w
  go_enter Tryz.func7, Tryz.ntmps7
  go_wp2_with fail
  refine hn.mono ?_
  clear hn
  rintro e w1 ⟨S, rfl, hS, hb⟩
  have hfin : Hid (DeskAt (fun b => w.heap.size ≤ b) (w1.alloc (.cells #[.pointer none, .slice none 0 0, .pointer (some ⟨S, 0, none⟩), .slice none 0 0] 57)) w1.heap.size [] D0) := by
    have hz := hb.size
    refine ⟨fun b => if b < w1.heap.size then 5 else 1, S, .pointer none, .slice none 0 0, .slice none 0 0, [], heap_alloc_new w1 _, .inl rfl, World.ownsRowF_nil _ _ _ _, fun _ => rfl, fun g e => (by cases e), World.ownsRow_nil _ _ _ _, fun g e => (by cases e), fun i hi => absurd hi (Nat.not_lt_zero _), ?_, hz, ?_, ok0⟩
    · refine ((hS.mono (Q := fun b => w.heap.size ≤ b ∧ b < w1.heap.size) fun b hb hp => ⟨hp, hb⟩).later ((Below.refl _ _).alloc (Nat.le_refl _) _)).mono fun b _ hb => ⟨hb.1, ?_⟩
      rw [if_pos hb.2]
    · rw [if_neg (by omega)]
  have hb2 : Below w.heap.size w (w1.alloc (.cells #[.pointer none, .slice none 0 0, .pointer (some ⟨S, 0, none⟩), .slice none 0 0] 57)) := hb.alloc hb.size _
  clear hS hb
  go_wp2_with fail
  go_ret
  exact ⟨_, rfl, hfin.out, hb2⟩

section
variable {P : Nat → Prop} {w : World} {B : Nat} {D : DSt} {v : Value} {ls : List (List UInt8)}

set_option maxRecDepth 100000 in
set_option maxHeartbeats 1000000 in
theorem do_bad (h : DeskAt P w B [] D) {Q : Nat → Prop} (hs : StrsIn Q w v ls) (hn : ls.length ≤ 150) (hc : ¬ Clean ls) :
    Calls Tryz.prog 8 #[.pointer (some ⟨B, 0, none⟩), v] w fun e w' => (∃ r : Int, e = .returned (.tuple #[.string ⟨#[]⟩, .agg #[.int .i64 11, .int .i64 r]])) ∧ DeskAt (fun b => P b ∨ w.heap.size ≤ b) w' B [] D ∧ Grew P w w' := by
  have hb : Below w.heap.size w (w.alloc (.cells #[.int .i64 0, .int .i64 0] 42)) := (Below.refl _ _).alloc (Nat.le_refl _) _
  have hck := check_any' (hs.later hb) hn
  obtain ⟨a, cap, rfl, -, -⟩ := hs
  generalize ls.length = n at *
  go_enter Tryz.func8, Tryz.ntmps8
  go_wp2_with fail
  refine hck.mono ?_
  clear hck
  rintro e w1 ⟨ho, hb1⟩
  obtain ⟨r, rfl⟩ : ∃ r : Int, e = .returned (.agg #[.int .i64 11, .int .i64 r]) := by
    rcases ho with ⟨-, h1⟩ | ⟨r, he, -⟩
    · exact absurd h1 hc
    · exact ⟨r, he⟩
  have hB1 : Below (w.heap.size + 1) (w.alloc (.cells #[.int .i64 0, .int .i64 0] 42)) w1 := by simpa using hb1
  obtain ⟨hz, r0, r1, f0, hB'⟩ := res_cells hB1
  have HF : Hid (∀ w', Below w.heap.size w w' → DeskAt (fun b => P b ∨ w.heap.size ≤ b) w' B [] D ∧ Grew P w w') := fun w' hb => ⟨(h.later hb).mono fun b _ hp => .inl hp, Grew.of_below hb⟩
  clear ho hc h hb1
  go_wp2_with fail
  go_region
  go_wp2_with fail
  exact bodyPost_ret (v := .tuple #[.string ⟨#[]⟩, .agg #[.int .i64 11, .int .i64 r]]) (by simp [results, Tryz.results8, go_sem, r0, r1, hz]) rfl ⟨⟨r, rfl⟩, HF.out _ ((below_two_alloc hB' _ _ _).drew)⟩

set_option maxRecDepth 100000 in
set_option maxHeartbeats 2000000 in
theorem do_good (h : DeskAt P w B [] D) (hE : EnvP P w) (hs : StrsIn (fun b => ¬ P b) w v ls) (hn : ls.length ≤ 150) (hlen : ∀ s ∈ ls, s.length ≤ 1000000) (hc : Clean ls) :
    Calls Tryz.prog 8 #[.pointer (some ⟨B, 0, none⟩), v] w fun e w' => e = .returned (.tuple #[.string (strB (linesF D ls).2), .agg #[.int .i64 0, .int .i64 0]]) ∧ (linesF D ls).2.length ≤ 3000000 ∧ DeskAt (fun b => P b ∨ w.heap.size ≤ b) w' B [] (linesF D ls).1 ∧ Grew P w w' := by
  have hb : Below w.heap.size w (w.alloc (.cells #[.int .i64 0, .int .i64 0] 42)) := (Below.refl _ _).alloc (Nat.le_refl _) _
  have hck := check_any' (hs.later hb) hn
  have HS : Hid (StrsIn (fun b => ¬ P b) w v ls) := hs
  obtain ⟨a, cap, rfl, -, -⟩ := hs
  obtain ⟨n, en⟩ : ∃ n, n = ls.length := ⟨_, rfl⟩
  have En : Hid (n = ls.length) := en
  rw [← en] at hn hck HS ⊢
  have HD : Hid (DeskAt P w B [] D) := h
  have HE : Hid (EnvP P w) := hE
  have HC : Hid (Clean ls) := hc
  clear h hE hc en hb
  go_enter Tryz.func8, Tryz.ntmps8
  go_wp2_with fail
  refine hck.mono ?_
  clear hck
  rintro e w1 ⟨ho, hb1⟩
  obtain rfl : e = .returned (.agg #[.int .i64 0, .int .i64 0]) := by
    rcases ho with ⟨he, -⟩ | ⟨r, -, h1⟩
    · exact he
    · exact absurd HC.out h1
  have hB1 : Below (w.heap.size + 1) (w.alloc (.cells #[.int .i64 0, .int .i64 0] 42)) w1 := by simpa using hb1
  obtain ⟨hz, r0, r1, f0, hB'⟩ := res_cells hB1
  obtain ⟨W, eW⟩ : ∃ W, W = w1.alloc (.cells #[.int .i64 0, .int .i64 0] 42) := ⟨_, rfl⟩
  have hbW : Below w1.heap.size w1 W := by rw [eW]; exact (Below.refl _ _).alloc (Nat.le_refl _) _
  have hBW : Below w.heap.size w W := hB'.trans (hbW.mono hB'.size)
  replace r0 := cell_later hbW r0
  replace r1 := cell_later hbW r1
  have hltW : w.heap.size < W.heap.size := World.block_lt_of_cell? W _ r0
  have HSt : Hid (Since (fun b => P b ∧ b < w.heap.size) W W B [] D) := since_start (HD.out.here.later hBW)
  have HEn : Hid (EnvP (fun b => P b ∧ b < w.heap.size) W) := (HE.out.later hBW).mono fun b hb => hb.1
  have HSt2 : Hid (StrsIn (fun b => ¬ (P b ∧ b < w.heap.size) ∧ b < w.heap.size) W (.slice a n cap) ls) := (HS.out.mono fun b hb hp => ⟨fun e => hp e.1, hb⟩).later hBW
  have HGW : Hid (Grew P w W) := Grew.of_below hBW
  have HW : Hid (w1.alloc (.cells #[.int .i64 0, .int .i64 0] 42) = W) := eW.symm
  have HR : Hid (W.cell? ⟨w.heap.size, 0, none⟩ = some (.int .i64 0) ∧ W.cell? ⟨w.heap.size, 1, none⟩ = some (.int .i64 0) ∧ ∀ o, W.frozen? ⟨w.heap.size, o, none⟩ = false) := ⟨r0, r1, fun o => by rw [hbW.frozen (p := ⟨w.heap.size, o, none⟩) (by have := hB1.size; simp at this; exact this)]; exact f0 o⟩
  clear eW hbW hB1 hb1 ho HD HE HS HC r0 r1 f0 hz hB'
  go_wp2_with fail
  rw [HW.out]
  clear HW
  go_loopg [18] n (fun g i wr => ∃ j : Nat, j ≤ n ∧ g = n - j ∧ i = .int .i64 j ∧ Hid (Since (fun b => P b ∧ b < w.heap.size) W wr B (linesF D (ls.take j)).2 (linesF D (ls.take j)).1) ∧ Hid ((linesF D (ls.take j)).2.length ≤ 20000 * j))
  case atStart => exact ⟨0, by omega, by omega, rfl, HSt.out, Nat.le_refl _⟩
  case round =>
    obtain ⟨j, hj, hg, rfl, hD, hT⟩ := hrel
    by_cases hlt : j < n
    · have hjn : j < ls.length := by have := En.out; omega
      obtain ⟨a', cap', eu, -, hcs⟩ := HSt2.out.grew hD.out.grew fun b hb => hb.1
      obtain ⟨b, off, -, rfl, hc⟩ := hcs j hjn
      injection eu with eu1 eu2 eu3
      subst eu1
      have hsl := hlen _ (List.getElem_mem hjn)
      have hl := line_s hD.out HEn.out ls[j] hsl (by have := hT.out; omega)
      have hlog := hD.out.desk.log
      have hll := lineF_len hD.out.desk.ok hlog.1 hlog.2 ls[j] hsl
      have hT' : Hid ((linesF D (ls.take (j + 1))).2.length ≤ 20000 * (j + 1)) := by
        show _ ≤ _
        rw [linesF_take hjn]
        simp only [List.length_append]
        have := hT.out; omega
      have e1 : Hid (linesF D (ls.take (j + 1)) = ((lineF (linesF D (ls.take j)).1 ls[j]).1, (linesF D (ls.take j)).2 ++ (lineF (linesF D (ls.take j)).1 ls[j]).2)) := linesF_take hjn D
      have HL : Hid (∀ w2, Since (fun b => P b ∧ b < w.heap.size) W w2 B ((linesF D (ls.take j)).2 ++ (lineF (linesF D (ls.take j)).1 ls[j]).2) (lineF (linesF D (ls.take j)).1 ls[j]).1 → Since (fun b => P b ∧ b < w.heap.size) W w2 B (linesF D (ls.take (j + 1))).2 (linesF D (ls.take (j + 1))).1) := fun w2 h2 => by rw [e1.out]; exact h2
      generalize (linesF D (ls.take j)).2 ++ (lineF (linesF D (ls.take j)).1 ls[j]).2 = t2 at *
      generalize (lineF (linesF D (ls.take j)).1 ls[j]).1 = D2 at *
      generalize ls[j] = x at *
      have t5 : (j : Int) < (n : Int) := by omega
      clear hD hT hcs eu2 eu3 hlog hll e1 hsl
      go_wp2_with fail
      refine hl.mono ?_
      clear hl hc
      rintro e w2 ⟨rfl, h2⟩
      have H2 : Hid _ := HL.out _ h2
      clear h2 HL
      go_wp2_with fail
      go_roundg (n - (j + 1))
      case measure => omega
      case rel => exact ⟨j + 1, by omega, rfl, by go_num, H2, hT'⟩
    · obtain rfl : j = n := by omega
      have e4 : Hid (ls.take j = ls) := List.take_of_length_le (by have := En.out; omega)
      rw [e4.out] at hD hT
      have HT : Hid ((linesF D ls).2.length ≤ 3000000) := by show _ ≤ _; have := hT.out; omega
      have hg2 := hD.out.grew
      obtain ⟨c, S, va, vb, vd, vs, hk⟩ := hD.out.desk
      have hst := stringD_any hk
      have hgP : ∀ b, (P b ∧ b < w.heap.size) ∨ W.heap.size ≤ b → P b ∨ w.heap.size ≤ b := fun b hb => hb.imp (·.1) fun hb => by omega
      have hnw : ∀ b, (P b ∧ b < w.heap.size) ∨ W.heap.size ≤ b → b ≠ w.heap.size := fun b hb => by rcases hb with hb | hb <;> omega
      have HX : Hid (∀ w5, Grew (fun b => vb.ownBlock = some b) wr w5 → (w5.cell? ⟨B, 0, none⟩ = some va ∧ w5.cell? ⟨B, 1, none⟩ = some vb ∧ B < w5.heap.size ∧ w5.frozen? ⟨B, 0, none⟩ = false ∧ w5.frozen? ⟨B, 1, none⟩ = false) ∧ ∀ w6, w6 = (w5.setCell ⟨B, 0, none⟩ (.pointer none)).setCell ⟨B, 1, none⟩ (.slice none 0 0) → w6.cell? ⟨w.heap.size, 0, none⟩ = some (.int .i64 0) ∧ w6.cell? ⟨w.heap.size, 1, none⟩ = some (.int .i64 0) ∧ (∀ o, w6.frozen? ⟨w.heap.size, o, none⟩ = false) ∧ w.heap.size < w6.heap.size ∧ ∀ x0 x1 : Value, DeskAt (fun b => P b ∨ w.heap.size ≤ b) ((w6.setCell ⟨w.heap.size, 0, none⟩ x0).setCell ⟨w.heap.size, 1, none⟩ x1) B [] (linesF D ls).1 ∧ Grew P w ((w6.setCell ⟨w.heap.size, 0, none⟩ x0).setCell ⟨w.heap.size, 1, none⟩ x1)) := fun w5 hg5 => by
        have hnB : ¬ vb.ownBlock = some B := fun e => by have := (hk.bc B e).2; have := hk.cB; omega
        have hlt' := hk.lt
        refine ⟨⟨hg5.cell hk.c0 hnB, hg5.cell hk.c1 hnB, Nat.lt_of_lt_of_le hlt' hg5.size, by rw [hg5.frozen (p := ⟨B, 0, none⟩) hlt' hnB]; exact hk.fr 0, by rw [hg5.frozen (p := ⟨B, 1, none⟩) hlt' hnB]; exact hk.fr 1⟩, fun w6 e6 => ?_⟩
        have hk6 := hk.reset hg5
        rw [← e6] at hk6
        have hg6 : Grew (fun b => (P b ∧ b < w.heap.size) ∨ W.heap.size ≤ b) wr w6 := by
          rw [e6]
          exact ((hg5.mono fun b e => (hk.bc b e).1).trans (grew_set w5 hk.pB 0 _)).trans (grew_set _ hk.pB 1 _)
        have hgW6 : Grew (fun b => P b ∧ b < w.heap.size) W w6 := grew_then hg2 hg6
        have hns : ¬ (P w.heap.size ∧ w.heap.size < w.heap.size) := fun e => by omega
        obtain ⟨R0, R1, RF⟩ := HR.out
        refine ⟨hgW6.cell R0 hns, hgW6.cell R1 hns, fun o => by rw [hgW6.frozen (p := ⟨w.heap.size, o, none⟩) hltW hns]; exact RF o, Nat.lt_of_lt_of_le hltW hgW6.size, fun x0 x1 => ?_⟩
        have hs2 : Grew (fun b => b = w.heap.size) w6 ((w6.setCell ⟨w.heap.size, 0, none⟩ x0).setCell ⟨w.heap.size, 1, none⟩ x1) := (grew_cellC w6 w.heap.size 0 x0).trans (grew_cellC _ w.heap.size 1 x1)
        refine ⟨?_, ?_⟩
        · have hd6 : DeskAt (fun b => (P b ∧ b < w.heap.size) ∨ W.heap.size ≤ b) w6 B [] (linesF D ls).1 := ⟨_, _, _, _, _, _, hk6⟩
          exact (hd6.grew hs2 fun b hb => hnw b hb).mono fun b _ hb => hgP b hb
        · exact grew_then (HGW.out.trans (hgW6.mono fun b hb => hb.1)) (hs2.mono fun b hb => .inr (by omega))
      have hrs := fun (w5 : World) (h1 : B < w5.heap.size) (h2 : w5.cell? ⟨B, 0, none⟩ = some va) (h3 : w5.cell? ⟨B, 1, none⟩ = some vb) (h4 : w5.frozen? ⟨B, 0, none⟩ = false) (h5 : w5.frozen? ⟨B, 1, none⟩ = false) => resetD_any h1 h2 h3 h4 h5
      clear hk hD hT hg2 hgP hnw HR HSt HSt2 HGW HEn
      clear e4
      go_wp2_with fail
      refine hst.mono ?_
      clear hst
      rintro e w5 ⟨rfl, hg5⟩
      obtain ⟨⟨q0, q1, q2, q3, q4⟩, hx⟩ := HX.out _ hg5
      have hr := hrs w5 q2 q0 q1 q3 q4
      have HX6 : Hid _ := hx
      clear HX hx hg5 hrs q0 q1 q2 q3 q4
      go_wp2_with fail
      refine hr.mono ?_
      clear hr
      rintro e w6 ⟨rfl, e6⟩
      obtain ⟨r0, r1, fz, hl6, hfin⟩ := HX6.out w6 e6
      have HF : Hid _ := hfin
      clear HX6 e6 hfin
      go_wp2_with fail
      exact bodyPost_ret (v := .tuple #[.string (strB (linesF D ls).2), .agg #[.int .i64 0, .int .i64 0]]) (by simp [results, Tryz.results8, go_sem, r0, r1]) rfl ⟨rfl, HT.out, HF.out _ _⟩
/-- What Do answers. -/
def DoOut (P : Nat → Prop) (w : World) (B : Nat) (D : DSt) (ls : List (List UInt8)) (e : Ending) (w' : World) : Prop :=
  ∃ (cd r : Int) (t : List UInt8) (D' : DSt), e = .returned (.tuple #[.string (strB t), .agg #[.int .i64 cd, .int .i64 r]]) ∧ (Clean ls → cd = 0 ∧ t = (linesF D ls).2 ∧ D' = (linesF D ls).1) ∧ (¬ Clean ls → cd = 11) ∧ t.length ≤ 3000000 ∧ DeskAt (fun b => P b ∨ w.heap.size ≤ b) w' B [] D' ∧ Grew P w w'
theorem do_any (h : DeskAt P w B [] D) (hE : EnvP P w) (hs : StrsIn (fun b => ¬ P b) w v ls) (hn : ls.length ≤ 150) (hlen : ∀ s ∈ ls, s.length ≤ 1000000) :
    Calls Tryz.prog 8 #[.pointer (some ⟨B, 0, none⟩), v] w (DoOut P w B D ls) := by
  by_cases hc : Clean ls
  · refine (do_good h hE hs hn hlen hc).mono ?_
    rintro e w' ⟨rfl, h1, h2, h3⟩
    exact ⟨_, _, _, _, rfl, fun _ => ⟨rfl, rfl, rfl⟩, fun h => absurd hc h, h1, h2, h3⟩
  · refine (do_bad h hs hn hc).mono ?_
    rintro e w' ⟨⟨r, rfl⟩, h2, h3⟩
    exact ⟨11, r, [], D, rfl, fun h => absurd h hc, fun _ => rfl, Nat.zero_le _, h2, h3⟩
end
end Go.Proofs.YtehkjbpgibdgpadGreatDoor
