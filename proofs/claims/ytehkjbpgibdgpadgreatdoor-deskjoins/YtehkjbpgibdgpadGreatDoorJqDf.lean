/-
  The walks of strings.Contains and strings.CutPrefix, of a desk's numbersOf and rows, and of the search in them. The walks of a desk's rows, and of the search in them.
-/
import Derived.Test.YtehkjbpgibdgpadGreatDoorDkLJ
namespace Go.Proofs.YtehkjbpgibdgpadGreatDoor
open Go.RowKit Go.Shelf

theorem isPrefix_take (s : List UInt8) : deedW.isPrefixOf s = decide (5 ≤ s.length ∧ s.take 5 = deedW) := by
  rw [Bool.eq_iff_iff, List.isPrefixOf_iff_prefix, decide_eq_true_iff]
  have e5 : deedW.length = 5 := rfl
  constructor
  · intro h
    have h1 := h.length_le
    refine ⟨by omega, ?_⟩
    rw [List.prefix_iff_eq_take, e5] at h
    exact h.symm
  · rintro ⟨-, h⟩
    rw [← h]; exact List.take_prefix _ _

set_option maxRecDepth 100000 in
set_option maxHeartbeats 400000 in
theorem hasPrefix_any (s : List UInt8) (w : World) (hl : s.length ≤ 1000000) :
    Calls Tryz.prog 77 #[.string (strB s), .string ⟨#[100, 101, 101, 100, 32]⟩] w fun e w' => e = .returned (.bool (deedW.isPrefixOf s)) ∧ w' = w := by
  rw [isPrefix_take]
  have hS : (strB s).size = s.length := rfl
  have h5 : (⟨#[100, 101, 101, 100, 32]⟩ : ByteArray).size = 5 := rfl
  by_cases h : 5 ≤ s.length
  · have hex : (strB s).extract 0 5 = strB (s.take 5) := by rw [strB_extract]; rfl
    have hq := str_beq (s.take 5) deedW
    have t : (5 : Int) ≤ (s.length : Int) := by omega
    have e : Hid (decide (5 ≤ s.length ∧ s.take 5 = deedW) = decide (s.take 5 = deedW)) := by show _ = _; simp [h]
    rw [e.out]
    have hD : deedW = [100, 101, 101, 100, 32] := rfl
    clear e h
    generalize s.take 5 = x at *
    by_cases hx : x = deedW
    · rw [decide_eq_true hx] at hq ⊢
      have hq' : ((strB x).toList == [100, 101, 101, 100, 32]) = true := by rw [strB_toList, hx]; rfl
      clear hx hD hq
      go_enter Tryz.func77, Tryz.ntmps77
      go_wp2_with fail
      go_ret
      exact ⟨rfl, rfl⟩
    · rw [decide_eq_false hx] at hq ⊢
      have hq' : ((strB x).toList == [100, 101, 101, 100, 32]) = false := by rw [strB_toList]; simpa [hD] using hx
      clear hx hD hq
      go_enter Tryz.func77, Tryz.ntmps77
      go_wp2_with fail
      go_ret
      exact ⟨rfl, rfl⟩
  · have t : ¬ (5 : Int) ≤ (s.length : Int) := by omega
    rw [decide_eq_false (fun e => h e.1)]
    clear h
    go_enter Tryz.func77, Tryz.ntmps77
    go_wp2_with fail
    go_ret
    exact ⟨rfl, rfl⟩

set_option maxRecDepth 100000 in
set_option maxHeartbeats 400000 in
theorem cutP_any (s : List UInt8) (w : World) (hl : s.length ≤ 1000000) :
    Calls Tryz.prog 22 #[.string (strB s), .string ⟨#[100, 101, 101, 100, 32]⟩] w fun e w' => e = .returned (.tuple #[.string (strB (if deedW.isPrefixOf s = true then s.drop 5 else s)), .bool (deedW.isPrefixOf s)]) ∧ Below w.heap.size w w' := by
  have hh := hasPrefix_any s w hl
  have h5 : (⟨#[100, 101, 101, 100, 32]⟩ : ByteArray).size = 5 := rfl
  have hl2 : Calls Tryz.prog 42 #[.string (strB s), .string ⟨#[100, 101, 101, 100, 32]⟩] w fun e w' => e = .returned (.tuple #[.string (strB (if deedW.isPrefixOf s = true then s.drop 5 else s)), .bool (deedW.isPrefixOf s)]) ∧ Below w.heap.size w w' := by
    cases hp : deedW.isPrefixOf s with
    | true =>
      rw [hp] at hh
      rw [if_pos rfl]
      have hlen : 5 ≤ s.length := by rw [isPrefix_take, decide_eq_true_iff] at hp; exact hp.1
      have hex : (strB s).extract 5 (strB s).size = strB (s.drop 5) := by rw [strB_extract, List.take_of_length_le (by rw [List.length_drop]; exact Nat.le_refl _)]
      have h5s : 5 ≤ (strB s).size := hlen
      clear hp hlen
      generalize s.drop 5 = x at *
      go_enter Tryz.func42, Tryz.ntmps42
      go_wp2_with fail
      refine hh.mono ?_
      rintro e w1 ⟨rfl, rfl⟩
      go_wp2_with fail
      go_ret2
      exact ⟨rfl, Below.refl _ _⟩
    | false =>
      rw [hp] at hh
      rw [if_neg (by simp)]
      clear hp
      go_enter Tryz.func42, Tryz.ntmps42
      go_wp2_with fail
      refine hh.mono ?_
      rintro e w1 ⟨rfl, rfl⟩
      go_wp2_with fail
      go_ret2
      exact ⟨rfl, Below.refl _ _⟩
  generalize (if deedW.isPrefixOf s = true then s.drop 5 else s) = x at *
  generalize deedW.isPrefixOf s = p at *
  go_enter Tryz.func22, Tryz.ntmps22
  go_wp2_with fail
  refine hl2.mono ?_
  rintro e w1 ⟨rfl, hb⟩
  go_wp2_with fail
  go_ret2
  exact ⟨rfl, hb⟩

/-! ### Numbers -/

theorem infoI3 : (Tryz.prog.info? 3).map (fun i => (i.zero, i.size, i.bytes)) = some (some (.int .i64 0), 1, 8) := by kernel_rfl
theorem numsL_len {s : List UInt8} {ns : List Int} (h : numsL s = some ns) : ns.length ≤ s.length := by
  by_cases hw : wordF s = []
  · rw [numsL_end hw] at h; cases h; exact Nat.zero_le _
  · cases hn : numF (wordF s) with
    | none => rw [numsL_bad hw hn] at h; cases h
    | some n =>
      rw [numsL_more hw hn] at h
      obtain ⟨ns', h', rfl⟩ := Option.map_eq_some_iff.1 h
      have h1 := behind_lt hw
      have h2 := numsL_len h'
      simp only [List.length_cons]; omega
  termination_by s.length
  decreasing_by exact behind_lt hw
/-- What numbersOf answers. -/
def OutN (s : List UInt8) (w : World) (e : Ending) (w' : World) : Prop :=
  (∃ v, e = .returned (.tuple #[v, .bool (numsL s).isSome]) ∧ NumsAt w' v ((numsL s).getD [])) ∧ Below w.heap.size w w'
theorem map_more (o : Option (List Int)) (acc : List Int) (n : Int) : (o.map (n :: ·)).map (acc ++ ·) = o.map ((acc ++ [n]) ++ ·) := by
  cases o <;> simp

set_option maxRecDepth 100000 in
set_option maxHeartbeats 1000000 in
theorem numbersOf_any (s : List UInt8) (w : World) (hE : Env w) (hl : s.length ≤ 1000000) :
    Calls Tryz.prog 25 #[.string (strB s)] w (OutN s w) := by
  obtain ⟨i0, hi, hz0, hz1, hz2⟩ := info_parts infoI3
  go_enter Tryz.func25, Tryz.ntmps25
  go_wp2_with fail
  refine (cutW_any s _ (by omega)).mono ?_
  rintro e w1 ⟨rfl, hb1⟩
  go_wp2_with fail
  go_loopg [4, 5, 6] s.length (fun g nv wv bv wr => ∃ (rest : List UInt8) (acc : List Int), g = rest.length ∧ wv = .string (strB (wordF rest)) ∧ bv = .string (strB (behindF rest)) ∧ rest.length ≤ 1000000 ∧ acc.length + rest.length ≤ s.length ∧ Hid (numsL s = (numsL rest).map (acc ++ ·)) ∧ Hid (wr.ownsRow w.heap.size 3 1 nv acc.length (intCells acc)) ∧ Below w.heap.size w wr)
  case atStart => exact ⟨s, [], rfl, rfl, rfl, hl, by simp, by show _ = _; simp, World.ownsRow_nil _ _ _ _, hb1⟩
  case round =>
    clear hb1
    obtain ⟨rest, acc, hg, rfl, rfl, hr, hA, hN, hO, hb⟩ := hrel
    have hq := str_empty (wordF rest)
    obtain ⟨na, ncap, rfl, -⟩ := owns_slice hO.out
    by_cases hw : wordF rest = []
    · rw [decide_eq_true hw] at hq
      have hfin : Hid (OutN s w (.returned (.tuple #[.slice na acc.length ncap, .bool true])) wr) := by
        have e : numsL s = some acc := by rw [hN.out, numsL_end hw]; simp
        refine ⟨⟨_, by rw [e]; rfl, ?_⟩, hb⟩
        rw [e]; exact owns_nums hO.out
      clear hw hN hO
      go_wp2_with fail
      go_ret2
      exact hfin.out
    · rw [decide_eq_false hw] at hq
      have hwl := word_length rest
      have hn := num_any (wordF rest) wr (hE.later hb) (by omega)
      have hbl := behind_lt hw
      have hcut := fun W => cutW_any (behindF rest) W (by omega)
      cases hnum : numF (wordF rest) with
      | none =>
        have hfin : Hid (∀ w', Below w.heap.size w w' → OutN s w (.returned (.tuple #[.slice none 0 0, .bool false])) w') := fun w' hb' => by
          have e : numsL s = none := by rw [hN.out, numsL_bad hw hnum]; rfl
          refine ⟨⟨_, by rw [e]; rfl, ?_⟩, hb'⟩
          rw [e]; exact nums_nil w'
        rw [hnum] at hn
        simp only [Option.getD_none, Option.isSome_none] at hn
        clear hw hN hO hnum hcut
        generalize wordF rest = x at *
        go_wp2_with fail
        refine hn.mono ?_
        clear hn
        rintro e w2 ⟨rfl, hb2⟩
        go_wp2_with fail
        go_ret2
        exact hfin.out _ (hb.trans (hb2.mono hb.size))
      | some n =>
        have hN' : Hid (numsL s = (numsL (behindF rest)).map ((acc ++ [n]) ++ ·)) := by show _ = _; rw [hN.out, numsL_more hw hnum, map_more]
        rw [hnum] at hn
        simp only [Option.getD_some, Option.isSome_some] at hn
        clear hw hN hnum
        generalize wordF rest = x at *
        generalize behindF rest = bh at *
        go_wp2_with fail
        refine hn.mono ?_
        clear hn
        rintro e w2 ⟨rfl, hb2⟩
        have hw2 : Below w.heap.size w w2 := hb.trans (hb2.mono hb.size)
        have hO2 : Hid ((w2.alloc (.cells #[.int .i64 n] 3)).ownsRow w.heap.size 3 1 (.slice na acc.length ncap) acc.length (intCells acc)) := (owns_kept hO.out fun g hg => hb2.block g (owns_lt hO.out hg).2).alloc _
        have HNw : Hid (∀ j u, [Value.int .i64 n][j]? = some u → (w2.alloc (.cells #[.int .i64 n] 3)).cell? ((⟨w2.heap.size, 0, none⟩ : Addr).add j) = some u) := cell_one_new w2 _ _
        have hz := hw2.size
        clear hO hb2 hb
        go_wp2_with (at_builtin; refine wpList_append_own _ rfl _ _ 72 rfl w.heap.size 3 i0 (.int .i64 0) 1 8 Tryz.underlying72 hi hz0 hz1 hz2 rfl (by decide) _ _ _ rfl hO2.out ⟨w2.heap.size, 0, none⟩ 1 1 [.int .i64 n] rfl rfl HNw.out (by simp [Value.oneCell']) (by unfold maxLen; omega) (by omega) (by simp; omega) ?_; intro v3 w3 hO3 hg3 _)
        have hw3 : Below w.heap.size w w3 := (hw2.alloc hz _).grown hg3 (by simp; omega) (fun k hk => (hO2.out.lt k hk).1)
        have HO3 : Hid (w3.ownsRow w.heap.size 3 1 v3 (acc ++ [n]).length (intCells (acc ++ [n]))) := by
          show World.ownsRow _ _ _ _ _ _ _
          rw [intCells_append, List.length_append]; exact hO3
        clear hO3 hg3 hO2 HNw hw2
        refine (hcut _).mono ?_
        rintro e w4 ⟨rfl, hb4⟩
        have HO4 : Hid (w4.ownsRow w.heap.size 3 1 v3 (acc ++ [n]).length (intCells (acc ++ [n]))) := owns_kept HO3.out fun g hg => hb4.block g (owns_lt HO3.out hg).2
        have hw4 : Below w.heap.size w w4 := hw3.trans (hb4.mono hw3.size)
        clear hb4 HO3
        go_wp2_with fail
        go_roundg bh.length
        case measure => omega
        case rel => exact ⟨bh, acc ++ [n], rfl, rfl, rfl, by omega, by simp; omega, hN', HO4, hw4⟩
end Go.Proofs.YtehkjbpgibdgpadGreatDoor
namespace Go.Proofs.YtehkjbpgibdgpadGreatDoor
open Go.RowKit Go.Shelf

def rowFn : Nat → Nat
  | 0 => 49
  | 1 => 51
  | 2 => 53
  | 3 => 54
  | 4 => 55
  | 5 => 58
  | 6 => 60
  | 7 => 62
  | _ => 64
def fnV (G i : Nat) : Value := .func (.func (rowFn i)) #[] #[.pointer (some ⟨G, 0, none⟩)]
/-- The rows as they lie in memory: in block R; G: the block that holds the desk's address. -/
structure RowsAt (w : World) (R G B : Nat) : Prop where
  box : w.cell? ⟨G, 0, none⟩ = some (.pointer (some ⟨B, 0, none⟩))
  row : ∀ i, i < 9 → w.cell? ⟨R, i * 3, none⟩ = some (.string (strB (rowW i))) ∧ w.cell? ⟨R, i * 3 + 1, none⟩ = some (.int .i64 (rowM i)) ∧ w.cell? ⟨R, i * 3 + 2, none⟩ = some (fnV G i)
theorem RowsAt.later {w w' : World} {R G B : Nat} (h : RowsAt w R G B) (hb : Below w.heap.size w w') : RowsAt w' R G B :=
  ⟨cell_later hb h.box, fun i hi => ⟨cell_later hb (h.row i hi).1, cell_later hb (h.row i hi).2.1, cell_later hb (h.row i hi).2.2⟩⟩
theorem lt9 {p : Nat → Prop} (h0 : p 0) (h1 : p 1) (h2 : p 2) (h3 : p 3) (h4 : p 4) (h5 : p 5) (h6 : p 6) (h7 : p 7) (h8 : p 8) : ∀ i, i < 9 → p i := fun i hi => by
  match i, hi with
  | 0, _ => exact h0
  | 1, _ => exact h1
  | 2, _ => exact h2
  | 3, _ => exact h3
  | 4, _ => exact h4
  | 5, _ => exact h5
  | 6, _ => exact h6
  | 7, _ => exact h7
  | 8, _ => exact h8

set_option maxRecDepth 100000 in
set_option maxHeartbeats 1000000 in
theorem rows_any (B : Nat) (w : World) :
    Calls Tryz.prog 26 #[.pointer (some ⟨B, 0, none⟩)] w fun e w' => e = .returned (.slice (some ⟨w.heap.size + 1, 0, none⟩) 9 9) ∧ RowsAt w' (w.heap.size + 1) w.heap.size B ∧ Below w.heap.size w w' := by
  go_enter Tryz.func26, Tryz.ntmps26
  go_wp2_with fail
  go_ret
  refine ⟨rfl, ⟨by go_simp, lt9 ?_ ?_ ?_ ?_ ?_ ?_ ?_ ?_ ?_⟩, below_alloc2 _ _ _⟩
  all_goals exact ⟨by go_simp; rfl, by go_simp; rfl, by go_simp; rfl⟩

section
variable {w : World} {x wd : List UInt8} {m : Int} {n N W : Nat} {na : Option Addr} {ncap : Nat}

set_option maxRecDepth 100000 in
set_option maxHeartbeats 1000000 in
theorem is_row (f : Nat) (G : Nat) (cW : w.cell? ⟨W, 0, none⟩ = some (.string (strB wd))) (cN : w.cell? ⟨N, 0, none⟩ = some (.slice na n ncap)) :
    Calls Tryz.prog 28 #[.agg #[.string (strB x), .int .i64 m, .func (.func f) #[] #[.pointer (some ⟨G, 0, none⟩)]], .pointer (some ⟨W, 0, none⟩), .pointer (some ⟨N, 0, none⟩)] w fun e w' => e = .returned (.bool (decide (x = wd) && (m == -1 || m == (n : Int)))) ∧ Below w.heap.size w w' := by
  have hq := str_beq x wd
  have hltW := World.block_lt_of_cell? w _ cW
  have hltN := World.block_lt_of_cell? w _ cN
  have hb : Below w.heap.size w (w.alloc (.cells #[.string (strB x), .int .i64 m, .func (.func f) #[] #[.pointer (some ⟨G, 0, none⟩)]] 80)) := (Below.refl _ _).alloc (Nat.le_refl _) _
  have dW := cell_later hb cW
  have dN := cell_later hb cN
  dsimp only at hltW hltN
  by_cases hx : x = wd
  · rw [decide_eq_true hx] at hq ⊢
    rw [Bool.true_and]
    clear hx
    cases h1 : (m == -1) with
    | true =>
      rw [Bool.true_or]
      go_enter Tryz.func28, Tryz.ntmps28
      go_wp2_with fail
      go_ret
      exact ⟨rfl, hb⟩
    | false =>
      rw [Bool.false_or]
      generalize h2 : (m == (n : Int)) = q
      go_enter Tryz.func28, Tryz.ntmps28
      go_wp2_with fail
      go_ret
      exact ⟨rfl, hb⟩
  · rw [decide_eq_false hx] at hq ⊢
    rw [Bool.false_and]
    clear hx
    go_enter Tryz.func28, Tryz.ntmps28
    go_wp2_with fail
    go_ret
    exact ⟨rfl, hb⟩
end
end Go.Proofs.YtehkjbpgibdgpadGreatDoor
