/-
  The walks of package words: find, Cut; and of strings.Cut at a semicolon. What the package variables hold, and the walk of words.Number. The walks of text.find and of the function that it asks. The walks of text.opOf and text.parseOp.
-/
import Derived.Test.YtehkjbpgibdgpadGreatDoorJqWa
import Derived.Test.YtehkjbpgibdgpadGreatDoorJqXa
import Derived.Test.YtehkjbpgibdgpadGreatDoorShelf
import Derived.Shelf.RegionOpen
import Derived.Lib.AppendIntMem
import Derived.Lib.ParseIntBTie
import Derived.Deep.LoopGhost
namespace Go.Proofs.YtehkjbpgibdgpadGreatDoor
open Go.RowKit

/-- A text as the model has it. -/
def strB (l : List UInt8) : ByteArray := ⟨l.toArray⟩
theorem strB_size (l : List UInt8) : (strB l).size = l.length := rfl
theorem strB_list (l : List UInt8) : (strB l).data.toList = l := rfl
theorem strB_extract (l : List UInt8) (a b : Nat) : (strB l).extract a b = strB ((l.drop a).take (b - a)) := Lib.extract_eq _ _ _
theorem strB_inj {a b : List UInt8} (h : strB a = strB b) : a = b := by
  have := congrArg (fun s => s.data.toList) h
  exact this

set_option maxHeartbeats 400000 in
theorem idx_str (l : List UInt8) (i : Nat) (h : i < l.length) (w : World) : (Instr.index 9 (.string (strB l)) (.int .i64 (i : Int))).run Tryz.prog w = .ok (.int .u8 ((l[i].toNat : Nat) : Int)) w := by
  have hS : (strB l).size = l.length := rfl
  go_simp
  rfl

theorem get_str (l : List UInt8) (i : Nat) (h : i < l.length) : (strB l)[i]! = l[i] := by
  show (ByteArray.mk l.toArray)[i]! = _
  rw [Lib.get!_eq, List.getD_eq_getElem?_getD, List.getElem?_eq_getElem h]; rfl

set_option maxHeartbeats 400000 in
theorem isNot_any (c : Int) (w : World) :
    Calls Tryz.prog 46 #[.int .u8 c] w fun e w' => e = .returned (.bool (c != 32)) ∧ w' = w := by
  go_enter Tryz.func46, Tryz.ntmps46
  go_wp2
  go_ret
  exact ⟨rfl, rfl⟩
set_option maxHeartbeats 400000 in
theorem is_any (c : Int) (w : World) :
    Calls Tryz.prog 47 #[.int .u8 c] w fun e w' => e = .returned (.bool (c == 32)) ∧ w' = w := by
  go_enter Tryz.func47, Tryz.ntmps47
  go_wp2
  go_ret
  exact ⟨rfl, rfl⟩

/-- How many bytes there are ahead of the first that is as asked for. -/
theorem tw_take {p : UInt8 → Bool} {l : List UInt8} {j : Nat} (h : j < l.length) (hp : ∀ i (hi : i < l.length), i < j → p l[i] = true) (hj : p l[j] = false) : (l.takeWhile p).length = j := by
  induction l generalizing j with
  | nil => simp at h
  | cons c r ih =>
    cases j with
    | zero => rw [List.takeWhile_cons_of_neg (by simpa using hj)]; rfl
    | succ j =>
      rw [List.takeWhile_cons_of_pos (show p c = true from hp 0 (by simp) (by omega)), List.length_cons, ih (by simpa using h) (fun i hi hij => hp (i + 1) (by simpa using hi) (by omega)) (by simpa using hj)]
theorem tw_all {p : UInt8 → Bool} {l : List UInt8} (hp : ∀ i (hi : i < l.length), p l[i] = true) : (l.takeWhile p).length = l.length := by
  induction l with
  | nil => rfl
  | cons c r ih =>
    rw [List.takeWhile_cons_of_pos (show p c = true from hp 0 (by simp)), List.length_cons, ih (fun i hi => hp (i + 1) (by simpa using hi)), List.length_cons]

/-- find, whatever it asks for: the function f tells of a byte what 'q' says. -/
theorem find_words (f : Nat) (q : UInt8 → Bool) (hf : ∀ (c : UInt8) (w : World), Calls Tryz.prog f #[.int .u8 ((c.toNat : Nat) : Int)] w fun e w' => e = .returned (.bool (q c)) ∧ w' = w) (l : List UInt8) (w : World) (hl : l.length ≤ 9223372036854775807) (hcall : ∀ args w, (callFunc f args).run Tryz.prog w = .ok (.enter f args) w) :
    Calls Tryz.prog 45 #[.string (strB l), .func (.func f) #[] #[]] w fun e w' => e = .returned (.int .i64 ((l.takeWhile (fun c => !q c)).length : Nat)) ∧ w' = w := by
  have hS : (strB l).size = l.length := rfl
  go_enter Tryz.func45, Tryz.ntmps45
  go_wp2_with fail
  go_loop [8] (fun i => ∃ j : Nat, j ≤ l.length ∧ i = .int .i64 j ∧ Hid (∀ i (hi : i < l.length), i < j → (!q l[i]) = true)) (fun i => l.length - (intOf i).toNat)
  case atStart => exact ⟨0, by omega, rfl, fun i hi h => by omega⟩
  case round =>
    obtain ⟨j, hj, rfl, hH⟩ := hrel
    by_cases hlt : j < l.length
    · have hx := idx_str l j hlt
      have hc := hf l[j]
      by_cases hq : q l[j] = true
      · have hr : Hid ((l.takeWhile (fun c => !q c)).length = j) := tw_take hlt hH.out (by simp [hq])
        rw [hq] at hc
        go_wp2_with (go_at_fn f; refine (hc _).mono ?_; rintro e w' ⟨rfl, rfl⟩)
        go_ret
        exact ⟨ret_int (by rw [hr.out]), rfl⟩
      · have hq' : q l[j] = false := by simpa using hq
        rw [hq'] at hc
        have hH' : Hid (∀ i (hi : i < l.length), i < j + 1 → (!q l[i]) = true) := fun i hi h => by
          by_cases e : i = j
          · subst e; simp [hq']
          · exact hH.out i hi (by omega)
        go_wp2_with (go_at_fn f; refine (hc _).mono ?_; rintro e w' ⟨rfl, rfl⟩)
        go_round
        case rel => exact ⟨j + 1, by omega, by go_num, hH'⟩
        case measure => simp [intOf]; omega
    · obtain rfl : j = l.length := by omega
      have hr : Hid ((l.takeWhile (fun c => !q c)).length = l.length) := tw_all fun i hi => hH.out i hi hi
      go_wp2_with fail
      go_ret
      exact ⟨ret_int (by rw [hr.out]), rfl⟩

set_option maxHeartbeats 400000 in
theorem slice_from (l : List UInt8) (n : Nat) (h : n ≤ l.length) (w : World) : (Instr.slice 9 (.string (strB l)) (some (.int .i64 (n : Int))) none none).run Tryz.prog w = .ok (.string (strB (l.drop n))) w := by
  have hS : (strB l).size = l.length := rfl
  have e : (strB l).extract n l.length = strB (l.drop n) := by
    rw [strB_extract, List.take_of_length_le (by rw [List.length_drop]; exact Nat.le_refl _)]
  go_simp
set_option maxHeartbeats 400000 in
theorem slice_to (l : List UInt8) (n : Nat) (h : n ≤ l.length) (w : World) : (Instr.slice 9 (.string (strB l)) none (some (.int .i64 (n : Int))) none).run Tryz.prog w = .ok (.string (strB (l.take n))) w := by
  have hS : (strB l).size = l.length := rfl
  have e : (strB l).extract 0 n = strB (l.take n) := by rw [strB_extract]; rfl
  go_simp

theorem u8_eq (c : UInt8) : (((c.toNat : Nat) : Int) == 32) = (c == 32) := by
  rw [Bool.eq_iff_iff]; simp only [beq_iff_eq]
  constructor
  · intro h; apply UInt8.toNat_inj.1; simpa using (show c.toNat = 32 by omega)
  · rintro rfl; rfl
theorem u8_ne (c : UInt8) : (((c.toNat : Nat) : Int) != 32) = (c != 32) := by
  rw [bne, bne, u8_eq]

theorem drop_tw (p : UInt8 → Bool) (l : List UInt8) : l.drop (l.takeWhile p).length = l.dropWhile p := by
  conv => lhs; rw [← List.takeWhile_append_dropWhile (p := p) (l := l)]
  rw [List.takeWhile_append_dropWhile]
  induction l with
  | nil => rfl
  | cons c r ih =>
    by_cases h : p c = true
    · rw [List.takeWhile_cons_of_pos h, List.dropWhile_cons_of_pos h, List.length_cons, List.drop_succ_cons, ih]
    · rw [List.takeWhile_cons_of_neg h, List.dropWhile_cons_of_neg h]; rfl
theorem take_tw (p : UInt8 → Bool) (l : List UInt8) : l.take (l.takeWhile p).length = l.takeWhile p := by
  induction l with
  | nil => rfl
  | cons c r ih =>
    by_cases h : p c = true
    · rw [List.takeWhile_cons_of_pos h, List.length_cons, List.take_succ_cons, ih]
    · rw [List.takeWhile_cons_of_neg h]; rfl

set_option maxRecDepth 100000 in
set_option maxHeartbeats 400000 in
theorem cutW_any (l : List UInt8) (w : World) (hl : l.length ≤ 9223372036854775807) :
    Calls Tryz.prog 24 #[.string (strB l)] w fun e w' => e = .returned (.tuple #[.string (strB (wordF l)), .string (strB (behindF l))]) ∧ Below w.heap.size w w' := by
  have h1 := find_words 46 (fun c => c != 32) (fun c w => by rw [← u8_ne]; exact isNot_any _ w) l w hl (fun _ _ => rfl)
  have e1 : (fun c : UInt8 => !(c != 32)) = (· == 32) := by funext c; rw [bne, Bool.not_not]
  rw [e1] at h1
  have hs1 := slice_from l (l.takeWhile (· == 32)).length ((List.takeWhile_sublist _).length_le)
  rw [drop_tw] at hs1
  have hl2 : (l.dropWhile (· == 32)).length ≤ 9223372036854775807 := Nat.le_trans (List.dropWhile_sublist _).length_le hl
  have h2 := find_words 47 (fun c => c == 32) (fun c w => by rw [← u8_eq]; exact is_any _ w) (l.dropWhile (· == 32)) w hl2 (fun _ _ => rfl)
  have e2 : (fun c : UInt8 => !(c == 32)) = (· != 32) := by funext c; rfl
  rw [e2] at h2
  have hs2 := slice_to (l.dropWhile (· == 32)) ((l.dropWhile (· == 32)).takeWhile (· != 32)).length ((List.takeWhile_sublist _).length_le)
  have hs3 := slice_from (l.dropWhile (· == 32)) ((l.dropWhile (· == 32)).takeWhile (· != 32)).length ((List.takeWhile_sublist _).length_le)
  rw [take_tw] at hs2
  rw [drop_tw] at hs3
  clear e1 e2
  have hw : wordF l = (l.dropWhile (· == 32)).takeWhile (· != 32) := rfl
  have hb : behindF l = (l.dropWhile (· == 32)).dropWhile (· != 32) := rfl
  rw [hw, hb]
  clear hw hb
  generalize l.dropWhile (· == 32) = m at *
  generalize (l.takeWhile (· == 32)).length = n1 at *
  generalize m.takeWhile (· != 32) = wd at *
  generalize m.dropWhile (· != 32) = bh at *
  generalize wd.length = n2 at *
  go_enter Tryz.func24, Tryz.ntmps24
  go_wp2_with fail
  refine h1.mono ?_
  rintro e w' ⟨rfl, rfl⟩
  go_wp2_with fail
  refine h2.mono ?_
  rintro e w' ⟨rfl, rfl⟩
  go_wp2_with fail
  go_region
  go_wp2_with fail
  go_ret2
  exact ⟨rfl, (Below.refl _ _).drew⟩

theorem index_one (l : List UInt8) (w : World) :
    Calls Tryz.prog 76 #[.string (strB l), .string ⟨#[59]⟩] w fun e w' => e = .returned (.int .i64 (Lib.indexByte l 59)) ∧ w' = w := Tryz.stringslite_Index_one (strB l) 59 w

theorem indexByte_semi (l : List UInt8) : Lib.indexByte l 59 = Lib.index l [59] := by
  induction l with
  | nil => rfl
  | cons c r ih =>
    rw [index_semi, Lib.indexByte, ih]
    by_cases h : c = 59
    · subst h; simp
    · rw [if_neg (by simpa using h), if_neg h]
      simp only [beq_iff_eq]

set_option maxRecDepth 100000 in
set_option maxHeartbeats 400000 in
theorem cutLite_any (l : List UInt8) (w : World) (hl : l.length ≤ 9223372036854775806) :
    Calls Tryz.prog 105 #[.string (strB l), .string ⟨#[59]⟩] w fun e w' => e = .returned (.tuple #[.string (strB (partF1 l)), .string (strB (restF l)), .bool (moreF l)]) ∧ Below w.heap.size w w' := by
  have hc := cut_semi l
  have hi := index_one l w
  rw [indexByte_semi] at hi
  unfold Lib.cut at hc
  have hge := Lib.index_ge l [59]
  have hroom := Lib.index_room l [59]
  have hsz : (⟨#[59]⟩ : ByteArray).size = 1 := rfl
  by_cases h : 0 ≤ Lib.index l [59]
  · rw [if_pos h] at hc
    injection hc with e1 hc
    injection hc with e2 e3
    obtain ⟨n, hn⟩ : ∃ n : Nat, Lib.index l [59] = n := ⟨(Lib.index l [59]).toNat, by omega⟩
    have hr := hroom h
    rw [hn] at hi e1 e2 hr
    rw [Int.toNat_natCast] at e1 e2
    simp only [List.length_cons, List.length_nil] at e2 hr
    have hn1 : n + 1 ≤ l.length := by omega
    have hs1 := slice_to l n (by omega)
    have hs2 := slice_from l (n + 1) hn1
    rw [e1] at hs1
    rw [show n + (0 + 1) = n + 1 from rfl] at e2
    rw [e2] at hs2
    rw [← e3]
    have hcast : ((n + 1 : Nat) : Int) = (n : Int) + 1 := by omega
    rw [hcast] at hs2
    clear e1 e2 e3 hcast hr hroom hge h hn
    go_enter Tryz.func105, Tryz.ntmps105
    go_wp2_with fail
    refine hi.mono ?_
    rintro e w' ⟨rfl, rfl⟩
    go_wp2_with fail
    go_region
    go_wp2_with fail
    go_ret3
    exact ⟨rfl, (Below.refl _ _).drew⟩
  · rw [if_neg h] at hc
    injection hc with e1 hc
    injection hc with e2 e3
    have hm : Lib.index l [59] = -1 := by omega
    rw [hm] at hi
    rw [← e1, ← e2, ← e3]
    clear e1 e2 e3 hroom hge h hm
    go_enter Tryz.func105, Tryz.ntmps105
    go_wp2_with fail
    refine hi.mono ?_
    rintro e w' ⟨rfl, rfl⟩
    go_wp2_with fail
    go_ret3
    exact ⟨rfl, Below.refl _ _⟩

set_option maxRecDepth 100000 in
set_option maxHeartbeats 400000 in
theorem cutS_any (l : List UInt8) (w : World) (hl : l.length ≤ 9223372036854775806) :
    Calls Tryz.prog 78 #[.string (strB l), .string ⟨#[59]⟩] w fun e w' => e = .returned (.tuple #[.string (strB (partF1 l)), .string (strB (restF l)), .bool (moreF l)]) ∧ Below w.heap.size w w' := by
  have h := cutLite_any l w hl
  go_enter Tryz.func78, Tryz.ntmps78
  go_wp2_with fail
  refine h.mono ?_
  rintro e w' ⟨rfl, hb⟩
  go_wp2_with fail
  go_ret3
  exact ⟨rfl, hb⟩
end Go.Proofs.YtehkjbpgibdgpadGreatDoor
namespace Go.Proofs.YtehkjbpgibdgpadGreatDoor
open Go.RowKit

/-- What the package variables hold. -/
structure Env (w : World) : Prop where
  lim : Lim w
  form : ∀ k, k < 10 → w.cell? ⟨3, k * 2, none⟩ = some (.string (strB (wordK k))) ∧ w.cell? ⟨3, k * 2 + 1, none⟩ = some (.int .i64 ((manyK k : Nat) : Int))
  tab : Lib.TabIs Tryz.prog w "internal/strconv.uint64pow10" .u64 Lib.pow10Tab
  syn : ∃ ev, w.cell? ⟨5, 0, none⟩ = some ev ∧ (ev = .nilIface ∨ ∃ te pe, ev = .iface te pe)
  rng : ∃ ev, w.cell? ⟨6, 0, none⟩ = some ev ∧ (ev = .nilIface ∨ ∃ te pe, ev = .iface te pe)

theorem Env.later {w w' : World} (hb : Below w.heap.size w w') (h : Env w) : Env w' where
  lim := h.lim.later hb
  form := fun k hk => ⟨cell_later hb (h.form k hk).1, cell_later hb (h.form k hk).2⟩
  tab := Lib.tabBelow_of_tabIs h.tab _ hb
  syn := by obtain ⟨ev, h1, h2⟩ := h.syn; exact ⟨ev, cell_later hb h1, h2⟩
  rng := by obtain ⟨ev, h1, h2⟩ := h.rng; exact ⟨ev, cell_later hb h1, h2⟩

theorem parseB_bounds {l : List UInt8} {v : Int} (h : Lib.parseIntB 64 l = .ok v) : -9223372036854775808 ≤ v ∧ v ≤ 9223372036854775807 := by
  have := Lib.parseIntB_bounds h
  omega

theorem fmt_any {n : Int} (h : I64 n) (w : World) (hE : Env w) :
    Calls Tryz.prog 71 #[.int .i64 n, .int .i64 10] w fun e w' => e = .returned (.string (strB (Lib.itoa n))) ∧ Below w.heap.size w w' := by
  refine (Tryz.strconv_FormatInt_10 n h.1 h.2 w hE.tab).mono ?_
  rintro e w' ⟨rfl, k, os, rfl⟩
  exact ⟨rfl, Lib.below_grow _ _ (Nat.le_refl _) _ _⟩

theorem strB_toList (l : List UInt8) : (strB l).toList = l := by
  rw [ByteArray.toList_eq]; rfl

theorem str_beq (a b : List UInt8) : ((strB a).toList == (strB b).toList) = decide (a = b) := by
  rw [strB_toList, strB_toList, Bool.eq_iff_iff]; simp

set_option maxRecDepth 100000 in
set_option maxHeartbeats 400000 in
theorem num_any (l : List UInt8) (w : World) (hE : Env w) (hl : l.length ≤ 281474976710656) :
    Calls Tryz.prog 48 #[.string (strB l)] w fun e w' => e = .returned (.tuple #[.int .i64 ((numF l).getD 0), .bool (numF l).isSome]) ∧ Below w.heap.size w w' := by
  obtain ⟨es, hs1, hs2⟩ := hE.syn
  obtain ⟨er, hr1, hr2⟩ := hE.rng
  cases hp : Lib.parseIntB 64 l with
  | ok v =>
    obtain ⟨b0, b1⟩ := parseB_bounds hp
    have hc := Tryz.strconv_ParseInt_10_at64_ok (strB l) (by rw [strB_size]; omega) v hp w
    by_cases he : Lib.itoa v = l
    · have hn : numF l = some v := by simp [numF, hp, he]
      rw [hn]
      have hq := str_beq (Lib.itoa v) l
      rw [decide_eq_true he] at hq
      go_enter Tryz.func48, Tryz.ntmps48
      go_wp2_with fail
      refine hc.mono ?_
      rintro e w1 ⟨rfl, hw1⟩
      have hb1 : Below w.heap.size w w1 := by
        rcases hw1 with rfl | ⟨t, rfl⟩
        · exact Below.refl _ _
        · exact Lib.bytesWorld_below _ _ _
      clear hw1
      go_wp2_with fail
      refine (fmt_any ⟨b0, b1⟩ w1 (hE.later hb1)).mono ?_
      rintro e w2 ⟨rfl, hb2⟩
      go_wp2_with fail
      go_ret2
      exact ⟨rfl, hb1.trans (hb2.mono hb1.size)⟩
    · have hn : numF l = none := by simp [numF, hp, he]
      rw [hn]
      have hq := str_beq (Lib.itoa v) l
      rw [decide_eq_false he] at hq
      go_enter Tryz.func48, Tryz.ntmps48
      go_wp2_with fail
      refine hc.mono ?_
      rintro e w1 ⟨rfl, hw1⟩
      have hb1 : Below w.heap.size w w1 := by
        rcases hw1 with rfl | ⟨t, rfl⟩
        · exact Below.refl _ _
        · exact Lib.bytesWorld_below _ _ _
      clear hw1
      go_wp2_with fail
      refine (fmt_any ⟨b0, b1⟩ w1 (hE.later hb1)).mono ?_
      rintro e w2 ⟨rfl, hb2⟩
      go_wp2_with fail
      go_ret2
      exact ⟨rfl, hb1.trans (hb2.mono hb1.size)⟩
  | «syntax» =>
    have hn : numF l = none := by simp [numF, hp]
    rw [hn]
    have hc := Tryz.strconv_ParseInt_10_at64_syntax (strB l) (by rw [strB_size]; exact hl) hp es w hs1 hs2
    go_enter Tryz.func48, Tryz.ntmps48
    go_wp2_with fail
    refine hc.mono ?_
    rintro e w1 ⟨N, rfl, -, -, hb1⟩
    go_wp2_with fail
    go_ret2
    exact ⟨rfl, hb1⟩
  | range =>
    have hn : numF l = none := by simp [numF, hp]
    rw [hn]
    have hc := Tryz.strconv_ParseInt_10_at64_range (strB l) (by rw [strB_size]; exact hl) hp er w hr1 hr2
    go_enter Tryz.func48, Tryz.ntmps48
    go_wp2_with fail
    refine hc.mono ?_
    rintro e w1 ⟨N, rfl, -, -, hb1⟩
    go_wp2_with fail
    go_ret2
    exact ⟨rfl, hb1⟩
end Go.Proofs.YtehkjbpgibdgpadGreatDoor
namespace Go.Proofs.YtehkjbpgibdgpadGreatDoor
open Go.RowKit

theorem ret_bool9 {a b : Bool} (h : a = b) : Ending.returned (.bool a) = .returned (.bool b) := by rw [h]

set_option maxHeartbeats 400000 in
theorem isWord_any (a wd : List UInt8) (m : Int) (b : Nat) (w : World) (hc : w.cell? ⟨b, 0, none⟩ = some (.string (strB wd))) :
    Calls Tryz.prog 107 #[.agg #[.string (strB a), .int .i64 m], .pointer (some ⟨b, 0, none⟩)] w fun e w' => e = .returned (.bool (decide (a = wd))) ∧ Below w.heap.size w w' := by
  have hb : b < w.heap.size := World.block_lt_of_cell? w _ hc
  have hq := str_beq a wd
  by_cases h : a = wd
  · rw [decide_eq_true h] at hq ⊢
    go_enter Tryz.func107, Tryz.ntmps107
    go_wp2
    go_ret
    exact ⟨rfl, (Below.refl _ _).alloc (Nat.le_refl _) _⟩
  · rw [decide_eq_false h] at hq ⊢
    go_enter Tryz.func107, Tryz.ntmps107
    go_wp2
    go_ret
    exact ⟨rfl, (Below.refl _ _).alloc (Nat.le_refl _) _⟩

set_option maxRecDepth 100000 in
set_option maxHeartbeats 400000 in
theorem findK_any (wd : List UInt8) (b : Nat) (w : World) (hE : Env w) (hc : w.cell? ⟨b, 0, none⟩ = some (.string (strB wd))) :
    Calls Tryz.prog 106 #[.func (.func 107) #[] #[.pointer (some ⟨b, 0, none⟩)]] w fun e w' => e = .returned (.int .i64 ((kindF wd : Nat) : Int)) ∧ Below w.heap.size w w' := by
  go_enter Tryz.func106, Tryz.ntmps106
  go_wp2_with fail
  go_loopg [3] 9 (fun g i wr => ∃ j : Nat, 1 ≤ j ∧ j ≤ 10 ∧ g = 10 - j ∧ i = .int .i64 j ∧ Hid (kindFrom wd (10 - j) j = kindF wd) ∧ Below w.heap.size w wr)
  case atStart => exact ⟨1, by omega, by omega, by omega, rfl, rfl, Below.refl _ _⟩
  case round =>
    obtain ⟨j, h1, hj, hg, rfl, hF, hB⟩ := hrel
    by_cases hlt : j < 10
    · obtain ⟨f0, f1⟩ := (hE.later hB).form j hlt
      have hcr := cell_later hB hc
      have hcall := isWord_any (wordK j) wd (manyK j : Nat) b wr hcr
      have hstep : Hid (kindFrom wd (10 - j) j = if wordK j = wd then j else kindFrom wd (10 - (j + 1)) (j + 1)) := by
        show _ = _
        rw [show 10 - j = (10 - (j + 1)) + 1 by omega, kindFrom]
      by_cases hw : wordK j = wd
      · have hr : Hid (kindF wd = j) := by show _ = _; rw [← hF.out, hstep.out, if_pos hw]
        rw [decide_eq_true hw] at hcall
        clear hF hstep hw
        go_wp2_with fail
        refine hcall.mono ?_
        rintro e w1 ⟨rfl, hb1⟩
        go_wp2_with fail
        go_ret
        exact ⟨ret_int (by rw [hr.out]), hB.trans (hb1.mono hB.size)⟩
      · have hF' : Hid (kindFrom wd (10 - (j + 1)) (j + 1) = kindF wd) := by show _ = _; rw [← hF.out, hstep.out, if_neg hw]
        rw [decide_eq_false hw] at hcall
        clear hF hstep hw
        go_wp2_with fail
        refine hcall.mono ?_
        rintro e w1 ⟨rfl, hb1⟩
        go_wp2_with fail
        go_roundg (10 - (j + 1))
        case measure => omega
        case rel => exact ⟨j + 1, by omega, by omega, rfl, by go_num, hF', hB.trans (hb1.mono hB.size)⟩
    · obtain rfl : j = 10 := by omega
      have hr : Hid (kindF wd = 0) := by show _ = _; rw [← hF.out]; rfl
      go_wp2_with fail
      go_ret
      exact ⟨ret_int (by rw [hr.out]; rfl), hB⟩
end Go.Proofs.YtehkjbpgibdgpadGreatDoor
namespace Go.Proofs.YtehkjbpgibdgpadGreatDoor
open Go.RowKit

/-! ### Numbers word by word -/

theorem numsW_snoc {a : List (List UInt8)} {l : List Int} {w : List UInt8} {n : Int} (h : numsW a = some l) (hn : numF w = some n) : numsW (a ++ [w]) = some (l ++ [n]) := by
  induction a generalizing l with
  | nil =>
    simp only [numsW, Option.some.injEq] at h
    subst h
    simp [numsW, hn]
  | cons x a ih =>
    simp only [numsW] at h
    split at h
    · rename_i m k h1 h2
      injection h with h
      subst h
      simp [numsW, h1, ih h2]
    · cases h
theorem numsW_bad {ns : List (List UInt8)} {w : List UInt8} (hm : w ∈ ns) (hn : numF w = none) : numsW ns = none := by
  induction ns with
  | nil => cases hm
  | cons x a ih =>
    rcases List.mem_cons.1 hm with rfl | hm
    · simp [numsW, hn]
    · simp only [numsW, ih hm]
      cases numF x <;> rfl
theorem numsW_64 {ns : List (List UInt8)} {l : List Int} (h : numsW ns = some l) : l.length = ns.length := by
  induction ns generalizing l with
  | nil => simp only [numsW, Option.some.injEq] at h; subst h; rfl
  | cons x a ih =>
    simp only [numsW] at h
    split at h
    · rename_i m k h1 h2
      injection h with h
      subst h
      simp [ih h2]
    · cases h

/-! ### opOf -/

/-- An operation as a value. -/
def opV9 (o : Op5) : Value := .agg #[.int .i64 o.k, .int .i64 o.a, .int .i64 o.b, .int .i64 o.c, .int .i64 o.n]

theorem below_alloc2 (w : World) (o p : Obj) : Below w.heap.size w ((w.alloc o).alloc p) := ((Below.refl _ _).alloc (Nat.le_refl _) _).alloc (by simp) _

set_option maxHeartbeats 400000 in
theorem opOf_any (k : Nat) (x y z : Int) (w : World) :
    Calls Tryz.prog 108 #[.int .i64 (k : Int), .agg #[.int .i64 x, .int .i64 y, .int .i64 z]] w fun e w' => e = .returned (opV9 (mkO k x y z)) ∧ Below w.heap.size w w' := by
  by_cases h : k = 1
  · subst h
    have e : opV9 (mkO 1 x y z) = .agg #[.int .i64 1, .int .i64 x, .int .i64 0, .int .i64 0, .int .i64 y] := rfl
    rw [e]
    go_enter Tryz.func108, Tryz.ntmps108
    go_wp2
    exact bodyPost_ret (v := .agg #[.int .i64 1, .int .i64 x, .int .i64 0, .int .i64 0, .int .i64 y]) (by simp [results, Tryz.results108, go_sem]) rfl ⟨rfl, below_alloc2 _ _ _⟩
  · have e : opV9 (mkO k x y z) = .agg #[.int .i64 k, .int .i64 x, .int .i64 y, .int .i64 z, .int .i64 0] := by rw [mkO, if_neg h]; rfl
    rw [e]
    have t : ((k : Int) == 1) = false := by simp; omega
    clear h e
    go_enter Tryz.func108, Tryz.ntmps108
    go_wp2
    exact bodyPost_ret (v := .agg #[.int .i64 k, .int .i64 x, .int .i64 y, .int .i64 z, .int .i64 0]) (by simp [results, Tryz.results108, go_sem]) rfl ⟨rfl, below_alloc2 _ _ _⟩

/-! ### parseOp -/

/-- A block of the call's own: it holds these cells, and may be stored into. -/
def Holds9 (w : World) (b : Nat) (vs : List Value) : Prop := b < w.heap.size ∧ (∀ i (h : i < vs.length), w.cell? ⟨b, i, none⟩ = some vs[i]) ∧ ∀ o, w.frozen? ⟨b, o, none⟩ = false
theorem Holds9.later {w w' : World} {B b : Nat} {vs : List Value} (hb : Below B w w') (hB : b < B) (h : Holds9 w b vs) : Holds9 w' b vs :=
  ⟨Nat.lt_of_lt_of_le h.1 hb.size, fun i hi => by rw [hb.cell (p := ⟨b, i, none⟩) hB]; exact h.2.1 i hi, fun o => by rw [hb.frozen (p := ⟨b, o, none⟩) hB]; exact h.2.2 o⟩
theorem Holds9.alloc {w : World} {b : Nat} {vs : List Value} (h : Holds9 w b vs) (o : Obj) : Holds9 (w.alloc o) b vs :=
  h.later ((Below.refl w.heap.size w).alloc (Nat.le_refl _) o) h.1
theorem holds_new (w : World) (vs : Array Value) (t : TypeId) : Holds9 (w.alloc (.cells vs t)) w.heap.size vs.toList := by
  refine ⟨by simp, fun i hi => ?_, fun o => by simp⟩
  rw [World.cell?_alloc_new, Array.getElem?_eq_getElem (by simpa using hi)]; simp
/-- A cell is stored into. -/
theorem Holds9.set {w : World} {b : Nat} {vs : List Value} (h : Holds9 w b vs) {i : Nat} (hi : i < vs.length) (v : Value) : Holds9 (w.setCell ⟨b, i, none⟩ v) b (vs.set i v) := by
  refine ⟨by simpa using h.1, fun j hj => ?_, fun o => by rw [World.frozen?_setCell]; exact h.2.2 o⟩
  rw [List.length_set] at hj
  by_cases e : i = j
  · subst e
    rw [World.cell?_setCell_same _ _ _ (h.2.1 i hi), List.getElem_set_self]
  · rw [World.cell?_setCell_other _ _ _ _ (by intro k; injection k; omega), List.getElem_set_ne e]
    exact h.2.1 j hj
theorem Holds9.other {w : World} {b c : Nat} {vs : List Value} (h : Holds9 w b vs) (hc : c ≠ b) (i : Nat) (v : Value) : Holds9 (w.setCell ⟨c, i, none⟩ v) b vs := by
  refine ⟨by simpa using h.1, fun j hj => ?_, fun o => by rw [World.frozen?_setCell]; exact h.2.2 o⟩
  rw [World.cell?_setCell_other _ _ _ _ (by intro k; injection k; omega)]
  exact h.2.1 j hj

/-- What parseOp answers. -/
def outO (r : Option Op5) : Value := .tuple #[opV9 (r.getD ⟨0, 0, 0, 0, 0⟩), .bool r.isSome]
theorem ret_out {r q : Option Op5} (h : r = q) : Ending.returned (outO r) = .returned (outO q) := by rw [h]

/-- Of the call's three blocks: the answer's, the word's, the numbers'. -/
structure Three9 (w wr : World) (Wb Nb : Nat) (s : List UInt8) (nl : List Int) : Prop where
  lt1 : w.heap.size < Wb
  lt2 : Wb < Nb
  below : Below w.heap.size w wr
  ans : Holds9 wr w.heap.size [.int .i64 0, .int .i64 0, .int .i64 0, .int .i64 0, .int .i64 0]
  wrd : Holds9 wr Wb [.string (strB s)]
  num : Holds9 wr Nb [.int .i64 (nl.getD 0 0), .int .i64 (nl.getD 1 0), .int .i64 (nl.getD 2 0)]

theorem Three9.later {w wr w' : World} {Wb Nb : Nat} {s : List UInt8} {nl : List Int} (h : Three9 w wr Wb Nb s nl) (hb : Below wr.heap.size wr w') : Three9 w w' Wb Nb s nl :=
  ⟨h.lt1, h.lt2, h.below.trans (hb.mono h.below.size), h.ans.later hb h.ans.1, h.wrd.later hb h.wrd.1, h.num.later hb h.num.1⟩
theorem Three9.word {w wr : World} {Wb Nb : Nat} {s : List UInt8} {nl : List Int} (h : Three9 w wr Wb Nb s nl) (t : List UInt8) : Three9 w (wr.setCell ⟨Wb, 0, none⟩ (.string (strB t))) Wb Nb t nl :=
  ⟨h.lt1, h.lt2, h.below.setCell (p := ⟨Wb, 0, none⟩) (Nat.le_of_lt h.lt1) _, h.ans.other (by have := h.lt1; omega) _ _, h.wrd.set (by simp) _, h.num.other (by have := h.lt2; omega) _ _⟩
theorem Three9.number {w wr : World} {Wb Nb : Nat} {s : List UInt8} {nl : List Int} (h : Three9 w wr Wb Nb s nl) (hl : nl.length < 3) (n : Int) : Three9 w (wr.setCell ⟨Nb, nl.length, none⟩ (.int .i64 n)) Wb Nb s (nl ++ [n]) := by
  refine ⟨h.lt1, h.lt2, h.below.setCell (p := ⟨Nb, _, none⟩) (show w.heap.size ≤ Nb by have := h.lt1; have := h.lt2; omega) _, h.ans.other (by have := h.lt1; have := h.lt2; omega) _ _, h.wrd.other (by have := h.lt2; omega) _ _, ?_⟩
  have := h.num.set (i := nl.length) (by simpa using hl) (.int .i64 n)
  have e : nl = [] ∨ (∃ a, nl = [a]) ∨ ∃ a b, nl = [a, b] := by
    cases nl with
    | nil => exact .inl rfl
    | cons a nl => cases nl with
      | nil => exact .inr (.inl ⟨a, rfl⟩)
      | cons b nl => cases nl with
        | nil => exact .inr (.inr ⟨a, b, rfl⟩)
        | cons c nl => simp at hl; omega
  rcases e with rfl | ⟨a, rfl⟩ | ⟨a, b, rfl⟩ <;> exact this

/-- Where the loop stands: j words are numbers. -/
def At9 (ns : List (List UInt8)) (j : Nat) (bh : List UInt8) (nl : List Int) : Prop := j ≤ ns.length ∧ NoSemi bh ∧ bh.length ≤ 281474976710656 ∧ wordsP bh = ns.drop j ∧ numsW (ns.take j) = some nl

theorem At9.next {ns : List (List UInt8)} {j : Nat} {bh : List UInt8} {nl : List Int} (h : At9 ns j bh nl) {n : Int} (hn : numF (wordF bh) = some n) : At9 ns (j + 1) (behindF bh) (nl ++ [n]) := by
  obtain ⟨h1, h2, h3, h4, h5⟩ := h
  rcases words_cut h2 with ⟨e, -⟩ | ⟨e, e2⟩
  · rw [e, num_nil] at hn; cases hn
  · rw [e2] at h4
    have hlt : j < ns.length := by
      have := congrArg List.length h4
      rw [List.length_drop, List.length_cons] at this; omega
    rw [List.drop_eq_getElem_cons hlt] at h4
    injection h4 with e3 e4
    refine ⟨by omega, h2.behind, Nat.le_trans (behind_length bh) h3, e4, ?_⟩
    rw [List.take_succ_eq_append_getElem hlt, ← e3]
    exact numsW_snoc h5 hn
theorem At9.bad {ns : List (List UInt8)} {j : Nat} {bh : List UInt8} {nl : List Int} (h : At9 ns j bh nl) {w : List UInt8} (hj : j < manyK (kindF w)) (hn : numF (wordF bh) = none) : opW (w :: ns) = none := by
  obtain ⟨h1, h2, h3, h4, h5⟩ := h
  simp only [opW]
  split
  · rfl
  · rcases words_cut h2 with ⟨e, e2⟩ | ⟨e, e2⟩
    · rw [e2] at h4
      have : ns.length ≤ j := by
        have := congrArg List.length h4
        rw [List.length_drop, List.length_nil] at this; omega
      rw [if_neg (by omega)]
    · rw [e2] at h4
      have hm : wordF bh ∈ ns := List.mem_of_mem_drop (i := j) (by rw [← h4]; simp)
      split
      · rw [numsW_bad hm hn]; rfl
      · rfl
theorem At9.more {ns : List (List UInt8)} {bh : List UInt8} {nl : List Int} {w : List UInt8} (h : At9 ns (manyK (kindF w)) bh nl) (hw : wordF bh ≠ []) : opW (w :: ns) = none := by
  obtain ⟨h1, h2, h3, h4, h5⟩ := h
  simp only [opW]
  split
  · rfl
  · rcases words_cut h2 with ⟨e, e2⟩ | ⟨e, e2⟩
    · exact absurd e hw
    · rw [e2] at h4
      have := congrArg List.length h4
      rw [List.length_drop, List.length_cons] at this
      rw [if_neg (by omega)]
theorem At9.done {ns : List (List UInt8)} {bh : List UInt8} {nl : List Int} {w : List UInt8} (h : At9 ns (manyK (kindF w)) bh nl) (h0 : kindF w ≠ 0) (hw : wordF bh = []) : opW (w :: ns) = some (mkO (kindF w) (nl.getD 0 0) (nl.getD 1 0) (nl.getD 2 0)) := by
  obtain ⟨h1, h2, h3, h4, h5⟩ := h
  rcases words_cut h2 with ⟨e, e2⟩ | ⟨e, e2⟩
  · rw [e2] at h4
    have := congrArg List.length h4
    rw [List.length_drop, List.length_nil] at this
    have hl : ns.length = manyK (kindF w) := by omega
    simp only [opW]
    rw [if_neg h0, if_pos hl]
    rw [List.take_of_length_le (by omega)] at h5
    rw [h5]; rfl
  · exact absurd hw e

theorem below_alloc1 {B : Nat} {w wr : World} (h : Below B w wr) (hB : B ≤ wr.heap.size) (o : Obj) : Below B w (wr.alloc o) := h.alloc hB o

theorem below_five9 {B : Nat} {w wr : World} (h : Below B w wr) {b : Nat} (hb : B ≤ b) (v0 v1 v2 v3 v4 : Value) :
    Below B w (((((wr.setCell ⟨b, 0, none⟩ v0).setCell ⟨b, 1, none⟩ v1).setCell ⟨b, 2, none⟩ v2).setCell ⟨b, 3, none⟩ v3).setCell ⟨b, 4, none⟩ v4) :=
  ((((h.setCell (p := ⟨b, 0, none⟩) hb _).setCell (p := ⟨b, 1, none⟩) hb _).setCell (p := ⟨b, 2, none⟩) hb _).setCell (p := ⟨b, 3, none⟩) hb _).setCell (p := ⟨b, 4, none⟩) hb _
theorem Holds9.five {w : World} {b : Nat} {v0 v1 v2 v3 v4 : Value} (h : Holds9 w b [v0, v1, v2, v3, v4]) : b < w.heap.size ∧ w.cell? ⟨b, 0, none⟩ = some v0 ∧ w.cell? ⟨b, 1, none⟩ = some v1 ∧ w.cell? ⟨b, 2, none⟩ = some v2 ∧ w.cell? ⟨b, 3, none⟩ = some v3 ∧ w.cell? ⟨b, 4, none⟩ = some v4 ∧ ∀ o, w.frozen? ⟨b, o, none⟩ = false :=
  ⟨h.1, h.2.1 0 (by simp), h.2.1 1 (by simp), h.2.1 2 (by simp), h.2.1 3 (by simp), h.2.1 4 (by simp), h.2.2⟩
theorem Holds9.three {w : World} {b : Nat} {v0 v1 v2 : Value} (h : Holds9 w b [v0, v1, v2]) : b < w.heap.size ∧ w.cell? ⟨b, 0, none⟩ = some v0 ∧ w.cell? ⟨b, 1, none⟩ = some v1 ∧ w.cell? ⟨b, 2, none⟩ = some v2 ∧ ∀ o, w.frozen? ⟨b, o, none⟩ = false :=
  ⟨h.1, h.2.1 0 (by simp), h.2.1 1 (by simp), h.2.1 2 (by simp), h.2.2⟩
theorem Holds9.one {w : World} {b : Nat} {v0 : Value} (h : Holds9 w b [v0]) : b < w.heap.size ∧ w.cell? ⟨b, 0, none⟩ = some v0 ∧ w.frozen? ⟨b, 0, none⟩ = false :=
  ⟨h.1, h.2.1 0 (by simp), h.2.2 0⟩

theorem str_empty (l : List UInt8) : (strB l).toList.isEmpty = decide (l = []) := by
  rw [strB_toList]; cases l <;> rfl

set_option maxRecDepth 100000 in
set_option maxHeartbeats 4000000 in
theorem parseOp_any (l : List UInt8) (w : World) (hS : NoSemi l) (hl : l.length ≤ 281474976710656) (hE : Env w) :
    Calls Tryz.prog 79 #[.string (strB l)] w fun e w' => e = .returned (outO (opW (wordsP l))) ∧ Below w.heap.size w w' := by
  go_enter Tryz.func79, Tryz.ntmps79
  go_wp2_with fail
  refine (cutW_any l _ (by omega)).mono ?_
  rintro e w1 ⟨rfl, hb1⟩
  have hA1 : Holds9 w1 w.heap.size [.int .i64 0, .int .i64 0, .int .i64 0, .int .i64 0, .int .i64 0] := (holds_new w _ _).later hb1 (by simp)
  have hB1 : Below w.heap.size w w1 := ((Below.refl _ _).alloc (Nat.le_refl _) _).trans (hb1.mono (by simp))
  have lt1 := hA1.1
  clear hb1
  go_wp2_with fail
  refine (findK_any (wordF l) w1.heap.size _ (hE.later (below_alloc1 hB1 hB1.size _)) (by simp)).mono ?_
  rintro e w2 ⟨rfl, hb2⟩
  have hA2 : Holds9 w2 w.heap.size [.int .i64 0, .int .i64 0, .int .i64 0, .int .i64 0, .int .i64 0] := (hA1.alloc _).later hb2 (by simp; omega)
  have hW2 : Holds9 w2 w1.heap.size [.string (strB (wordF l))] := (holds_new w1 _ _).later hb2 (by simp)
  have hB2 : Below w.heap.size w w2 := (below_alloc1 hB1 hB1.size _).trans (hb2.mono (by simp; omega))
  have hE2 := hE.later hB2
  clear hb2 hA1 hB1
  obtain ⟨Wb, hWb⟩ : ∃ Wb, Wb = w1.heap.size := ⟨_, rfl⟩
  rw [← hWb] at hW2 lt1 ⊢
  clear hWb
  have lt2 := hW2.1
  have hcut := words_cut hS
  by_cases h0 : kindF (wordF l) = 0
  · have hO : Hid (opW (wordsP l) = none) := by
      show _ = _
      rcases hcut with ⟨-, e⟩ | ⟨-, e⟩
      · rw [e]; rfl
      · rw [e]; simp [opW, h0]
    rw [h0]
    obtain ⟨lt3, c0, c1, c2, c3, c4, f⟩ := hA2.five
    clear hA2 hcut hW2 hE2
    go_wp2_with fail
    exact bodyPost_ret (v := outO none) (by simp [results, Tryz.results79, go_sem, c0, c1, c2, c3, c4, outO, opV9]) rfl ⟨ret_out hO.out.symm, below_five9 hB2 (Nat.le_refl _) _ _ _ _ _⟩
  · have hne : wordF l ≠ [] := by intro e; rw [e] at h0; exact h0 kindF_nil
    obtain ⟨ns, hns, hAt⟩ : ∃ ns, wordsP l = wordF l :: ns ∧ At9 ns 0 (behindF l) [] := by
      rcases hcut with ⟨e, -⟩ | ⟨-, e⟩
      · exact absurd e hne
      · exact ⟨_, e, Nat.zero_le _, hS.behind, Nat.le_trans (behind_length l) hl, rfl, rfl⟩
    have HNS : Hid (wordsP l = wordF l :: ns) := hns
    have HAt : Hid (At9 ns 0 (behindF l) []) := hAt
    have h9 := kindF_range (wordF l)
    obtain ⟨wd, hwd⟩ : ∃ wd, wd = wordF l := ⟨_, rfl⟩
    obtain ⟨bh, hbh⟩ : ∃ bh, bh = behindF l := ⟨_, rfl⟩
    rw [← hbh] at HAt ⊢
    rw [← hwd] at hW2 h0 h9 HNS ⊢
    clear hcut hAt hne hns hwd hbh hl hS
    obtain ⟨k, hk⟩ : ∃ k, k = kindF wd := ⟨_, rfl⟩
    obtain ⟨-, f1⟩ := hE2.form k (by omega)
    have tk : (((kindF wd : Nat) : Int) == 0) = false := by simp; omega
    rw [← hk] at tk ⊢
    have HK : Hid (k = kindF wd) := hk
    have H0 : Hid (kindF wd ≠ 0) := h0
    have hk9 : k < 10 := by omega
    clear hk h0 h9
    have hm3 := manyK_le k
    have fb := World.block_lt_of_cell? w2 _ f1
    have hT : Three9 w (w2.alloc (.cells #[.int .i64 0, .int .i64 0, .int .i64 0] 157)) Wb w2.heap.size wd [] :=
      ⟨lt1, lt2, below_alloc1 hB2 hB2.size _, hA2.alloc _, hW2.alloc _, holds_new w2 _ _⟩
    go_wp2_with fail
    obtain ⟨Nb, hNb⟩ : ∃ Nb, Nb = w2.heap.size := ⟨_, rfl⟩
    rw [← hNb] at hT ⊢
    obtain ⟨w3, hw3⟩ : ∃ w3, w3 = w2.alloc (.cells #[.int .i64 0, .int .i64 0, .int .i64 0] 157) := ⟨_, rfl⟩
    rw [← hw3] at hT ⊢
    clear hw3 hNb hA2 hW2 hB2 hE2 lt1 lt2 fb f1
    go_loopg [25, 5] (manyK k) (fun g i bv wr => ∃ (j : Nat) (b : List UInt8) (s : List UInt8) (nl : List Int), j ≤ manyK k ∧ g = manyK k - j ∧ nl.length = j ∧ i = .int .i64 j ∧ bv = .string (strB b) ∧ Hid (At9 ns j b nl) ∧ Hid (Three9 w wr Wb Nb s nl))
    case atStart => exact ⟨0, bh, wd, [], by omega, by omega, rfl, rfl, rfl, HAt, hT⟩
    case round =>
      obtain ⟨j, b, s, nl, hj, hg, hnl, rfl, rfl, hA, hT⟩ := hrel
      have hlb := hA.out.2.2.1
      have hT1 := hT.out
      have hE1 : Env wr := hE.later hT1.below
      by_cases hlt : j < manyK k
      · go_wp2_with fail
        refine (cutW_any b _ (by omega)).mono ?_
        rintro e w4 ⟨rfl, hb4⟩
        have hT4 : Three9 w w4 Wb Nb s nl := hT1.later hb4
        have hT5 : Three9 w (w4.setCell ⟨Wb, 0, none⟩ (.string (strB (wordF b)))) Wb Nb (wordF b) nl := hT4.word _
        obtain ⟨o1, o2, o3⟩ := hT4.wrd.one
        clear hT4 hb4 hE1 hT1 hT
        go_wp2_with fail
        refine (num_any (wordF b) _ (hE.later hT5.below) (Nat.le_trans (word_length b) hlb)).mono ?_
        rintro e w5 ⟨rfl, hb5⟩
        have hT6 : Three9 w w5 Wb Nb (wordF b) nl := hT5.later hb5
        clear hT5 hb5 o1 o2 o3
        cases hn : numF (wordF b) with
        | none =>
          have hO : Hid (opW (wordsP l) = none) := by
            show _ = _
            rw [HNS.out]
            exact hA.out.bad (by have := HK.out; rw [← this]; exact hlt) hn
          obtain ⟨lt3, c0, c1, c2, c3, c4, f⟩ := hT6.ans.five
          have hB6 := hT6.below
          clear hT6 hn hA
          simp only [Option.getD_none, Option.isSome_none]
          go_wp2_with fail
          exact bodyPost_ret (v := outO none) (by simp [results, Tryz.results79, go_sem, c0, c1, c2, c3, c4, outO, opV9]) rfl ⟨ret_out hO.out.symm, below_five9 hB6 (Nat.le_refl _) _ _ _ _ _⟩
        | some n =>
          have hA' : Hid (At9 ns (j + 1) (behindF b) (nl ++ [n])) := hA.out.next hn
          have hT7 : Hid (Three9 w (w5.setCell ⟨Nb, j, none⟩ (.int .i64 n)) Wb Nb (wordF b) (nl ++ [n])) := by
            have := hT6.number (by omega) n
            rw [hnl] at this; exact this
          have hj3 : j < 3 := by omega
          have hcell : ∃ v, w5.cell? ⟨Nb, j, none⟩ = some v := ⟨_, hT6.num.2.1 j (by simpa using hj3)⟩
          obtain ⟨v0, hv0⟩ := hcell
          have hf0 := hT6.num.2.2 j
          have hz0 := hT6.num.1
          clear hT6 hn hA
          simp only [Option.getD_some, Option.isSome_some]
          go_wp2_with fail
          go_roundg (manyK k - (j + 1))
          case measure => omega
          case rel => exact ⟨j + 1, behindF b, wordF b, nl ++ [n], by omega, rfl, by simp [hnl], by go_num, rfl, hA', hT7⟩
      · obtain rfl : j = manyK k := by omega
        go_wp2_with fail
        refine (cutW_any b _ (by omega)).mono ?_
        rintro e w4 ⟨rfl, hb4⟩
        have hT4 : Three9 w w4 Wb Nb s nl := hT1.later hb4
        have hT5 : Three9 w (w4.setCell ⟨Wb, 0, none⟩ (.string (strB (wordF b)))) Wb Nb (wordF b) nl := hT4.word _
        obtain ⟨o1, o2, o3⟩ := hT4.wrd.one
        obtain ⟨m1, n0, n1, n2, -⟩ := hT4.num.three
        have hne : Wb ≠ Nb := by have := hT4.lt2; omega
        have hne' : Nb ≠ Wb := fun e => hne e.symm
        clear hT4 hb4 hE1 hT1 hT
        have hq := str_empty (wordF b)
        have hAk : At9 ns (manyK (kindF wd)) b nl := by have := HK.out; rw [← this]; exact hA.out
        by_cases hw : wordF b = []
        · have hO : Hid (opW (wordsP l) = some (mkO k (nl.getD 0 0) (nl.getD 1 0) (nl.getD 2 0))) := by
            show _ = _
            rw [HNS.out, HK.out]
            exact hAk.done H0.out hw
          rw [decide_eq_true hw] at hq
          obtain ⟨x, hx⟩ : ∃ x, x = nl.getD 0 0 := ⟨_, rfl⟩
          obtain ⟨y, hy⟩ : ∃ x, x = nl.getD 1 0 := ⟨_, rfl⟩
          obtain ⟨z, hz⟩ : ∃ x, x = nl.getD 2 0 := ⟨_, rfl⟩
          rw [← hx, ← hy, ← hz] at hO
          rw [← hx] at n0
          rw [← hy] at n1
          rw [← hz] at n2
          clear hA hAk hw hx hy hz
          go_wp2_with fail
          refine (opOf_any k _ _ _ _).mono ?_
          rintro e w6 ⟨rfl, hb6⟩
          have hT6 := hT5.later hb6
          obtain ⟨lt3, c0, c1, c2, c3, c4, f⟩ := hT6.ans.five
          have hB6 := hT6.below
          clear hT5 hb6 hT6 o1 o2 o3 m1 n0 n1 n2 hne hne' hq
          have hV : Hid (opV9 (mkO k x y z) = .agg #[.int .i64 (mkO k x y z).k, .int .i64 (mkO k x y z).a, .int .i64 (mkO k x y z).b, .int .i64 (mkO k x y z).c, .int .i64 (mkO k x y z).n]) := rfl
          rw [hV.out]
          generalize mkO k x y z = o at hO ⊢
          clear hV
          go_wp2_with fail
          exact bodyPost_ret (v := outO (some o)) (by simp [results, Tryz.results79, go_sem, c0, c1, c2, c3, c4, outO, opV9]) rfl ⟨ret_out hO.out.symm, below_five9 hB6 (Nat.le_refl _) _ _ _ _ _⟩
        · have hO : Hid (opW (wordsP l) = none) := by
            show _ = _
            rw [HNS.out]
            exact hAk.more hw
          rw [decide_eq_false hw] at hq
          obtain ⟨lt3, c0, c1, c2, c3, c4, f⟩ := hT5.ans.five
          have hB6 := hT5.below
          have hR : w.heap.size ≠ Wb := by have := hT5.lt1; omega
          simp only [World.size_setCell] at lt3
          clear hA hAk hw hT5 n0 n1 n2 m1 hne hne'
          go_wp2_with fail
          exact bodyPost_ret (v := outO none) (by simp [results, Tryz.results79, go_sem, c0, c1, c2, c3, c4, outO, opV9]) rfl ⟨ret_out hO.out.symm, below_five9 hB6 (Nat.le_refl _) _ _ _ _ _⟩
end Go.Proofs.YtehkjbpgibdgpadGreatDoor
