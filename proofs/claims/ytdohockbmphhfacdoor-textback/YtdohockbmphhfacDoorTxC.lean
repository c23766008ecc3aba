/-
  The walks of package words: find, Cut; and of strings.Cut at a semicolon.
-/
import Derived.Test.YtdohockbmphhfacDoorWalkB
import Derived.Test.YtdohockbmphhfacDoorTxB
import Derived.Test.YtdohockbmphhfacDoorShelf
import Derived.Shelf.RegionOpen
namespace Go.Proofs.YtdohockbmphhfacDoor
open Go.RowKit

/-- A text as the model has it. -/
def strB (l : List UInt8) : ByteArray := ⟨l.toArray⟩
theorem strB_size (l : List UInt8) : (strB l).size = l.length := rfl
theorem strB_list (l : List UInt8) : (strB l).data.toList = l := rfl
theorem strB_extract (l : List UInt8) (a b : Nat) : (strB l).extract a b = strB ((l.drop a).take (b - a)) := Lib.extract_eq _ _ _
theorem strB_inj {a b : List UInt8} (h : strB a = strB b) : a = b := by
  have := congrArg (fun s => s.data.toList) h
  exact this

set_option maxHeartbeats 400000 in
theorem idx_str (l : List UInt8) (i : Nat) (h : i < l.length) (w : World) : (Instr.index 9 (.string (strB l)) (.int .i64 (i : Int))).run Tryd.prog w = .ok (.int .u8 ((l[i].toNat : Nat) : Int)) w := by
  have hS : (strB l).size = l.length := rfl
  go_simp
  rfl

theorem get_str (l : List UInt8) (i : Nat) (h : i < l.length) : (strB l)[i]! = l[i] := by
  show (ByteArray.mk l.toArray)[i]! = _
  rw [Lib.get!_eq, List.getD_eq_getElem?_getD, List.getElem?_eq_getElem h]; rfl

set_option maxHeartbeats 400000 in
theorem isNot_any (c : Int) (w : World) :
    Calls Tryd.prog 101 #[.int .u8 c] w fun e w' => e = .returned (.bool (c != 32)) ∧ w' = w := by
  go_enter Tryd.func101, Tryd.ntmps101
  go_wp2
  go_ret
  exact ⟨rfl, rfl⟩
set_option maxHeartbeats 400000 in
theorem is_any (c : Int) (w : World) :
    Calls Tryd.prog 102 #[.int .u8 c] w fun e w' => e = .returned (.bool (c == 32)) ∧ w' = w := by
  go_enter Tryd.func102, Tryd.ntmps102
  go_wp2
  go_ret
  exact ⟨rfl, rfl⟩

/-- How many bytes there are ahead of the first that is as asked for. -/
theorem tw_take {p : UInt8 → Bool} {l : List UInt8} {j : Nat} (h : j < l.length) (hp : ∀ i (hi : i < l.length), i < j → p l[i] = true) (hj : p l[j] = false) : (l.takeWhile p).length = j := by
  induction l generalizing j with
  | nil => simp at h
  | cons c r ih =>
    cases j with
    | zero => rw [List.takeWhile_cons_of_neg (by simpa using hj)]; rfl
    | succ j =>
      rw [List.takeWhile_cons_of_pos (show p c = true from hp 0 (by simp) (by omega)), List.length_cons, ih (by simpa using h) (fun i hi hij => hp (i + 1) (by simpa using hi) (by omega)) (by simpa using hj)]
theorem tw_all {p : UInt8 → Bool} {l : List UInt8} (hp : ∀ i (hi : i < l.length), p l[i] = true) : (l.takeWhile p).length = l.length := by
  induction l with
  | nil => rfl
  | cons c r ih =>
    rw [List.takeWhile_cons_of_pos (show p c = true from hp 0 (by simp)), List.length_cons, ih (fun i hi => hp (i + 1) (by simpa using hi)), List.length_cons]

/-- find, whatever it asks for: the function f tells of a byte what 'q' says. -/
theorem find_words (f : Nat) (q : UInt8 → Bool) (hf : ∀ (c : UInt8) (w : World), Calls Tryd.prog f #[.int .u8 ((c.toNat : Nat) : Int)] w fun e w' => e = .returned (.bool (q c)) ∧ w' = w) (l : List UInt8) (w : World) (hl : l.length ≤ 9223372036854775807) (hcall : ∀ args w, (callFunc f args).run Tryd.prog w = .ok (.enter f args) w) :
    Calls Tryd.prog 100 #[.string (strB l), .func (.func f) #[] #[]] w fun e w' => e = .returned (.int .i64 ((l.takeWhile (fun c => !q c)).length : Nat)) ∧ w' = w := by
  have hS : (strB l).size = l.length := rfl
  go_enter Tryd.func100, Tryd.ntmps100
  go_wp2_with fail
  go_loop [8] (fun i => ∃ j : Nat, j ≤ l.length ∧ i = .int .i64 j ∧ Hid (∀ i (hi : i < l.length), i < j → (!q l[i]) = true)) (fun i => l.length - (intOf i).toNat)
  case atStart => exact ⟨0, by omega, rfl, fun i hi h => by omega⟩
  case round =>
    obtain ⟨j, hj, rfl, hH⟩ := hrel
    by_cases hlt : j < l.length
    · have hx := idx_str l j hlt
      have hc := hf l[j]
      by_cases hq : q l[j] = true
      · have hr : Hid ((l.takeWhile (fun c => !q c)).length = j) := tw_take hlt hH.out (by simp [hq])
        rw [hq] at hc
        go_wp2_with (go_at_fn f; refine (hc _).mono ?_; rintro e w' ⟨rfl, rfl⟩)
        go_ret
        exact ⟨ret_int (by rw [hr.out]), rfl⟩
      · have hq' : q l[j] = false := by simpa using hq
        rw [hq'] at hc
        have hH' : Hid (∀ i (hi : i < l.length), i < j + 1 → (!q l[i]) = true) := fun i hi h => by
          by_cases e : i = j
          · subst e; simp [hq']
          · exact hH.out i hi (by omega)
        go_wp2_with (go_at_fn f; refine (hc _).mono ?_; rintro e w' ⟨rfl, rfl⟩)
        go_round
        case rel => exact ⟨j + 1, by omega, by go_num, hH'⟩
        case measure => simp [intOf]; omega
    · obtain rfl : j = l.length := by omega
      have hr : Hid ((l.takeWhile (fun c => !q c)).length = l.length) := tw_all fun i hi => hH.out i hi hi
      go_wp2_with fail
      go_ret
      exact ⟨ret_int (by rw [hr.out]), rfl⟩

set_option maxHeartbeats 400000 in
theorem slice_from (l : List UInt8) (n : Nat) (h : n ≤ l.length) (w : World) : (Instr.slice 9 (.string (strB l)) (some (.int .i64 (n : Int))) none none).run Tryd.prog w = .ok (.string (strB (l.drop n))) w := by
  have hS : (strB l).size = l.length := rfl
  have e : (strB l).extract n l.length = strB (l.drop n) := by
    rw [strB_extract, List.take_of_length_le (by rw [List.length_drop]; exact Nat.le_refl _)]
  go_simp
set_option maxHeartbeats 400000 in
theorem slice_to (l : List UInt8) (n : Nat) (h : n ≤ l.length) (w : World) : (Instr.slice 9 (.string (strB l)) none (some (.int .i64 (n : Int))) none).run Tryd.prog w = .ok (.string (strB (l.take n))) w := by
  have hS : (strB l).size = l.length := rfl
  have e : (strB l).extract 0 n = strB (l.take n) := by rw [strB_extract]; rfl
  go_simp

theorem u8_eq (c : UInt8) : (((c.toNat : Nat) : Int) == 32) = (c == 32) := by
  rw [Bool.eq_iff_iff]; simp only [beq_iff_eq]
  constructor
  · intro h; apply UInt8.toNat_inj.1; simpa using (show c.toNat = 32 by omega)
  · rintro rfl; rfl
theorem u8_ne (c : UInt8) : (((c.toNat : Nat) : Int) != 32) = (c != 32) := by
  rw [bne, bne, u8_eq]

theorem drop_tw (p : UInt8 → Bool) (l : List UInt8) : l.drop (l.takeWhile p).length = l.dropWhile p := by
  conv => lhs; rw [← List.takeWhile_append_dropWhile (p := p) (l := l)]
  rw [List.takeWhile_append_dropWhile]
  induction l with
  | nil => rfl
  | cons c r ih =>
    by_cases h : p c = true
    · rw [List.takeWhile_cons_of_pos h, List.dropWhile_cons_of_pos h, List.length_cons, List.drop_succ_cons, ih]
    · rw [List.takeWhile_cons_of_neg h, List.dropWhile_cons_of_neg h]; rfl
theorem take_tw (p : UInt8 → Bool) (l : List UInt8) : l.take (l.takeWhile p).length = l.takeWhile p := by
  induction l with
  | nil => rfl
  | cons c r ih =>
    by_cases h : p c = true
    · rw [List.takeWhile_cons_of_pos h, List.length_cons, List.take_succ_cons, ih]
    · rw [List.takeWhile_cons_of_neg h]; rfl

set_option maxRecDepth 100000 in
set_option maxHeartbeats 400000 in
theorem cutW_any (l : List UInt8) (w : World) (hl : l.length ≤ 9223372036854775807) :
    Calls Tryd.prog 79 #[.string (strB l)] w fun e w' => e = .returned (.tuple #[.string (strB (wordF l)), .string (strB (behindF l))]) ∧ Below w.heap.size w w' := by
  have h1 := find_words 101 (fun c => c != 32) (fun c w => by rw [← u8_ne]; exact isNot_any _ w) l w hl (fun _ _ => rfl)
  have e1 : (fun c : UInt8 => !(c != 32)) = (· == 32) := by funext c; rw [bne, Bool.not_not]
  rw [e1] at h1
  have hs1 := slice_from l (l.takeWhile (· == 32)).length ((List.takeWhile_sublist _).length_le)
  rw [drop_tw] at hs1
  have hl2 : (l.dropWhile (· == 32)).length ≤ 9223372036854775807 := Nat.le_trans (List.dropWhile_sublist _).length_le hl
  have h2 := find_words 102 (fun c => c == 32) (fun c w => by rw [← u8_eq]; exact is_any _ w) (l.dropWhile (· == 32)) w hl2 (fun _ _ => rfl)
  have e2 : (fun c : UInt8 => !(c == 32)) = (· != 32) := by funext c; rfl
  rw [e2] at h2
  have hs2 := slice_to (l.dropWhile (· == 32)) ((l.dropWhile (· == 32)).takeWhile (· != 32)).length ((List.takeWhile_sublist _).length_le)
  have hs3 := slice_from (l.dropWhile (· == 32)) ((l.dropWhile (· == 32)).takeWhile (· != 32)).length ((List.takeWhile_sublist _).length_le)
  rw [take_tw] at hs2
  rw [drop_tw] at hs3
  clear e1 e2
  have hw : wordF l = (l.dropWhile (· == 32)).takeWhile (· != 32) := rfl
  have hb : behindF l = (l.dropWhile (· == 32)).dropWhile (· != 32) := rfl
  rw [hw, hb]
  clear hw hb
  generalize l.dropWhile (· == 32) = m at *
  generalize (l.takeWhile (· == 32)).length = n1 at *
  generalize m.takeWhile (· != 32) = wd at *
  generalize m.dropWhile (· != 32) = bh at *
  generalize wd.length = n2 at *
  go_enter Tryd.func79, Tryd.ntmps79
  go_wp2_with fail
  refine h1.mono ?_
  rintro e w' ⟨rfl, rfl⟩
  go_wp2_with fail
  refine h2.mono ?_
  rintro e w' ⟨rfl, rfl⟩
  go_wp2_with fail
  go_region
  go_wp2_with fail
  go_ret2
  exact ⟨rfl, (Below.refl _ _).drew⟩

theorem index_one (l : List UInt8) (w : World) :
    Calls Tryd.prog 123 #[.string (strB l), .string ⟨#[59]⟩] w fun e w' => e = .returned (.int .i64 (Lib.indexByte l 59)) ∧ w' = w := Tryd.stringslite_Index_one (strB l) 59 w

theorem indexByte_semi (l : List UInt8) : Lib.indexByte l 59 = Lib.index l [59] := by
  induction l with
  | nil => rfl
  | cons c r ih =>
    rw [index_semi, Lib.indexByte, ih]
    by_cases h : c = 59
    · subst h; simp
    · rw [if_neg (by simpa using h), if_neg h]
      simp only [beq_iff_eq]

set_option maxRecDepth 100000 in
set_option maxHeartbeats 400000 in
theorem cutLite_any (l : List UInt8) (w : World) (hl : l.length ≤ 9223372036854775806) :
    Calls Tryd.prog 103 #[.string (strB l), .string ⟨#[59]⟩] w fun e w' => e = .returned (.tuple #[.string (strB (partF1 l)), .string (strB (restF l)), .bool (moreF l)]) ∧ Below w.heap.size w w' := by
  have hc := cut_semi l
  have hi := index_one l w
  rw [indexByte_semi] at hi
  unfold Lib.cut at hc
  have hge := Lib.index_ge l [59]
  have hroom := Lib.index_room l [59]
  have hsz : (⟨#[59]⟩ : ByteArray).size = 1 := rfl
  by_cases h : 0 ≤ Lib.index l [59]
  · rw [if_pos h] at hc
    injection hc with e1 hc
    injection hc with e2 e3
    obtain ⟨n, hn⟩ : ∃ n : Nat, Lib.index l [59] = n := ⟨(Lib.index l [59]).toNat, by omega⟩
    have hr := hroom h
    rw [hn] at hi e1 e2 hr
    rw [Int.toNat_natCast] at e1 e2
    simp only [List.length_cons, List.length_nil] at e2 hr
    have hn1 : n + 1 ≤ l.length := by omega
    have hs1 := slice_to l n (by omega)
    have hs2 := slice_from l (n + 1) hn1
    rw [e1] at hs1
    rw [show n + (0 + 1) = n + 1 from rfl] at e2
    rw [e2] at hs2
    rw [← e3]
    have hcast : ((n + 1 : Nat) : Int) = (n : Int) + 1 := by omega
    rw [hcast] at hs2
    clear e1 e2 e3 hcast hr hroom hge h hn
    go_enter Tryd.func103, Tryd.ntmps103
    go_wp2_with fail
    refine hi.mono ?_
    rintro e w' ⟨rfl, rfl⟩
    go_wp2_with fail
    go_region
    go_wp2_with fail
    go_ret3
    exact ⟨rfl, (Below.refl _ _).drew⟩
  · rw [if_neg h] at hc
    injection hc with e1 hc
    injection hc with e2 e3
    have hm : Lib.index l [59] = -1 := by omega
    rw [hm] at hi
    rw [← e1, ← e2, ← e3]
    clear e1 e2 e3 hroom hge h hm
    go_enter Tryd.func103, Tryd.ntmps103
    go_wp2_with fail
    refine hi.mono ?_
    rintro e w' ⟨rfl, rfl⟩
    go_wp2_with fail
    go_ret3
    exact ⟨rfl, Below.refl _ _⟩

set_option maxRecDepth 100000 in
set_option maxHeartbeats 400000 in
theorem cutS_any (l : List UInt8) (w : World) (hl : l.length ≤ 9223372036854775806) :
    Calls Tryd.prog 80 #[.string (strB l), .string ⟨#[59]⟩] w fun e w' => e = .returned (.tuple #[.string (strB (partF1 l)), .string (strB (restF l)), .bool (moreF l)]) ∧ Below w.heap.size w w' := by
  have h := cutLite_any l w hl
  go_enter Tryd.func80, Tryd.ntmps80
  go_wp2_with fail
  refine h.mono ?_
  rintro e w' ⟨rfl, hb⟩
  go_wp2_with fail
  go_ret3
  exact ⟨rfl, hb⟩
end Go.Proofs.YtdohockbmphhfacDoor
