/-
  The walk of textBegun; numbers of 64 bits in what is parsed.
-/
import Derived.Test.YtdohockbmphhfacDoorTxG
import Derived.Test.YtdohockbmphhfacDoorTxJ
namespace Go.Proofs.YtdohockbmphhfacDoor
open Go.RowKit

/-! ### Numbers of 64 bits -/

theorem numF_range {l : List UInt8} {n : Int} (h : numF l = some n) : I64 n := by
  unfold numF at h
  split at h
  · rename_i v hv
    split at h
    · injection h with h
      subst h
      exact parseB_bounds hv
    · cases h
  · cases h
theorem numsW_range {ns : List (List UInt8)} {l : List Int} (h : numsW ns = some l) : ∀ n ∈ l, I64 n := by
  induction ns generalizing l with
  | nil => simp only [numsW, Option.some.injEq] at h; subst h; intro n hn; cases hn
  | cons x a ih =>
    simp only [numsW] at h
    split at h
    · rename_i m k h1 h2
      injection h with h
      subst h
      intro n hn
      rcases List.mem_cons.1 hn with rfl | hn
      · exact numF_range h1
      · exact ih h2 n hn
    · cases h
theorem i64_zero : I64 0 := ⟨by decide, by decide⟩
theorem getD_range {l : List Int} (h : ∀ n ∈ l, I64 n) (i : Nat) : I64 (l.getD i 0) := by
  rw [List.getD_eq_getElem?_getD]
  cases hi : l[i]? with
  | none => exact i64_zero
  | some x => exact h x (List.mem_of_getElem? hi)
theorem opW_range {ws : List (List UInt8)} {o : Op5} (h : opW ws = some o) : Op64 o := by
  unfold opW at h
  split at h
  · cases h
  · rename_i w ns
    split at h
    · cases h
    · split at h
      · obtain ⟨l, hl, rfl⟩ := Option.map_eq_some_iff.1 h
        have hr := numsW_range hl
        have hk := kindF_range w
        unfold mkO
        split
        · exact ⟨⟨by dsimp only; omega, by dsimp only; omega⟩, getD_range hr 0, i64_zero, i64_zero, getD_range hr 1⟩
        · exact ⟨⟨by dsimp only; omega, by dsimp only; omega⟩, getD_range hr 0, getD_range hr 1, getD_range hr 2, i64_zero⟩
      · cases h
theorem partsF_range {ps : List (List (List UInt8))} {i : Nat} {d : List Op5} (h : partsF i ps = .inr d) : ∀ o ∈ d, Op64 o := by
  induction ps generalizing i d with
  | nil => simp only [partsF, Sum.inr.injEq] at h; subst h; intro o ho; cases ho
  | cons ws r ih =>
    simp only [partsF] at h
    split at h
    · cases h
    · rename_i o ho
      split at h
      · cases h
      · rename_i d' hd
        injection h with h
        subst h
        intro x hx
        rcases List.mem_cons.1 hx with rfl | hx
        · exact opW_range ho
        · exact ih hd x hx
theorem parse_range (s : List UInt8) : ∀ o ∈ (parseF s).1, Op64 o := by
  unfold parseF
  split
  · intro o ho; cases ho
  · split
    · intro o ho; cases ho
    · rename_i d hd
      split
      · intro o ho; cases ho
      · exact partsF_range hd

theorem small_print {d : List Op5} (hd : (checkF d).1 = 0) (h64 : ∀ o ∈ d, Op64 o) : (printB d).length ≤ 1022 := by
  have h1 := printB_length h64
  have h2 := check_few_ops hd
  omega

/-! ### textBegun -/

def begD : List Op5 := [⟨1, 1, 0, 0, -5⟩, ⟨7, 2, 1, 0, 0⟩]
def begS : List UInt8 := [110, 117, 109, 32, 49, 32, 45, 53, 59, 115, 116, 111, 114, 101, 32, 50, 32, 49]
def begT : List UInt8 := [110, 117, 109, 32, 49, 32, 45, 53, 59, 32, 115, 116, 111, 114, 101, 32, 50, 32, 49]

theorem itoa_1 : Lib.itoa 1 = [49] := by
  have := Lib.decDigits_one (i := 1) (by decide)
  simp [Lib.itoa, this]
theorem itoa_2 : Lib.itoa 2 = [50] := by
  have := Lib.decDigits_one (i := 2) (by decide)
  simp [Lib.itoa, this]
theorem itoa_m5 : Lib.itoa (-5) = [45, 53] := by
  have := Lib.decDigits_one (i := 5) (by decide)
  simp [Lib.itoa, this]
theorem beg_print : printB begD = begT := by
  simp [printB, begD, opB, moreB, numsO, manyK, wordK, numsB, itoa_1, itoa_2, itoa_m5, begT]
theorem beg_check : checkF begD = (0, 0) := by decide
theorem beg_64 : ∀ o ∈ begD, Op64 o := by
  intro o ho
  simp only [begD, List.mem_cons, List.not_mem_nil, or_false] at ho
  rcases ho with rfl | rfl
  · exact ⟨⟨by decide, by decide⟩, ⟨by decide, by decide⟩, ⟨by decide, by decide⟩, ⟨by decide, by decide⟩, ⟨by decide, by decide⟩⟩
  · exact ⟨⟨by decide, by decide⟩, ⟨by decide, by decide⟩, ⟨by decide, by decide⟩, ⟨by decide, by decide⟩, ⟨by decide, by decide⟩⟩
theorem beg_parse : parseF begS = (begD, (0, 0)) := parse_same (by rw [beg_check]) beg_64 (by rw [beg_print]; decide)
theorem beg_printF : printF begD = (begT, (0, 0)) := by rw [print_good (by rw [beg_check]), beg_print]

set_option maxRecDepth 100000 in
set_option maxHeartbeats 4000000 in
theorem begun_any (w : World) (hE : Env w) :
    Calls Tryd.prog 47 #[] w fun e w' => e = .returned (.bool true) ∧ Below w.heap.size w w' := by
  go_enter Tryd.func47, Tryd.ntmps47
  go_wp2_with fail
  refine (parse_any begS w (by decide) hE).mono ?_
  rintro e w1 ⟨v, rfl, hD, hb1⟩
  rw [beg_parse] at hD ⊢
  dsimp only at hD ⊢
  have hD' := hD
  obtain ⟨a, cap, rfl, hc⟩ := hD'
  obtain ⟨b, off, rfl, q0, q1, q2, q3, q4⟩ := hc 0 (by decide)
  clear hc
  have q5 : w1.cell? ⟨b, off + 4, none⟩ = some (.int .i64 (-5)) := q4
  have hl : begD.length = 2 := rfl
  rw [hl] at hD ⊢
  have HD : Hid (DeedAt w1 (.slice (some ⟨b, off, none⟩) 2 cap) begD) := hD
  clear q0 q1 q2 q3 q4 hD
  go_wp2_with fail
  have hbA : Below w1.heap.size w1 (w1.alloc (.cells #[.int .i64 0, .int .i64 0] 93)) := (Below.refl _ _).alloc (Nat.le_refl _) _
  refine (print_any _ begD _ (HD.out.later hbA) (by decide) beg_64 (hE.later (hb1.trans (hbA.mono hb1.size)))).mono ?_
  rintro e w2 ⟨rfl, hb2⟩
  rw [beg_printF]
  have q6 := cell_later (hbA.trans (hb2.mono hbA.size)) q5
  have p0 : w2.cell? ⟨w1.heap.size, 0, none⟩ = some (.int .i64 0) := cell_later hb2 (by simp)
  have hlt1 : w1.heap.size < w2.heap.size := by have := hb2.size; simp at this; omega
  have hqb := World.block_lt_of_cell? w2 _ q6
  have hB2 : Below w.heap.size w w2 := hb1.trans ((hbA.trans (hb2.mono hbA.size)).mono hb1.size)
  have hq : ((strB begT).toList == [110, 117, 109, 32, 49, 32, 45, 53, 59, 32, 115, 116, 111, 114, 101, 32, 50, 32, 49]) = true := by rw [strB_toList]; decide
  clear hbA hb2 hb1 q5 HD
  simp only [outT]
  go_wp2_with fail
  go_ret
  exact ⟨rfl, hB2.alloc hB2.size _⟩
end Go.Proofs.YtdohockbmphhfacDoor
