/-
  The walk of the law TextBlanks.
-/
import Derived.Test.YtdohockbmphhfadDoorTxK
import Derived.Test.YtdohockbmphhfadDoorSamA
namespace Go.Proofs.YtdohockbmphhfadDoor
open Go.RowKit

theorem spread_append (k : Nat) (a b : List UInt8) : spread k (a ++ b) = spread k a ++ spread k b := by
  induction a with
  | nil => rfl
  | cons c r ih => simp [spread, ih]
theorem spread_snoc (k : Nat) (s : List UInt8) (j : Nat) (h : j < s.length) : spread k (s.take (j + 1)) = spread k (s.take j) ++ ((if s[j] = 32 ∨ s[j] = 59 then List.replicate k 32 else []) ++ [s[j]]) := by
  rw [List.take_succ_eq_append_getElem h, spread_append]; simp [spread]

theorem strB_append (a b : List UInt8) : strB a ++ strB b = strB (a ++ b) := by
  have := Lib.mk_data (strB a ++ strB b)
  rw [← this]
  simp [strB]

set_option maxHeartbeats 400000 in
theorem cat_str (a b : List UInt8) (h : a.length + b.length ≤ 100000) (w : World) : (binOp .add 9 (.string (strB a)) (.string (strB b))).run Tryd.prog w = .ok (.string (strB (a ++ b))) w := by
  have h1 : (strB a).size = a.length := rfl
  have h2 : (strB b).size = b.length := rfl
  have h3 : ¬ (9223372036854775807 < a.length + b.length) := by omega
  have h4 := strB_append a b
  go_simp

set_option maxHeartbeats 400000 in
theorem cut_one (l : List UInt8) (j : Nat) (h : j < l.length) (w : World) : (Instr.slice 9 (.string (strB l)) (some (.int .i64 (j : Int))) (some (.int .i64 ((j : Int) + 1))) none).run Tryd.prog w = .ok (.string (strB [l[j]])) w := by
  have hS : (strB l).size = l.length := rfl
  have e : (strB l).extract j (j + 1) = strB [l[j]] := by
    rw [strB_extract, List.drop_eq_getElem_cons h, Nat.add_sub_cancel_left]; rfl
  have h1 : (0 : Int) ≤ (j : Int) + 1 ∧ (j : Int) + 1 ≤ (l.length : Int) := by omega
  have h2 : (j : Int) ≤ (j : Int) + 1 := by omega
  go_simp

theorem four (n : Int) : ∃ k : Nat, k < 4 ∧ wrap64 ((IntKind.u64.wrap n).tmod 4) = (k : Int) := by
  have h : 0 ≤ IntKind.u64.wrap n := by rw [IntKind.wrap_u64]; omega
  generalize IntKind.u64.wrap n = m at h ⊢
  have e : m.tmod 4 = m % 4 := Int.tmod_eq_emod_of_nonneg h
  refine ⟨(m % 4).toNat, by omega, ?_⟩
  rw [e]
  unfold wrap64
  omega

set_option maxRecDepth 100000 in
set_option maxHeartbeats 8000000 in
theorem blanks_any {v : Value} {d : List Op5} (n : Int) {w : World} (hd : DeedAt w v d) (hm : d.length ≤ 9223372036854775807) (h64 : ∀ o ∈ d, Op64 o) (hE : Env w) :
    Calls Tryd.prog 3 #[v, .int .i64 n] w fun x w' => x = .returned (.bool true) ∧ Below w.heap.size w w' := by
  have HD : Hid (DeedAt w v d) := hd
  obtain ⟨da, dcap, rfl, -⟩ := hd
  go_enter Tryd.func3, Tryd.ntmps3
  go_wp2_with fail
  refine (begun_any w hE).mono ?_
  rintro x w1 ⟨rfl, hB1⟩
  by_cases hd2 : (200 : Int) < (d.length : Int)
  · go_wp2_with fail
    go_ret
    exact ⟨rfl, hB1⟩
  go_wp2_with fail
  refine (print_any _ d w1 (HD.out.later hB1) hm h64 (hE.later hB1)).mono ?_
  rintro x w2 ⟨rfl, hb2⟩
  have hB2 : Below w.heap.size w w2 := hB1.trans (hb2.mono hB1.size)
  clear hb2 hB1
  simp only [outT]
  by_cases hcd : (checkF d).1 = 0
  · rw [print_good hcd]
    have HP : Hid (∀ t, lex t = lex (printB d) → parseF t = (d, (0, 0))) := fun t ht => parse_same hcd h64 ht
    have hpl : (printB d).length ≤ 1022 := by
      have h1 := printB_length h64
      have h2 := check_few_ops hcd
      omega
    clear hcd
    obtain ⟨s, hs⟩ : ∃ s, s = printB d := ⟨_, rfl⟩
    rw [← hs] at HP hpl ⊢
    clear hs
    have hSs : (strB s).size = s.length := rfl
    obtain ⟨k, hk4, hk⟩ := four n
    go_wp2_with fail
    rw [hk]
    have hB3 : Below w.heap.size w (w2.alloc (.cells #[.int .i64 0, .int .i64 0] 26)) := hB2.alloc hB2.size _
    obtain ⟨w3, hw3⟩ : ∃ w3, w3 = w2.alloc (.cells #[.int .i64 0, .int .i64 0] 26) := ⟨_, rfl⟩
    rw [← hw3] at hB3 ⊢
    clear hw3 hk hB2
    go_loopg [8, 9] s.length (fun g wv i wr => ∃ j : Nat, j ≤ s.length ∧ g = s.length - j ∧ i = .int .i64 j ∧ wv = .string (strB (spread k (s.take j))) ∧ wr = w3)
    case atStart => exact ⟨0, by omega, by omega, rfl, rfl, rfl⟩
    case round =>
      obtain ⟨j, hj, hg, rfl, rfl, rfl⟩ := hrel
      have hsl : (spread k (s.take j)).length ≤ 4088 := by
        have h1 := spread_length hk4 (s.take j)
        rw [List.length_take] at h1
        omega
      by_cases hlt : j < s.length
      · have hx := idx_str s j hlt
        have hc1 := cut_one s j hlt
        have HT := spread_snoc k s j hlt
        have HT' : Hid (spread k (s.take (j + 1)) = spread k (s.take j) ++ ((if s[j] = 32 ∨ s[j] = 59 then List.replicate k 32 else []) ++ [s[j]])) := HT
        clear HT
        have hu := u8_eq s[j]
        have hu2 : (((s[j].toNat : Nat) : Int) == 59) = (s[j] == 59) := by
          rw [Bool.eq_iff_iff]; simp only [beq_iff_eq]
          constructor
          · intro h; apply UInt8.toNat_inj.1; simpa using (show s[j].toNat = 59 by omega)
          · intro h; rw [h]; rfl
        by_cases hb : s[j] = 32 ∨ s[j] = 59
        · have hF : Hid (spread k (s.take (j + 1)) = (spread k (s.take j) ++ List.replicate k 32) ++ [s[j]]) := by show _ = _; rw [HT'.out, if_pos hb, List.append_assoc]
          obtain ⟨X, hX⟩ : ∃ X, X = spread k (s.take j) := ⟨_, rfl⟩
          rw [← hX] at hF hsl ⊢
          have z2 : (strB [s[j]]).size = 1 := rfl
          have z3 : ¬ (9223372036854775807 < (X ++ List.replicate k 32).length + 1) := by simp; omega
          have z4 := strB_append (X ++ List.replicate k 32) [s[j]]
          have hbb : ((s[j] == 32) || (s[j] == 59)) = true := by rcases hb with h | h <;> simp [h]
          clear HT' hb hX
          cases h32 : (s[j] == 32) with
          | false =>
            rw [h32] at hu hbb
            rw [Bool.false_or] at hbb
            rw [hbb] at hu2
            clear hbb h32
            go_wp2_with fail
            go_loopg [8, 10] k (fun g wv i wr' => ∃ m : Nat, m ≤ k ∧ g = k - m ∧ i = .int .i64 m ∧ wv = .string (strB (X ++ List.replicate m 32)) ∧ wr' = wr)
            case atStart => exact ⟨0, by omega, by omega, rfl, by simp, rfl⟩
            case round =>
              obtain ⟨m, hmk, hgm, rfl, rfl, hwr'⟩ := hrel
              subst hwr'
              by_cases hmlt : m < k
              · have hY1 : (X ++ List.replicate m 32).length ≤ 4092 := by simp; omega
                have hY2 : Hid (strB ((X ++ List.replicate m 32) ++ [32]) = strB (X ++ List.replicate (m + 1) 32)) := by show _ = _; rw [List.append_assoc, ← List.replicate_succ']
                obtain ⟨Y, hY⟩ : ∃ Y, Y = X ++ List.replicate m (32 : UInt8) := ⟨_, rfl⟩
                rw [← hY] at hY1 hY2 ⊢
                clear hY
                have y1 : (strB Y).size = Y.length := rfl
                have y2 : (⟨#[32]⟩ : ByteArray).size = 1 := rfl
                have y3 : ¬ (9223372036854775807 < Y.length + 1) := by omega
                have y4 : strB Y ++ ⟨#[32]⟩ = strB (Y ++ [32]) := strB_append Y [32]
                go_wp2_with fail
                go_roundg (k - (m + 1))
                case measure => omega
                case rel => exact ⟨m + 1, by omega, rfl, by go_num, by rw [hY2.out], rfl⟩
              · obtain rfl : m = k := by omega
                obtain ⟨Y, hY⟩ : ∃ Y, Y = X ++ List.replicate m (32 : UInt8) := ⟨_, rfl⟩
                rw [← hY] at hF z3 z4 ⊢
                clear hY
                have y1 : (strB Y).size = Y.length := rfl
                go_wp2_with fail
                go_roundg (s.length - (j + 1))
                case measure => omega
                case rel => exact ⟨j + 1, by omega, rfl, by go_num, by rw [hF.out], rfl⟩
          | true =>
            rw [h32] at hu
            clear hbb h32 hu2
            go_wp2_with fail
            go_loopg [8, 10] k (fun g wv i wr' => ∃ m : Nat, m ≤ k ∧ g = k - m ∧ i = .int .i64 m ∧ wv = .string (strB (X ++ List.replicate m 32)) ∧ wr' = wr)
            case atStart => exact ⟨0, by omega, by omega, rfl, by simp, rfl⟩
            case round =>
              obtain ⟨m, hmk, hgm, rfl, rfl, hwr'⟩ := hrel
              subst hwr'
              by_cases hmlt : m < k
              · have hY1 : (X ++ List.replicate m 32).length ≤ 4092 := by simp; omega
                have hY2 : Hid (strB ((X ++ List.replicate m 32) ++ [32]) = strB (X ++ List.replicate (m + 1) 32)) := by show _ = _; rw [List.append_assoc, ← List.replicate_succ']
                obtain ⟨Y, hY⟩ : ∃ Y, Y = X ++ List.replicate m (32 : UInt8) := ⟨_, rfl⟩
                rw [← hY] at hY1 hY2 ⊢
                clear hY
                have y1 : (strB Y).size = Y.length := rfl
                have y2 : (⟨#[32]⟩ : ByteArray).size = 1 := rfl
                have y3 : ¬ (9223372036854775807 < Y.length + 1) := by omega
                have y4 : strB Y ++ ⟨#[32]⟩ = strB (Y ++ [32]) := strB_append Y [32]
                go_wp2_with fail
                go_roundg (k - (m + 1))
                case measure => omega
                case rel => exact ⟨m + 1, by omega, rfl, by go_num, by rw [hY2.out], rfl⟩
              · obtain rfl : m = k := by omega
                obtain ⟨Y, hY⟩ : ∃ Y, Y = X ++ List.replicate m (32 : UInt8) := ⟨_, rfl⟩
                rw [← hY] at hF z3 z4 ⊢
                clear hY
                have y1 : (strB Y).size = Y.length := rfl
                go_wp2_with fail
                go_roundg (s.length - (j + 1))
                case measure => omega
                case rel => exact ⟨j + 1, by omega, rfl, by go_num, by rw [hF.out], rfl⟩
        · have hb1 : (s[j] == 32) = false := by simp; exact fun h => hb (.inl h)
          have hb2 : (s[j] == 59) = false := by simp; exact fun h => hb (.inr h)
          rw [hb1] at hu
          rw [hb2] at hu2
          have hF : Hid (spread k (s.take (j + 1)) = spread k (s.take j) ++ [s[j]]) := by show _ = _; rw [HT'.out, if_neg hb]; rfl
          obtain ⟨X, hX⟩ : ∃ X, X = spread k (s.take j) := ⟨_, rfl⟩
          rw [← hX] at hF hsl ⊢
          have z1 : (strB X).size = X.length := rfl
          have z2 : (strB [s[j]]).size = 1 := rfl
          have z3 : ¬ (9223372036854775807 < X.length + 1) := by omega
          have z4 := strB_append X [s[j]]
          clear HT' hb hb1 hb2 hX
          go_wp2_with fail
          go_roundg (s.length - (j + 1))
          case measure => omega
          case rel => exact ⟨j + 1, by omega, rfl, by go_num, by rw [hF.out], rfl⟩
      · obtain rfl : j = s.length := by omega
        have hfin : Hid (parseF ([32, 32] ++ spread k (s.take s.length) ++ [32]) = (d, (0, 0))) := HP.out _ (by
          rw [List.take_length]
          exact lex_spread k s)
        obtain ⟨X, hX⟩ : ∃ X, X = spread k (s.take s.length) := ⟨_, rfl⟩
        rw [← hX] at hfin hsl ⊢
        clear hX
        have y1 : (strB X).size = X.length := rfl
        have y2 : (⟨#[32]⟩ : ByteArray).size = 1 := rfl
        have y5 : (⟨#[32, 32]⟩ : ByteArray).size = 2 := rfl
        have y3 : ¬ (9223372036854775807 < 2 + X.length) := by omega
        obtain ⟨Z, hZ⟩ : ∃ Z, Z = [32, 32] ++ X := ⟨_, rfl⟩
        have hZl : Z.length = 2 + X.length := by rw [hZ]; simp; omega
        have y4 : (⟨#[32, 32]⟩ : ByteArray) ++ strB X = strB Z := by rw [hZ]; exact strB_append [32, 32] X
        rw [← hZ] at hfin
        clear hZ
        have y6 : (strB Z).size = Z.length := rfl
        have y7 : ¬ (9223372036854775807 < Z.length + 1) := by omega
        obtain ⟨V, hV⟩ : ∃ V, V = Z ++ [32] := ⟨_, rfl⟩
        have hVl : V.length ≤ 281474976710656 := by rw [hV]; simp; omega
        have y8 : strB Z ++ ⟨#[32]⟩ = strB V := by rw [hV]; exact strB_append Z [32]
        rw [← hV] at hfin
        clear hV
        have HZl : Hid (Z.length = 2 + X.length) := hZl
        clear hZl
        go_wp2_with fail
        refine (parse_any V wr hVl (hE.later hB3)).mono ?_
        rintro x w4 ⟨xv, rfl, hX, hb4⟩
        rw [hfin.out] at hX ⊢
        dsimp only at hX ⊢
        have hB4 : Below w.heap.size w w4 := hB3.trans (hb4.mono hB3.size)
        have HX : Hid (DeedAt w4 xv d) := hX
        obtain ⟨xa, xcap, rfl, -⟩ := id hX
        clear hX hb4 y1 y2 y3 y4 y5 y6 y7 y8
        have hbm : Below w4.heap.size w4 (w4.alloc (.cells #[.int .i64 0, .int .i64 0] 26)) := (Below.refl _ _).alloc (Nat.le_refl _) _
        have hB4a : Below w.heap.size w (w4.alloc (.cells #[.int .i64 0, .int .i64 0] 26)) := hB4.trans (hbm.mono hB4.size)
        go_wp2_with fail
        refine (sameDeed_any (HX.out.later hbm) (HD.out.later hB4a) hm hm).mono ?_
        rintro x w5 ⟨rfl, hb5⟩
        rw [eqDeed_iff.2 rfl]
        have hB5 : Below w.heap.size w w5 := hB4a.trans (hb5.mono hB4a.size)
        clear hb5 hbm
        go_wp2_with fail
        go_ret
        exact ⟨rfl, hB5⟩
  · rw [print_bad hcd]
    obtain ⟨c, i, hci⟩ : ∃ c i, checkF d = (c, i) := ⟨_, _, rfl⟩
    rw [hci] at hcd ⊢
    dsimp only at hcd ⊢
    have tc : (c != 0) = true := by simp [hcd]
    have hq : (strB []).toList.isEmpty = true := by rw [strB_toList]; rfl
    clear hcd hci
    go_wp2_with fail
    go_ret
    exact ⟨rfl, hB2.alloc hB2.size _⟩
end Go.Proofs.YtdohockbmphhfadDoor
