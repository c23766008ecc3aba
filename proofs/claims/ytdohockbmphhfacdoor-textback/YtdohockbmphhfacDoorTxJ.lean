/-
  The walk of text.Print.
-/
import Derived.Test.YtdohockbmphhfacDoorTxI
namespace Go.Proofs.YtdohockbmphhfacDoor
open Go.RowKit

/-- What Print answers. -/
def printF (d : List Op5) : List UInt8 × (Int × Int) := if (checkF d).1 ≠ 0 then ([], checkF d) else (printB d, (0, 0))
theorem print_bad {d : List Op5} (h : (checkF d).1 ≠ 0) : printF d = ([], checkF d) := if_pos h
theorem print_good {d : List Op5} (h : (checkF d).1 = 0) : printF d = (printB d, (0, 0)) := if_neg (by simp [h])

/-- A text and a fault as a value. -/
def outT (p : List UInt8 × (Int × Int)) : Value := .tuple #[.string (strB p.1), .agg #[.int .i64 p.2.1, .int .i64 p.2.2]]
theorem ret_outT {p q : List UInt8 × (Int × Int)} (h : p = q) : Ending.returned (outT p) = .returned (outT q) := by rw [h]

theorem DeedAt.five {w : World} {a : Option Addr} {n cap : Nat} {d : List Op5} (h : DeedAt w (.slice a n cap) d) (j : Nat) (hj : j < d.length) : ∃ b off, a = some ⟨b, off, none⟩ ∧
    w.cell? ⟨b, off + j * 5, none⟩ = some (.int .i64 d[j].k) ∧ w.cell? ⟨b, off + j * 5 + 1, none⟩ = some (.int .i64 d[j].a) ∧
    w.cell? ⟨b, off + j * 5 + 2, none⟩ = some (.int .i64 d[j].b) ∧ w.cell? ⟨b, off + j * 5 + 3, none⟩ = some (.int .i64 d[j].c) ∧
    w.cell? ⟨b, off + j * 5 + 4, none⟩ = some (.int .i64 d[j].n) := by
  obtain ⟨a', cap', e, h⟩ := h
  injection e with e1 e2 e3
  subst e1
  exact h j hj

set_option maxRecDepth 100000 in
set_option maxHeartbeats 8000000 in
theorem print_any (v : Value) (d : List Op5) (w : World) (hd : DeedAt w v d) (hmax : d.length ≤ 9223372036854775807) (h64 : ∀ o ∈ d, Op64 o) (hE : Env w) :
    Calls Tryd.prog 48 #[v] w fun e w' => e = .returned (outT (printF d)) ∧ Below w.heap.size w w' := by
  have hd0 := hd
  obtain ⟨da, dcap, rfl, -⟩ := hd0
  have HD : Hid (DeedAt w (.slice da d.length dcap) d) := hd
  clear hd
  obtain ⟨n, hn⟩ : ∃ n, n = d.length := ⟨_, rfl⟩
  rw [← hn] at HD ⊢
  have HN : Hid (n = d.length) := hn
  clear hn
  go_enter Tryd.func48, Tryd.ntmps48
  go_wp2_with fail
  have hbA : Below w.heap.size w (w.alloc (.cells #[.int .i64 0, .int .i64 0] 93)) := (Below.refl _ _).alloc (Nat.le_refl _) _
  refine (check_any _ d _ (HD.out.later hbA) hmax (hE.later hbA).lim).mono ?_
  rintro e w1 ⟨rfl, hb1⟩
  have hB1 : Below (w.heap.size + 1) (w.alloc (.cells #[.int .i64 0, .int .i64 0] 93)) w1 := by simpa using hb1
  clear hb1 hbA
  by_cases hc : (checkF d).1 = 0
  · have hP : Hid (printF d = (printB d, (0, 0))) := print_good hc
    have hl14 := check_few_ops hc
    have hK : Hid (Kinds d) := kinds_all hc
    obtain ⟨hz, r0, r1, f0, hB'⟩ := res_cells hB1
    rw [hc]
    clear hc r0 r1 f0
    go_wp2_with fail
    obtain ⟨w2, hw2⟩ : ∃ w2, w2 = w1.alloc (.cells #[.int .i64 0, .int .i64 (checkF d).2] 93) := ⟨_, rfl⟩
    have hB2 : Below (w.heap.size + 1) (w.alloc (.cells #[.int .i64 0, .int .i64 0] 93)) w2 := by rw [hw2]; exact hB1.alloc (by omega) _
    have hz2 : w2.heap.size = w1.heap.size + 1 := by rw [hw2]; simp
    rw [← hz2, ← hw2]
    clear hw2 hB1 hB'
    have hE2 : Env w2 := hE.later ((res_cells hB2).2.2.2.2)
    have hst : Hid (Bd w2.heap.size (printB (d.take 0)) (w2.alloc (.cells #[.pointer none, .slice none 0 0] 125))) := Lib.IsBuilderF.of (Lib.fresh_isBuilder _ _ w2)
    have hbs : Hid (Below w2.heap.size w2 (w2.alloc (.cells #[.pointer none, .slice none 0 0] 125))) := (Below.refl _ _).alloc (Nat.le_refl _) _
    obtain ⟨b, hb⟩ : ∃ b, b = w2.heap.size := ⟨_, rfl⟩
    rw [← hb] at hst hbs ⊢
    have HB : Hid (b = w2.heap.size) := hb
    obtain ⟨w3, hw3⟩ : ∃ w3, w3 = w2.alloc (.cells #[.pointer none, .slice none 0 0] 125) := ⟨_, rfl⟩
    rw [← hw3] at hst hbs ⊢
    have hbw : w.heap.size + 1 ≤ b := by have := hB2.size; simp at this; omega
    clear hw3 hb hz2
    go_loopg [16] n (fun g i wr => ∃ j : Nat, j ≤ n ∧ g = n - j ∧ i = .int .i64 j ∧ Hid (Bd b (printB (d.take j)) wr) ∧ Hid (Below b w2 wr))
    case atStart => exact ⟨0, by omega, by omega, rfl, hst, hbs⟩
    case round =>
      obtain ⟨j, hj, hg, rfl, hBr, hbr⟩ := hrel
      have hBw : Below (w.heap.size + 1) (w.alloc (.cells #[.int .i64 0, .int .i64 0] 93)) wr := hB2.trans (hbr.out.mono hbw)
      obtain ⟨hz, r0, r1, f0, hB'⟩ := res_cells hBw
      have hbl := hBr.out.lt
      have hpl : (printB (d.take j)).length ≤ 1022 := by
        have h1 := printB_length (d := d.take j) (fun o ho => h64 o (List.mem_of_mem_take ho))
        have h2 : (d.take j).length ≤ 14 := by rw [List.length_take]; omega
        omega
      by_cases hlt : j < n
      · have hjd : j < d.length := by have := HN.out; omega
        obtain ⟨db, doff, rfl, c0, c1, c2, c3, c4⟩ := HD.out.five j hjd
        replace c0 := cell_later hB' c0
        replace c1 := cell_later hB' c1
        replace c2 := cell_later hB' c2
        replace c3 := cell_later hB' c3
        replace c4 := cell_later hB' c4
        have ho64 : Hid (Op64 d[j]) := h64 _ (List.getElem_mem hjd)
        have hok : Hid (1 ≤ d[j].k ∧ d[j].k ≤ 9) := hK.out _ (List.getElem_mem hjd)
        have hTk : Hid (d.take (j + 1) = d.take j ++ [d[j]]) := List.take_succ_eq_append_getElem hjd
        obtain ⟨o, hoe⟩ : ∃ o, o = d[j] := ⟨_, rfl⟩
        rw [← hoe] at c0 c1 c2 c3 c4 ho64 hok hTk
        clear hoe r0 r1 f0
        have hbA : Below wr.heap.size wr (wr.alloc (.cells #[.int .i64 o.k, .int .i64 o.a, .int .i64 o.b, .int .i64 o.c, .int .i64 o.n] 63)) := (Below.refl _ _).alloc (Nat.le_refl _) _
        have hBA := hBr.out.later hbA
        have hblk := blk_new wr #[.int .i64 o.k, .int .i64 o.a, .int .i64 o.b, .int .i64 o.c, .int .i64 o.n] 63
        have hbrA : Below b w2 (wr.alloc (.cells #[.int .i64 o.k, .int .i64 o.a, .int .i64 o.b, .int .i64 o.c, .int .i64 o.n] 63)) := hbr.out.trans (hbA.mono (by omega))
        have HbA : Hid (Below b w2 (wr.alloc (.cells #[.int .i64 o.k, .int .i64 o.a, .int .i64 o.b, .int .i64 o.c, .int .i64 o.n] 63))) := hbrA
        have HBA : Hid (Bd b (printB (d.take j)) (wr.alloc (.cells #[.int .i64 o.k, .int .i64 o.a, .int .i64 o.b, .int .i64 o.c, .int .i64 o.n] 63))) := hBA
        have HBl : Hid (Blk (wr.alloc (.cells #[.int .i64 o.k, .int .i64 o.a, .int .i64 o.b, .int .i64 o.c, .int .i64 o.n] 63)) wr.heap.size #[.int .i64 o.k, .int .i64 o.a, .int .i64 o.b, .int .i64 o.c, .int .i64 o.n] 63) := hblk
        clear hbA hBA hblk hbrA
        by_cases hj0 : j = 0
        · have hT : Hid (printB (d.take (j + 1)) = printB (d.take j) ++ opB o) := by show _ = _; rw [hTk.out, hj0]; simp [printB, moreB]
          have hji : ¬ (0 : Int) < (j : Int) := by omega
          clear hj0
          go_wp2_with fail
          refine (printOp_any o hok.out.1 hok.out.2 ho64.out b _ w2 _ hE2 (by have := HB.out; rw [← this]; exact HbA.out) (by have := HB.out; omega) HBA.out (by omega)).mono ?_
          rintro e w4 ⟨rfl, hB4, hb4, -⟩
          have hst4 : Hid (Bd b (printB (d.take (j + 1))) w4) := by show Bd _ _ _; rw [hT.out]; exact hB4
          have hb4' : Hid (Below b w2 w4) := HbA.out.trans hb4
          clear hB4 hb4 HbA HBA HBl c0 c1 c2 c3 c4
          go_wp2_with fail
          go_roundg (n - (j + 1))
          case measure => omega
          case rel => exact ⟨j + 1, by omega, rfl, by go_num, hst4, hb4'⟩
        · have hji : (0 : Int) < (j : Int) := by omega
          have hT : Hid (printB (d.take (j + 1)) = (printB (d.take j) ++ [59, 32]) ++ opB o) := by
            show _ = _
            rw [hTk.out, printB_snoc]
            · simp
            · intro e
              have := congrArg List.length e
              rw [List.length_take, List.length_nil] at this; omega
          clear hj0
          go_wp2_with fail
          refine (writeS_any b _ [59, 32] _ HBA.out (by simp only [List.length_cons, List.length_nil]; omega)).mono ?_
          rintro e w4 ⟨⟨v4, rfl⟩, hB4, hb4, hk4⟩
          have hblk4 := HBl.out.kept hk4 (by omega) (by decide)
          have hb4' : Hid (Below b w2 w4) := HbA.out.trans hb4
          clear hb4 hk4 HbA HBA HBl c0 c1 c2 c3 c4
          have e0 := hblk4.cell 0
          have e1 := hblk4.cell 1
          have e2 := hblk4.cell 2
          have e3 := hblk4.cell 3
          have e4 := hblk4.cell 4
          have e5 := hblk4.lt
          simp only [List.getElem?_toArray, List.getElem?_cons_zero, List.getElem?_cons_succ] at e0 e1 e2 e3 e4
          have hbl4 := hB4.lt
          have HB4 : Hid (Bd b (printB (d.take j) ++ [59, 32]) w4) := hB4
          clear hblk4 hB4
          go_wp2_with fail
          refine (printOp_any o hok.out.1 hok.out.2 ho64.out b _ w2 _ hE2 (by have := HB.out; rw [← this]; exact hb4'.out) (by have := HB.out; omega) HB4.out (by simp only [List.length_append, List.length_cons, List.length_nil]; omega)).mono ?_
          rintro e w5 ⟨rfl, hB5, hb5, -⟩
          have hst5 : Hid (Bd b (printB (d.take (j + 1))) w5) := by show Bd _ _ _; rw [hT.out]; exact hB5
          have hb5' : Hid (Below b w2 w5) := hb4'.out.trans hb5
          clear hB5 hb5 hb4' HB4 e0 e1 e2 e3 e4 e5
          go_wp2_with fail
          go_roundg (n - (j + 1))
          case measure => omega
          case rel => exact ⟨j + 1, by omega, rfl, by go_num, hst5, hb5'⟩
      · obtain rfl : j = n := by omega
        have hfin : Hid (printB (d.take j) = printB d) := by show _ = _; rw [List.take_of_length_le (by have := HN.out; omega)]
        clear r0 r1 f0
        go_wp2_with fail
        refine (Tryd.Builder_String_any_k b b (printB (d.take j)) wr hBr.out (by omega)).mono ?_
        rintro e w4 ⟨rfl, -, hb4, -⟩
        have hB4 : Below (w.heap.size + 1) (w.alloc (.cells #[.int .i64 0, .int .i64 0] 93)) w4 := hBw.trans (hb4.mono hbw)
        clear hb4 hz hB' hBw
        obtain ⟨hz, r0, r1, f0, hB'⟩ := res_cells hB4
        go_wp2_with fail
        exact bodyPost_ret (v := outT (printB (d.take j), (0, 0))) (by simp [results, Tryd.results48, go_sem, r0, r1, outT, strB]) rfl ⟨ret_outT (by rw [hP.out, hfin.out]), below_two hB' _ _⟩
  · have hP : Hid (printF d = ([], checkF d)) := print_bad hc
    generalize checkF d = p at hc hP ⊢
    have tc : (p.1 != 0) = true := by simp [hc]
    obtain ⟨hz, r0, r1, f0, hB'⟩ := res_cells hB1
    clear hc HD
    go_wp2_with fail
    go_region
    go_wp2_with fail
    exact bodyPost_ret (v := outT ([], p)) (by simp [results, Tryd.results48, go_sem, r0, r1, hz, outT, strB]) rfl ⟨ret_outT hP.out.symm, (below_two_alloc hB' _ _ _).drew⟩
end Go.Proofs.YtdohockbmphhfacDoor
