/-
  The walk of the reference's BytesOf, at a round that may be done.
-/
import Derived.Test.YtokjigebjcgdjacDoorLogE
namespace Go.Proofs.YtokjigebjcgdjacDoor
open Go.RowKit

theorem ne_block {v v' : Value} {m n : Nat} (hat : v'.ownBlock = v.ownBlock ∨ v'.ownBlock = some n) (h1 : v.ownBlock ≠ some m) (h2 : m ≠ n) : v'.ownBlock ≠ some m := by
  rcases hat with e | e
  · rw [e]; exact h1
  · rw [e]; intro e'; exact h2 (Option.some.inj e').symm
theorem remB64 (n : Int) (j : Nat) (hj : j < 8) : IntKind.u8.wrap (IntKind.u64.wrap n / 256 ^ j % 256) = n / 256 ^ j % 256 := by
  rw [IntKind.wrap_u8, IntKind.wrap_u64]
  have : j = 0 ∨ j = 1 ∨ j = 2 ∨ j = 3 ∨ j = 4 ∨ j = 5 ∨ j = 6 ∨ j = 7 := by omega
  rcases this with rfl | rfl | rfl | rfl | rfl | rfl | rfl | rfl
  all_goals simp only [Int.reducePow]
  all_goals omega
theorem quoB64 (n : Int) (j : Nat) : IntKind.u64.wrap n / 256 ^ j / 256 = IntKind.u64.wrap n / 256 ^ (j + 1) := by
  rw [Int.pow_succ, Int.ediv_ediv_of_nonneg (Int.pow_nonneg (by omega))]

set_option maxRecDepth 100000 in
set_option maxHeartbeats 4000000 in
theorem bytesOf_any {r : List (List Op5)} {v : Value} {w : World} (hr : RoundAt w v r) (h0 : roundF r = 0) :
    Calls Tryd.prog 39 #[v] w fun e w' => (∃ u, e = .returned u ∧ BytesAt w' u (encB r)) ∧ Below w.heap.size w w' := by
  obtain ⟨i0, hi, hz0, hz1, hz2⟩ := info_parts infoU8
  obtain ⟨h8, hchk⟩ := roundF_zero.1 h0
  have hF : Hid (roundF r = 0) := h0
  have hlen : IntKind.u8.wrap (r.length : Int) = (r.length : Int) := by rw [IntKind.wrap_u8]; omega
  obtain ⟨a, cap, rfl, hr⟩ := hr
  clear h0
  have hO1 : OwnB (w.alloc (.cells #[.int .u8 (r.length : Int)] 5)) w.heap.size (.slice (some ⟨w.heap.size, 0, none⟩) 1 1) ((r.length : Int) :: deedsB (r.take 0)) :=
    ⟨rfl, .inr ⟨w.heap.size, 1, _, rfl, Nat.le_refl _, heap_alloc_new w _, Nat.le_refl _, by decide, rfl, rfl⟩⟩
  have hB1 : Below w.heap.size w (w.alloc (.cells #[.int .u8 (r.length : Int)] 5)) := (Below.refl _ _).alloc (Nat.le_refl _) _
  go_enter Tryd.func39, Tryd.ntmps39
  go_wp2_with fail
  go_loopg [3, 4] r.length (fun g b i wr => ∃ j : Nat, j ≤ r.length ∧ g = r.length - j ∧ i = .int .i64 (j : Int) ∧ OwnB wr w.heap.size b ((r.length : Int) :: deedsB (r.take j)) ∧ Below w.heap.size w wr)
  case atStart => exact ⟨0, by omega, by omega, rfl, hO1, hB1⟩
  case round =>
    obtain ⟨j, hj, hg, rfl, hO, hB⟩ := hrel
    clear hO1 hB1
    by_cases hlt : j < r.length
    · obtain ⟨rb, roff, rfl, dv, c0, hD⟩ := hr j hlt
      have hl14 := checkF_len (hchk _ (List.getElem_mem hlt))
      have hal := checkF_alone (hchk _ (List.getElem_mem hlt))
      have hll : (deedsB (r.take j)).length ≤ 141 * 8 := Nat.le_trans (deedsB_length (fun d hd => hchk d (List.mem_of_mem_take hd))) (Nat.mul_le_mul_left _ (by simp; omega))
      have hT : Hid (deedsB (r.take (j + 1)) = deedsB (r.take j) ++ deedB r[j]) := deedsB_take hlt
      have hopl : ∀ k, (opsB (r[j].take k)).length ≤ 140 := fun k => Nat.le_trans (opsB_length _) (by simp; omega)
      have c0w := c0
      replace c0 := cell_later hB c0
      clear hr
      generalize hdd : r[j] = d at *
      generalize deedsB (r.take j) = D at *
      obtain ⟨da, dcap, rfl, hD⟩ := hD
      have hlen' : IntKind.u8.wrap (d.length : Int) = (d.length : Int) := by rw [IntKind.wrap_u8]; omega
      have hsr := hB.size
      have hNw : Hid (∀ i u, (byteCells [(d.length : Int)])[i]? = some u → (wr.alloc (.cells #[.int .u8 (d.length : Int)] 5)).cell? ((⟨wr.heap.size, 0, none⟩ : Addr).add i) = some u) := new_cells wr [(d.length : Int)] 5
      clear hdd
      go_wp2_with (at_builtin; refine wpList_append_own _ rfl _ _ 26 rfl w.heap.size 5 i0 (.int .u8 0) 1 1 Tryd.underlying26 hi hz0 hz1 hz2 rfl (by decide) _ _ _ rfl (World.ownsRow.alloc hO _) ⟨wr.heap.size, 0, none⟩ 1 1 (byteCells [(d.length : Int)]) rfl rfl hNw.out (byteCells_one _) (by simp only [List.length_cons]; unfold maxLen; omega) (by simp only [List.length_cons]; omega) (by simp; omega) ?_; intro v3 w3 hO3 hgrow3 hnil3)
      have hB3 : Below w.heap.size w w3 := (hB.alloc hsr _).grown hgrow3 (by simp; omega) (fun g hg => (World.ownsRow.lt hO g hg).1)
      have hO3' : OwnB w3 w.heap.size v3 ((r.length : Int) :: D ++ (d.length : Int) :: opsB (d.take 0)) := by
        unfold OwnB
        rw [← byteCells_append] at hO3
        simpa [opsB] using hO3
      clear hgrow3 hnil3 hO3 hNw hO hB c0 hsr
      go_loopg [3, 5] d.length (fun g b i wr => ∃ k : Nat, k ≤ d.length ∧ g = d.length - k ∧ i = .int .i64 (k : Int) ∧ OwnB wr w.heap.size b ((r.length : Int) :: D ++ (d.length : Int) :: opsB (d.take k)) ∧ Below w.heap.size w wr)
      case atStart => exact ⟨0, by omega, by omega, rfl, hO3', hB3⟩
      case round =>
        obtain ⟨k, hk, hg', rfl, hO, hB⟩ := hrel
        clear hO3' hB3
        have c0 := cell_later hB c0w
        by_cases hlt' : k < d.length
        · obtain ⟨db, doff, rfl, q0, q1, q2, q3, q4⟩ := hD k hlt'
          replace q0 := cell_later hB q0
          replace q1 := cell_later hB q1
          replace q2 := cell_later hB q2
          replace q3 := cell_later hB q3
          replace q4 := cell_later hB q4
          have hoT : Hid ((r.length : Int) :: D ++ (d.length : Int) :: opsB (d.take (k + 1)) = ((r.length : Int) :: D ++ (d.length : Int) :: opsB (d.take k)) ++ opB d[k]) := by
            show _ = _
            rw [opsB_take hlt']; simp
          have ha := hal _ (List.getElem_mem hlt')
          have hl2 := hopl k
          have hsr := hB.size
          have HB : Hid (Below w.heap.size w wr) := hB
          have HO : Hid (OwnB wr w.heap.size u3 ((r.length : Int) :: D ++ (d.length : Int) :: opsB (d.take k))) := hO
          have hL3 : ((r.length : Int) :: D ++ (d.length : Int) :: opsB (d.take k)).length ≤ 1500 := by simp only [List.length_cons, List.length_append]; omega
          obtain ⟨p1, p2, p3, p4, p5, p6, p7, p8, p9, p10⟩ := alone_partsC ha
          clear hD hB hO hopl hal
          obtain ⟨L', eL'⟩ : ∃ L', L' = (r.length : Int) :: D ++ (d.length : Int) :: opsB (d.take (k + 1)) := ⟨_, rfl⟩
          have HL' : Hid ((r.length : Int) :: D ++ (d.length : Int) :: opsB (d.take (k + 1)) = L') := eL'.symm
          rw [← eL'] at hoT
          clear eL'
          generalize (r.length : Int) :: D ++ (d.length : Int) :: opsB (d.take k) = L at *
          generalize d[k] = o at *
          obtain ⟨ok, oa, ob, oc, on⟩ := o
          dsimp only at *
          clear p9 p10 ha
          have e1 : IntKind.u8.wrap ok = ok := by rw [IntKind.wrap_u8]; omega
          have hu3 : u3.ownBlock ≠ some wr.heap.size := fun e => by have := (HO.out.lt _ e).2; omega
          have hOW : World.ownsRow ((wr.alloc (.cells #[.int .i64 ok, .int .i64 oa, .int .i64 ob, .int .i64 oc, .int .i64 on] 63)).alloc (.cells #[.int .u8 ok] 5)) w.heap.size 5 1 u3 L.length (byteCells L) := World.ownsRow.alloc (World.ownsRow.alloc HO.out _) _
          have HOW : Hid (World.ownsRow ((wr.alloc (.cells #[.int .i64 ok, .int .i64 oa, .int .i64 ob, .int .i64 oc, .int .i64 on] 63)).alloc (.cells #[.int .u8 ok] 5)) w.heap.size 5 1 u3 L.length (byteCells L)) := hOW
          have hN : Hid (∀ j u, (byteCells [ok])[j]? = some u → ((wr.alloc (.cells #[.int .i64 ok, .int .i64 oa, .int .i64 ob, .int .i64 oc, .int .i64 on] 63)).alloc (.cells #[.int .u8 ok] 5)).cell? ((⟨wr.heap.size + 1, 0, none⟩ : Addr).add j) = some u) := by
            have := new_cells (wr.alloc (.cells #[.int .i64 ok, .int .i64 oa, .int .i64 ob, .int .i64 oc, .int .i64 on] 63)) [ok] 5
            rw [World.size_alloc] at this
            exact this
          have hBW : Below w.heap.size w ((wr.alloc (.cells #[.int .i64 ok, .int .i64 oa, .int .i64 ob, .int .i64 oc, .int .i64 on] 63)).alloc (.cells #[.int .u8 ok] 5)) := (HB.out.alloc hsr _).alloc (by simp; omega) _
          have w0 : ((wr.alloc (.cells #[.int .i64 ok, .int .i64 oa, .int .i64 ob, .int .i64 oc, .int .i64 on] 63)).alloc (.cells #[.int .u8 ok] 5)).cell? ⟨wr.heap.size, 0, none⟩ = some (.int .i64 ok) := by go_simp
          have w1' : ((wr.alloc (.cells #[.int .i64 ok, .int .i64 oa, .int .i64 ob, .int .i64 oc, .int .i64 on] 63)).alloc (.cells #[.int .u8 ok] 5)).cell? ⟨wr.heap.size, 1, none⟩ = some (.int .i64 oa) := by go_simp
          have w2' : ((wr.alloc (.cells #[.int .i64 ok, .int .i64 oa, .int .i64 ob, .int .i64 oc, .int .i64 on] 63)).alloc (.cells #[.int .u8 ok] 5)).cell? ⟨wr.heap.size, 2, none⟩ = some (.int .i64 ob) := by go_simp
          have w3' : ((wr.alloc (.cells #[.int .i64 ok, .int .i64 oa, .int .i64 ob, .int .i64 oc, .int .i64 on] 63)).alloc (.cells #[.int .u8 ok] 5)).cell? ⟨wr.heap.size, 3, none⟩ = some (.int .i64 oc) := by go_simp
          have w4' : ((wr.alloc (.cells #[.int .i64 ok, .int .i64 oa, .int .i64 ob, .int .i64 oc, .int .i64 on] 63)).alloc (.cells #[.int .u8 ok] 5)).cell? ⟨wr.heap.size, 4, none⟩ = some (.int .i64 on) := by go_simp
          have hszW : ((wr.alloc (.cells #[.int .i64 ok, .int .i64 oa, .int .i64 ob, .int .i64 oc, .int .i64 on] 63)).alloc (.cells #[.int .u8 ok] 5)).heap.size = wr.heap.size + 2 := by simp
          clear hOW HO HB
          obtain ⟨W2, eW2⟩ : ∃ W2, W2 = (wr.alloc (.cells #[.int .i64 ok, .int .i64 oa, .int .i64 ob, .int .i64 oc, .int .i64 on] 63)).alloc (.cells #[.int .u8 ok] 5) := ⟨_, rfl⟩
          rw [← eW2] at HOW hN hBW w0 w1' w2' w3' w4' hszW
          have HW2 : Hid (W2 = (wr.alloc (.cells #[.int .i64 ok, .int .i64 oa, .int .i64 ob, .int .i64 oc, .int .i64 on] 63)).alloc (.cells #[.int .u8 ok] 5)) := eW2
          clear eW2
          by_cases hk1 : ok = 1
          · subst hk1
            have e2 : IntKind.u8.wrap oa = oa := by rw [IntKind.wrap_u8]; omega
            have hop : Hid (opB ⟨1, oa, ob, oc, on⟩ = [1] ++ ([oa] ++ numB 8 on)) := rfl
            go_wp2_with (at_builtin; first | (rw [← HW2.out]; refine wpList_append_own_at _ rfl (.tmp 44) (.tmp 48) 26 rfl w.heap.size 5 i0 (.int .u8 0) 1 1 Tryd.underlying26 hi hz0 hz1 hz2 rfl (by decide) u3 _ _ rfl HOW.out ⟨wr.heap.size + 1, 0, none⟩ 1 1 (byteCells [1]) rfl rfl hN.out (byteCells_one _) (by unfold maxLen; omega) (by omega) (by omega) ?_; intro v4 w4 hO4 hg4 _ hat4; replace w0 := hg4.cell w0 (fun e => hu3 e.symm); replace w1' := hg4.cell w1' (fun e => hu3 e.symm); replace w4' := hg4.cell w4' (fun e => hu3 e.symm); have hs4 := hg4.size; have hv4 : v4.ownBlock ≠ some wr.heap.size := ne_block hat4 hu3 (by omega)) | (refine wpList_append_own_at _ rfl (.tmp 66) (.tmp 70) 26 rfl w.heap.size 5 i0 (.int .u8 0) 1 1 Tryd.underlying26 hi hz0 hz1 hz2 rfl (by decide) v4 _ _ rfl (World.ownsRow.alloc hO4 _) ⟨w4.heap.size, 0, none⟩ 1 1 (byteCells [oa]) rfl rfl (new_cells w4 [oa] 5) (byteCells_one _) (by unfold maxLen; omega) (by omega) (by simp; omega) ?_; intro v5 w5 hO5 hg5 _ hat5; replace w4' := hg5.cell (cell_later ((Below.refl _ _).alloc (Nat.le_refl _) _) w4') (fun e => hv4 e.symm)))
            have hB4 : Below w.heap.size w w4 := hBW.grown hg4 (by omega) (fun g hg => (World.ownsRow.lt HOW.out g hg).1)
            have hB5 : Below w.heap.size w w5 := (hB4.alloc (by omega) _).grown hg5 (by simp; omega) (fun g hg => (World.ownsRow.lt hO4 g hg).1)
            have hO5' : OwnB w5 w.heap.size v5 (L ++ ([1] ++ ([oa] ++ numB 0 on))) := by
              unfold OwnB
              rw [← byteCells_append, ← byteCells_append] at hO5
              simpa [numB] using hO5
            clear hg4 hg5 hat4 hat5 hO4 hO5 HOW hN w0 w1' w2' w3' hBW hB4 HW2 hv4
            have hw0 : 0 ≤ IntKind.u64.wrap on := by rw [IntKind.wrap_u64]; omega
            have hw1 : IntKind.u64.wrap on < 18446744073709551616 := by rw [IntKind.wrap_u64]; omega
            go_loopg [3, 7, 8] 8 (fun g b x i wq => ∃ m : Nat, m ≤ 8 ∧ g = 8 - m ∧ i = .int .i64 (m : Int) ∧ x = .int .u64 (IntKind.u64.wrap on / 256 ^ m) ∧ OwnB wq w.heap.size b (L ++ ([1] ++ ([oa] ++ numB m on))) ∧ Below w.heap.size w wq)
            case atStart => exact ⟨0, by omega, by omega, rfl, by simp, hO5', hB5⟩
            case round =>
              obtain ⟨m, hm, hgm, rfl, rfl, hOm, hBm⟩ := hrel
              clear hO5' hB5
              have hsm := hBm.size
              by_cases hm8 : m < 8
              · have hsn : Hid (numB (m + 1) on = numB m on ++ [on / 256 ^ m % 256]) := numB_snoc on m
                have hx0 : 0 ≤ IntKind.u64.wrap on / 256 ^ m := Int.ediv_nonneg hw0 (Int.pow_nonneg (by omega))
                have hx1 : IntKind.u64.wrap on / 256 ^ m < 18446744073709551616 := Int.lt_of_le_of_lt (Int.ediv_le_self _ hw0) hw1
                have r1 := remB64 on m hm8
                have r2 : (IntKind.u64.wrap on / 256 ^ m).tmod 256 = IntKind.u64.wrap on / 256 ^ m % 256 := Int.tmod_eq_emod_of_nonneg hx0
                have r3 : (IntKind.u64.wrap on / 256 ^ m).tdiv 256 = IntKind.u64.wrap on / 256 ^ m / 256 := Int.tdiv_eq_ediv_of_nonneg hx0
                have r4 := quoB64 on m
                have HY : Hid (IntKind.u64.wrap on / 256 ^ (m + 1) = IntKind.u64.wrap on / 256 ^ m / 256) := r4.symm
                clear r4
                generalize IntKind.u64.wrap on / 256 ^ m = X at *
                generalize on / 256 ^ m % 256 = Z at *
                have hlm : (L ++ ([1] ++ ([oa] ++ numB m on))).length ≤ 1600 := by simp [numB_length]; omega
                generalize hLL : L ++ ([1] ++ ([oa] ++ numB m on)) = LL at *
                have hNm : Hid (∀ i u, (byteCells [Z])[i]? = some u → (wr.alloc (.cells #[.int .u8 Z] 5)).cell? ((⟨wr.heap.size, 0, none⟩ : Addr).add i) = some u) := new_cells wr [Z] 5
                have HLL : Hid (L ++ ([1] ++ ([oa] ++ numB m on)) = LL) := hLL
                have HOm : Hid (World.ownsRow (wr.alloc (.cells #[.int .u8 Z] 5)) w.heap.size 5 1 u3 LL.length (byteCells LL)) := World.ownsRow.alloc hOm _
                have w5 : IntKind.u64.wrap (X % 256) = X % 256 := by rw [IntKind.wrap_u64]; omega
                have w6 : IntKind.u64.wrap (X / 256) = X / 256 := by rw [IntKind.wrap_u64]; omega
                clear hLL
                go_wp2_with (at_builtin; refine wpList_append_own _ rfl _ _ 26 rfl w.heap.size 5 i0 (.int .u8 0) 1 1 Tryd.underlying26 hi hz0 hz1 hz2 rfl (by decide) u3 _ _ rfl HOm.out ⟨wr.heap.size, 0, none⟩ 1 1 (byteCells [Z]) rfl rfl hNm.out (byteCells_one _) (by unfold maxLen; omega) (by omega) (by simp; omega) ?_; intro v6 w7 hO6 hg6 _)
                have hB7 : Below w.heap.size w w7 := (hBm.alloc hsm _).grown hg6 (by simp; omega) (fun g hg => (World.ownsRow.lt HOm.out g hg).1)
                have hO7 : OwnB w7 w.heap.size v6 (L ++ ([1] ++ ([oa] ++ numB (m + 1) on))) := by
                  rw [hsn.out, show L ++ ([1] ++ ([oa] ++ (numB m on ++ [Z]))) = LL ++ [Z] by rw [← HLL.out]; simp]
                  unfold OwnB
                  rw [← byteCells_append] at hO6
                  simpa using hO6
                clear hg6 hO6 HOm hNm hOm
                go_roundg (8 - (m + 1))
                case measure => omega
                case rel => exact ⟨m + 1, by omega, rfl, by go_num, by first | rfl | (rw [HY.out]), hO7, hB7⟩
              · obtain rfl : m = 8 := by omega
                have hO8 : OwnB wr w.heap.size u3 L' := by rw [hoT.out, hop.out]; exact hOm
                clear hOm w4'
                go_wp2_with fail
                go_roundg (d.length - (k + 1))
                case measure => omega
                case rel => exact ⟨k + 1, by omega, rfl, by go_num, by rw [HL'.out]; exact hO8, hBm⟩
          · have t1 : (ok != 1) = true := by simp [hk1]
            have e2 : IntKind.u8.wrap (oa + 16 * ob) = oa + 16 * ob := by rw [IntKind.wrap_u8]; omega
            have e3 : IntKind.u8.wrap oc = oc := by rw [IntKind.wrap_u8]; omega
            have hop : Hid (opB ⟨ok, oa, ob, oc, on⟩ = [ok] ++ [oa + 16 * ob, oc]) := by unfold opB; exact if_neg hk1
            go_wp2_with (at_builtin; first | (rw [← HW2.out]; refine wpList_append_own_at _ rfl (.tmp 44) (.tmp 48) 26 rfl w.heap.size 5 i0 (.int .u8 0) 1 1 Tryd.underlying26 hi hz0 hz1 hz2 rfl (by decide) u3 _ _ rfl HOW.out ⟨wr.heap.size + 1, 0, none⟩ 1 1 (byteCells [ok]) rfl rfl hN.out (byteCells_one _) (by unfold maxLen; omega) (by omega) (by omega) ?_; intro v4 w4 hO4 hg4 _ hat4; replace w0 := hg4.cell w0 (fun e => hu3 e.symm); replace w1' := hg4.cell w1' (fun e => hu3 e.symm); replace w2' := hg4.cell w2' (fun e => hu3 e.symm); replace w3' := hg4.cell w3' (fun e => hu3 e.symm); have hs4 := hg4.size) | (refine wpList_append_own_at _ rfl (.tmp 53) (.tmp 64) 26 rfl w.heap.size 5 i0 (.int .u8 0) 1 1 Tryd.underlying26 hi hz0 hz1 hz2 rfl (by decide) v4 _ _ rfl (World.ownsRow.alloc hO4 _) ⟨w4.heap.size, 0, none⟩ 2 2 (byteCells [oa + 16 * ob, oc]) rfl rfl (new_cells w4 [oa + 16 * ob, oc] 5) (byteCells_one _) (by unfold maxLen; omega) (by omega) (by simp; omega) ?_; intro v5 w5 hO5 hg5 _ hat5))
            have hB4 : Below w.heap.size w w4 := hBW.grown hg4 (by omega) (fun g hg => (World.ownsRow.lt HOW.out g hg).1)
            have hB5 : Below w.heap.size w w5 := (hB4.alloc (by omega) _).grown hg5 (by simp; omega) (fun g hg => (World.ownsRow.lt hO4 g hg).1)
            have hO5' : OwnB w5 w.heap.size v5 L' := by
              rw [hoT.out, hop.out, ← List.append_assoc]
              unfold OwnB
              rw [← byteCells_append, ← byteCells_append] at hO5
              simpa using hO5
            clear hg4 hg5 hat4 hat5 hO4 hO5 HOW hN w0 w1' w2' w3' w4' hBW hB4 HW2
            go_roundg (d.length - (k + 1))
            case measure => omega
            case rel => exact ⟨k + 1, by omega, rfl, by go_num, by rw [HL'.out]; exact hO5', hB5⟩
        · obtain rfl : k = d.length := by omega
          clear hD
          rw [List.take_length] at hO
          have hO' : OwnB wr w.heap.size u3 ((r.length : Int) :: deedsB (r.take (j + 1))) := by
            rw [hT.out]
            exact hO
          clear hO
          go_wp2_with fail
          go_roundg (r.length - (j + 1))
          case measure => omega
          case rel => exact ⟨j + 1, by omega, rfl, by go_num, hO', hB⟩
    · obtain rfl : j = r.length := by omega
      clear hr
      rw [List.take_length] at hO
      have hbl := bodyB_length hF.out
      have hO' : OwnB wr w.heap.size u3 (bodyB r) := hO
      have hE : Hid (encB r = [((bodyB r).length : Int) % 256, ((bodyB r).length : Int) / 256] ++ bodyB r) := rfl
      clear hO
      have hbp : 0 < (bodyB r).length := by simp [bodyB]
      generalize bodyB r = B at *
      have hsr := hB.size
      have hw1 : IntKind.u8.wrap ((B.length : Int) % 256) = (B.length : Int) % 256 := by rw [IntKind.wrap_u8]; omega
      have hw2 : IntKind.u8.wrap ((B.length : Int) / 256) = (B.length : Int) / 256 := by rw [IntKind.wrap_u8]; omega
      have hq1 : ((B.length : Int)).tmod 256 = (B.length : Int) % 256 := Int.tmod_eq_emod_of_nonneg (by omega)
      have hq2 : ((B.length : Int)).tdiv 256 = (B.length : Int) / 256 := Int.tdiv_eq_ediv_of_nonneg (by omega)
      have hu : BytesAt wr u3 B := (owns_bytes hO').at
      obtain ⟨X, eX⟩ : ∃ X, X = (B.length : Int) % 256 := ⟨_, rfl⟩
      obtain ⟨Y, eY⟩ : ∃ Y, Y = (B.length : Int) / 256 := ⟨_, rfl⟩
      have hX : X < 256 := by omega
      have hY : wrap64 Y % 256 = Y := by unfold wrap64; omega
      rw [← eX] at hw1 hq1 hE
      rw [← eY] at hw2 hq2 hE
      clear eX eY
      have hbA : Below wr.heap.size wr (wr.alloc (.cells #[.int .u8 X, .int .u8 Y] 5)) := (Below.refl _ _).alloc (Nat.le_refl _) _
      have hOn : (wr.alloc (.cells #[.int .u8 X, .int .u8 Y] 5)).ownsRow w.heap.size 5 1 (.slice (some ⟨wr.heap.size, 0, none⟩) 2 2) 2 (byteCells [X, Y]) := ⟨rfl, .inr ⟨wr.heap.size, 2, _, rfl, hsr, heap_alloc_new wr _, Nat.le_refl _, by decide, rfl, rfl⟩⟩
      have HU : Hid (BytesAt (wr.alloc (.cells #[.int .u8 X, .int .u8 Y] 5)) u3 B) := hu.later hbA
      obtain ⟨ua, ucap, rfl, -⟩ := id hu
      clear hu hO'
      go_wp2_with (at_builtin; refine wpList_append_bytes rfl (.tmp 95) (.tmp 96) rfl w.heap.size _ [X, Y] rfl hOn (by simp) B HU.out (by simp; omega) (by simp; omega) ?_; intro v9 w9 hO9 hb9)
      go_ret
      refine ⟨⟨_, rfl, ?_⟩, (hB.alloc hsr _).trans hb9⟩
      rw [hE.out]
      exact (owns_bytes hO9).at
end Go.Proofs.YtokjigebjcgdjacDoor
