/-
  The walk of the law TextJoins.
-/
import Derived.Test.YtdohockbmphhfadDoorTxN
import Derived.Test.YtdohockbmphhfadDoorTxM
namespace Go.Proofs.YtdohockbmphhfadDoor
open Go.RowKit

set_option maxRecDepth 100000 in
set_option maxHeartbeats 400000 in
theorem eq_fault (c i : Int) (w : World) : (binOp .eql 26 (.agg #[.int .i64 c, .int .i64 i]) (.agg #[.int .i64 c, .int .i64 i])).run Tryd.prog w = .ok (.bool true) w := by
  go_simp

theorem alone_join {d e : List Op5} (hd : (checkF d).1 = 0) (he : (checkF e).1 = 0) : ∀ o ∈ d ++ e, aloneF o = 0 := fun o ho => by
  rcases List.mem_append.1 ho with ho | ho
  · exact checkF_alone hd o ho
  · exact checkF_alone he o ho
theorem deedCells_append (d e : List Op5) : deedCells (d ++ e) = deedCells d ++ deedCells e := by
  induction d with
  | nil => rfl
  | cons x d ih => simp [deedCells, ih]

set_option maxRecDepth 100000 in
set_option maxHeartbeats 8000000 in
theorem joinsT_any {v u : Value} {d e : List Op5} {w : World} (hd : DeedAt w v d) (he : DeedAt w u e) (hm : d.length ≤ 9223372036854775807) (hn : e.length ≤ 9223372036854775807) (h64 : ∀ o ∈ d, Op64 o) (k64 : ∀ o ∈ e, Op64 o) (hE : Env w) :
    Calls Tryd.prog 4 #[v, u] w fun x w' => x = .returned (.bool true) ∧ Below w.heap.size w w' := by
  obtain ⟨i0, hi, hz0, hz1, hz2⟩ := info_parts infoOp9
  have HD : Hid (DeedAt w v d) := hd
  have HE : Hid (DeedAt w u e) := he
  obtain ⟨da, dcap, rfl, -⟩ := hd
  obtain ⟨ea, ecap, rfl, -⟩ := he
  go_enter Tryd.func4, Tryd.ntmps4
  go_wp2_with fail
  refine (begun_any w hE).mono ?_
  rintro x w1 ⟨rfl, hB1⟩
  by_cases hd2 : (100 : Int) < (d.length : Int)
  · go_wp2_with fail
    go_ret
    exact ⟨rfl, hB1⟩
  by_cases he2 : (100 : Int) < (e.length : Int)
  · go_wp2_with fail
    go_ret
    exact ⟨rfl, hB1⟩
  by_cases hd3 : d.length = 0
  · have t : ((d.length : Int) == 0) = true := by simp [hd3]
    clear hd3
    go_wp2_with fail
    go_ret
    exact ⟨rfl, hB1⟩
  have td : ((d.length : Int) == 0) = false := by simp; intro h; exact hd3 (by simp [h])
  by_cases he3 : e.length = 0
  · have t : ((e.length : Int) == 0) = true := by simp [he3]
    clear he3
    go_wp2_with fail
    go_ret
    exact ⟨rfl, hB1⟩
  have te : ((e.length : Int) == 0) = false := by simp; intro h; exact he3 (by simp [h])
  have hd1 : 0 < d.length := by omega
  have he1 : 0 < e.length := by omega
  have hd100 : d.length ≤ 100 := by omega
  have he100 : e.length ≤ 100 := by omega
  clear hd3 he3
  go_wp2_with fail
  refine (print_any _ d w1 (HD.out.later hB1) hm h64 (hE.later hB1)).mono ?_
  rintro x w2 ⟨rfl, hb2⟩
  have hB2 : Below w.heap.size w w2 := hB1.trans (hb2.mono hB1.size)
  clear hb2 hB1
  simp only [outT]
  obtain ⟨td, cd, id', hpd⟩ : ∃ a b c, printF d = (a, b, c) := ⟨_, _, _, rfl⟩
  have HPd : Hid (printF d = (td, cd, id')) := hpd
  rw [hpd]
  clear hpd
  dsimp only
  have hB2a : Below w.heap.size w (w2.alloc (.cells #[.int .i64 cd, .int .i64 id'] 26)) := hB2.alloc hB2.size _
  have fF : (w2.alloc (.cells #[.int .i64 cd, .int .i64 id'] 26)).cell? ⟨w2.heap.size, 0, none⟩ = some (.int .i64 cd) := by simp
  go_wp2_with fail
  obtain ⟨W2, hW2⟩ : ∃ W2, W2 = w2.alloc (.cells #[.int .i64 cd, .int .i64 id'] 26) := ⟨_, rfl⟩
  rw [← hW2] at hB2a fF ⊢
  clear hW2
  refine (print_any _ e W2 (HE.out.later hB2a) hn k64 (hE.later hB2a)).mono ?_
  rintro x w3 ⟨rfl, hb3⟩
  have hB3 : Below w.heap.size w w3 := hB2a.trans (hb3.mono hB2a.size)
  have fF3 := cell_later hb3 fF
  have hlt3 : w2.heap.size < w3.heap.size := World.block_lt_of_cell? w3 _ fF3
  clear hb3 hB2 hB2a fF
  simp only [outT]
  obtain ⟨te, ce, ie, hpe⟩ : ∃ a b c, printF e = (a, b, c) := ⟨_, _, _, rfl⟩
  have HPe : Hid (printF e = (te, ce, ie)) := hpe
  rw [hpe]
  clear hpe
  dsimp only
  have hB4 : Below w.heap.size w (w3.alloc (.cells #[.int .i64 ce, .int .i64 ie] 26)) := hB3.alloc hB3.size _
  by_cases hcd : (checkF d).1 = 0
  · by_cases hce : (checkF e).1 = 0
    · have h1 := HPd.out
      rw [print_good hcd] at h1
      injection h1 with e1 h1
      injection h1 with e2 e3
      subst e1 e2 e3
      have h1 := HPe.out
      rw [print_good hce] at h1
      injection h1 with e1 h1
      injection h1 with e2 e3
      subst e1 e2 e3
      have hld := small_print hcd h64
      have hle := small_print hce k64
      have HJ : Hid (parseF (printB d ++ (59 :: printB e)) = if (checkF (d ++ e)).1 ≠ 0 then ([], checkF (d ++ e)) else (d ++ e, (0, 0))) := parse_join hcd hce h64 k64 (fun h => by rw [h] at hd1; simp at hd1) (fun h => by rw [h] at he1; simp at he1)
      have HA : Hid (∀ o ∈ d ++ e, aloneF o = 0) := alone_join hcd hce
      clear HPd HPe hcd hce
      have hD4 := HD.out.later hB4
      have hE4 := HE.out.later hB4
      obtain ⟨db, doff, rfl, hDc⟩ := hD4.cells hd1
      obtain ⟨eb, eoff, rfl, hEc⟩ := hE4.cells he1
      have HN1 : Hid (∀ j u, (deedCells d)[j]? = some u → (w3.alloc (.cells #[.int .i64 0, .int .i64 0] 26)).cell? ((⟨db, doff, none⟩ : Addr).add j) = some u) := hDc
      have HN2 : Hid (∀ W, Below (w3.heap.size + 1) (w3.alloc (.cells #[.int .i64 0, .int .i64 0] 26)) W → ∀ j u, (deedCells e)[j]? = some u → W.cell? ((⟨eb, eoff, none⟩ : Addr).add j) = some u) := fun W hW j u hu => cell_later (by simpa using hW) (hEc j u hu)
      have HL1 : Hid ((deedCells d).length = d.length * 5) := deedCells_length d
      have HL2 : Hid ((deedCells e).length = e.length * 5) := deedCells_length e
      have hz4 : (w3.alloc (.cells #[.int .i64 0, .int .i64 0] 26)).heap.size = w3.heap.size + 1 := by simp
      have HB4 : Hid (Below w.heap.size w (w3.alloc (.cells #[.int .i64 0, .int .i64 0] 26))) := hB4
      have hw3 := hB3.size
      clear hDc hEc hD4 hE4 hB4 hB3
      obtain ⟨X, hX⟩ : ∃ X, X = printB d := ⟨_, rfl⟩
      obtain ⟨Y, hY⟩ : ∃ Y, Y = printB e := ⟨_, rfl⟩
      rw [← hX] at HJ hld ⊢
      rw [← hY] at HJ hle ⊢
      clear hX hY
      have x1 : (strB X).size = X.length := rfl
      have x2 : (⟨#[59]⟩ : ByteArray).size = 1 := rfl
      have x3 : ¬ (9223372036854775807 < X.length + 1) := by omega
      obtain ⟨Z, hZ⟩ : ∃ Z, Z = X ++ [59] := ⟨_, rfl⟩
      have x4 : strB X ++ ⟨#[59]⟩ = strB Z := by rw [hZ]; exact strB_append X [59]
      have hZl : Z.length = X.length + 1 := by rw [hZ]; simp
      have x5 : (strB Z).size = Z.length := rfl
      have x6 : (strB Y).size = Y.length := rfl
      have x7 : ¬ (9223372036854775807 < Z.length + Y.length) := by omega
      obtain ⟨T, hT⟩ : ∃ T, T = Z ++ Y := ⟨_, rfl⟩
      have x8 : strB Z ++ strB Y = strB T := by rw [hT]; exact strB_append Z Y
      have hTl : T.length ≤ 281474976710656 := by rw [hT, List.length_append]; omega
      have hTe : X ++ (59 :: Y) = T := by rw [hT, hZ]; simp
      rw [hTe] at HJ
      have HZl : Hid (Z.length = X.length + 1) := hZl
      clear hT hTe hZ hZl
      go_wp2_with (at_builtin; first | (refine wpList_append_own _ rfl (.tmp 51) (.tmp 52) 23 rfl (w3.heap.size + 1) 36 i0 (.agg #[.int .i64 0, .int .i64 0, .int .i64 0, .int .i64 0, .int .i64 0]) 5 40 Tryd.underlying23 hi hz0 hz1 hz2 rfl (by decide) _ 0 [] rfl (World.ownsRow_nil _ _ _ _) ⟨db, doff, none⟩ d.length dcap (deedCells d) rfl HL1.out HN1.out (deedCells_one _) (by unfold maxLen; omega) (by omega) (by simp) ?_; intro v4 w5 hO4 hgrow4 hnil4; have hb4 : Below (w3.heap.size + 1) (w3.alloc (.cells #[.int .i64 0, .int .i64 0] 26)) w5 := (Below.refl _ _).grown hgrow4 (by simp) (fun k hk => by cases hk); have hz5 := hgrow4.size) | (refine wpList_append_own _ rfl (.tmp 53) (.tmp 54) 23 rfl (w3.heap.size + 1) 36 i0 (.agg #[.int .i64 0, .int .i64 0, .int .i64 0, .int .i64 0, .int .i64 0]) 5 40 Tryd.underlying23 hi hz0 hz1 hz2 rfl (by decide) v4 _ _ rfl hO4 ⟨eb, eoff, none⟩ e.length ecap (deedCells e) rfl HL2.out (HN2.out _ hb4) (deedCells_one _) (by unfold maxLen; omega) (by omega) (by rw [hz4] at hz5; exact hz5) ?_; intro v5 w6 hO5 hgrow5 hnil5))
      have hb5 : Below (w3.heap.size + 1) (w3.alloc (.cells #[.int .i64 0, .int .i64 0] 26)) w6 := hb4.grown hgrow5 (by rw [hz4] at hz5; exact hz5) (fun k hk => (hO4.lt k hk).1)
      have HAll : Hid (DeedAt w6 v5 (d ++ e)) := by
        have h1 : w6.ownsRow (w3.heap.size + 1) 36 5 v5 (d ++ e).length (deedCells (d ++ e)) := by
          rw [deedCells_append, List.length_append]; simpa using hO5
        exact owns_deed h1
      have hB6 : Below w.heap.size w w6 := HB4.out.trans (hb5.mono (by omega))
      obtain ⟨aa, acap, rfl, -⟩ := id HAll.out
      have hal : (d ++ e).length ≤ 9223372036854775807 := by rw [List.length_append]; omega
      clear hnil4 hnil5 hgrow4 hgrow5 hO4 hO5 hb4 hb5 hz5 hz4 HN1 HN2 HL1 HL2 HB4 fF3 hlt3
      refine (parse_any T w6 hTl (hE.later hB6)).mono ?_
      rintro x w7 ⟨xv, rfl, hX, hb7⟩
      have hB7 : Below w.heap.size w w7 := hB6.trans (hb7.mono hB6.size)
      have HAll7 : Hid (DeedAt w7 (.slice aa (d ++ e).length acap) (d ++ e)) := HAll.out.later hb7
      clear hb7 hB6 HAll
      by_cases hcc : (checkF (d ++ e)).1 = 0
      · have hJ := HJ.out
        rw [if_neg (by simp [hcc])] at hJ
        rw [hJ] at hX ⊢
        dsimp only at hX ⊢
        have hdp := fun (W : World) (hW : DeedAt W (.slice aa (d ++ e).length acap) (d ++ e)) => deedP_any _ (d ++ e) W hW hal HA.out
        rw [hcc] at hdp
        have HX : Hid (DeedAt w7 xv (d ++ e)) := hX
        obtain ⟨xa, xcap, rfl, -⟩ := id hX
        clear hX hJ HJ hcc HA
        obtain ⟨m, hmq⟩ : ∃ m, m = checkF (d ++ e) := ⟨_, rfl⟩
        rw [← hmq] at hdp
        clear hmq
        obtain ⟨D, hD⟩ : ∃ D, D = d ++ e := ⟨_, rfl⟩
        rw [← hD] at HX HAll7 hdp hal ⊢
        clear hD
        have hbm : Below w7.heap.size w7 (w7.alloc (.cells #[.int .i64 0, .int .i64 0] 26)) := (Below.refl _ _).alloc (Nat.le_refl _) _
        have hB7a : Below w.heap.size w (w7.alloc (.cells #[.int .i64 0, .int .i64 0] 26)) := hB7.trans (hbm.mono hB7.size)
        have hh : (w7.alloc (.cells #[.int .i64 0, .int .i64 0] 26)).cell? ⟨w7.heap.size, 0, none⟩ = some (.int .i64 0) := by simp
        have HX7 : Hid (DeedAt (w7.alloc (.cells #[.int .i64 0, .int .i64 0] 26)) (.slice xa D.length xcap) D) := HX.out.later hbm
        have HA7 : Hid (DeedAt (w7.alloc (.cells #[.int .i64 0, .int .i64 0] 26)) (.slice aa D.length acap) D) := HAll7.out.later hbm
        go_wp2_with fail
        obtain ⟨W7, hW7⟩ : ∃ W7, W7 = w7.alloc (.cells #[.int .i64 0, .int .i64 0] 26) := ⟨_, rfl⟩
        rw [← hW7] at hB7a hh HX7 HA7 ⊢
        clear hW7 hbm
        refine (hdp W7 HA7.out).mono ?_
        rintro x w8 ⟨rfl, hb8⟩
        have hB8 : Below w.heap.size w w8 := hB7a.trans (hb8.mono hB7a.size)
        have hh8 := cell_later hb8 hh
        have hlt8 : w7.heap.size < w8.heap.size := World.block_lt_of_cell? w8 _ hh8
        have HX8 : Hid (DeedAt w8 (.slice xa D.length xcap) D) := HX7.out.later hb8
        have HA8 : Hid (DeedAt w8 (.slice aa D.length acap) D) := HA7.out.later hb8
        clear hb8 HX7 HA7 hh hB7a hdp HX HAll7 hB7
        have hbm : Below w8.heap.size w8 (w8.alloc (.cells #[.int .i64 0, .int .i64 m.2] 26)) := (Below.refl _ _).alloc (Nat.le_refl _) _
        have hB8a : Below w.heap.size w (w8.alloc (.cells #[.int .i64 0, .int .i64 m.2] 26)) := hB8.trans (hbm.mono hB8.size)
        go_wp2_with fail
        refine (sameDeed_any (HX8.out.later hbm) (HA8.out.later hbm) hal hal).mono ?_
        rintro x w9 ⟨rfl, hb9⟩
        rw [eqDeed_iff.2 rfl]
        have hB9 : Below w.heap.size w w9 := hB8a.trans (hb9.mono hB8a.size)
        clear hb9 hbm hh8
        go_wp2_with fail
        go_ret
        exact ⟨rfl, hB9⟩
      · have hJ := HJ.out
        rw [if_pos hcc] at hJ
        rw [hJ] at hX ⊢
        dsimp only at hX ⊢
        have hdp := fun (W : World) (hW : DeedAt W (.slice aa (d ++ e).length acap) (d ++ e)) => deedP_any _ (d ++ e) W hW hal HA.out
        obtain ⟨xa, xcap, rfl, -⟩ := id hX
        clear hX hJ HJ HA
        generalize checkF (d ++ e) = m at hdp hcc ⊢
        have tcc : (m.1 != 0) = true := by simp [hcc]
        obtain ⟨D, hD⟩ : ∃ D, D = d ++ e := ⟨_, rfl⟩
        rw [← hD] at HAll7 hdp hal ⊢
        clear hD hcc
        have hbm : Below w7.heap.size w7 (w7.alloc (.cells #[.int .i64 m.1, .int .i64 m.2] 26)) := (Below.refl _ _).alloc (Nat.le_refl _) _
        have hB7a : Below w.heap.size w (w7.alloc (.cells #[.int .i64 m.1, .int .i64 m.2] 26)) := hB7.trans (hbm.mono hB7.size)
        have hh : (w7.alloc (.cells #[.int .i64 m.1, .int .i64 m.2] 26)).cell? ⟨w7.heap.size, 0, none⟩ = some (.int .i64 m.1) := by simp
        have hj : (w7.alloc (.cells #[.int .i64 m.1, .int .i64 m.2] 26)).cell? ⟨w7.heap.size, 1, none⟩ = some (.int .i64 m.2) := by simp
        have HA7 : Hid (DeedAt (w7.alloc (.cells #[.int .i64 m.1, .int .i64 m.2] 26)) (.slice aa D.length acap) D) := HAll7.out.later hbm
        go_wp2_with fail
        obtain ⟨W7, hW7⟩ : ∃ W7, W7 = w7.alloc (.cells #[.int .i64 m.1, .int .i64 m.2] 26) := ⟨_, rfl⟩
        rw [← hW7] at hB7a hh hj HA7 ⊢
        clear hW7 hbm
        refine (hdp W7 HA7.out).mono ?_
        rintro x w8 ⟨rfl, hb8⟩
        have hB8 : Below w.heap.size w w8 := hB7a.trans (hb8.mono hB7a.size)
        have hh8 := cell_later hb8 hh
        have hj8 := cell_later hb8 hj
        have hlt8 : w7.heap.size < w8.heap.size := World.block_lt_of_cell? w8 _ hh8
        have hef := eq_fault m.1 m.2
        clear hb8 HA7 hh hj hB7a hdp HAll7 hB7
        go_wp2_with fail
        go_ret
        exact ⟨rfl, hB8.alloc hB8.size _⟩
    · have h1 := HPd.out
      rw [print_good hcd] at h1
      injection h1 with e1 h1
      injection h1 with e2 e3
      subst e1 e2 e3
      have h1 := HPe.out
      rw [print_bad hce] at h1
      injection h1 with e1 h1
      have e2 : (checkF e).1 = ce := congrArg Prod.fst h1
      rw [e2] at hce
      have tc : (ce != 0) = true := by simp [hce]
      clear HPd HPe h1 e1 e2 hce hcd
      go_wp2_with fail
      go_ret
      exact ⟨rfl, hB4⟩
  · have h1 := HPd.out
    rw [print_bad hcd] at h1
    injection h1 with e1 h1
    have e2 : (checkF d).1 = cd := congrArg Prod.fst h1
    rw [e2] at hcd
    have tc : (cd != 0) = true := by simp [hcd]
    clear HPd HPe h1 e1 e2 hcd
    go_wp2_with fail
    go_ret
    exact ⟨rfl, hB4⟩
end Go.Proofs.YtdohockbmphhfadDoor
