/-
  The walk of the law TextBack.
-/
import Derived.Test.YtdohockbmphhfacDoorTxK
import Derived.Test.YtdohockbmphhfacDoorSamA
namespace Go.Proofs.YtdohockbmphhfacDoor
open Go.RowKit

/-- Two deeds that may be done have the same text just if they are the same. -/
theorem print_inj {d e : List Op5} (hd : (checkF d).1 = 0) (he : (checkF e).1 = 0) (h64 : ∀ o ∈ d, Op64 o) (k64 : ∀ o ∈ e, Op64 o) : printB d = printB e ↔ d = e := by
  constructor
  · intro h
    have h1 := parse_print hd h64
    rw [h, parse_print he k64] at h1
    exact (congrArg Prod.fst h1).symm
  · rintro rfl; rfl

set_option maxRecDepth 100000 in
set_option maxHeartbeats 8000000 in
theorem back_any {v u : Value} {d e : List Op5} (s : List UInt8) {w : World} (hd : DeedAt w v d) (he : DeedAt w u e) (hm : d.length ≤ 9223372036854775807) (hn : e.length ≤ 9223372036854775807) (h64 : ∀ o ∈ d, Op64 o) (k64 : ∀ o ∈ e, Op64 o) (hE : Env w) :
    Calls Tryd.prog 14 #[v, u, .string (strB s)] w fun x w' => x = .returned (.bool true) ∧ Below w.heap.size w w' := by
  have HD : Hid (DeedAt w v d) := hd
  have HE : Hid (DeedAt w u e) := he
  obtain ⟨da, dcap, rfl, -⟩ := hd
  obtain ⟨ea, ecap, rfl, -⟩ := he
  have hS : (strB s).size = s.length := rfl
  go_enter Tryd.func14, Tryd.ntmps14
  go_wp2_with fail
  refine (begun_any w hE).mono ?_
  rintro x w1 ⟨rfl, hB1⟩
  by_cases hd2 : (200 : Int) < (d.length : Int)
  · go_wp2_with fail
    go_ret
    exact ⟨rfl, hB1⟩
  by_cases he2 : (200 : Int) < (e.length : Int)
  · go_wp2_with fail
    go_ret
    exact ⟨rfl, hB1⟩
  by_cases hs2 : (3000 : Int) < (s.length : Int)
  · go_wp2_with fail
    go_ret
    exact ⟨rfl, hB1⟩
  have hs3 : s.length ≤ 3000 := by omega
  have hfin := fun (W : World) (hW : Below w.heap.size w W) => parse_any s W (by omega) (hE.later hW)
  go_wp2_with fail
  refine (print_any _ d w1 (HD.out.later hB1) hm h64 (hE.later hB1)).mono ?_
  rintro x w2 ⟨rfl, hb2⟩
  have hB2 : Below w.heap.size w w2 := hB1.trans (hb2.mono hB1.size)
  clear hb2 hB1
  simp only [outT]
  by_cases hcd : (checkF d).1 = 0
  · rw [print_good hcd]
    have hpl := small_print hcd h64
    have hB2a : Below w.heap.size w (w2.alloc (.cells #[.int .i64 0, .int .i64 0] 93)) := hB2.alloc hB2.size _
    have fF : (w2.alloc (.cells #[.int .i64 0, .int .i64 0] 93)).cell? ⟨w2.heap.size, 0, none⟩ = some (.int .i64 0) := by simp
    have PP := parse_print hcd h64
    have HCD : Hid ((checkF d).1 = 0) := hcd
    clear hcd
    go_wp2_with fail
    obtain ⟨W2, hW2⟩ : ∃ W2, W2 = w2.alloc (.cells #[.int .i64 0, .int .i64 0] 93) := ⟨_, rfl⟩
    have hlt2 : w2.heap.size < W2.heap.size := by rw [hW2]; simp
    rw [← hW2] at hB2a fF ⊢
    clear hW2
    refine (print_any _ e W2 (HE.out.later hB2a) hn k64 (hE.later hB2a)).mono ?_
    rintro x w3 ⟨rfl, hb3⟩
    have hB3 : Below w.heap.size w w3 := hB2a.trans (hb3.mono hB2a.size)
    have fF3 := cell_later hb3 fF
    have hlt3 : w2.heap.size < w3.heap.size := World.block_lt_of_cell? w3 _ fF3
    clear hb3 hB2 hB2a fF hlt2
    simp only [outT]
    generalize hPe : printF e = pe
    obtain ⟨te, ce, ie⟩ := pe
    dsimp only
    have hB3a : Below w.heap.size w (w3.alloc (.cells #[.int .i64 ce, .int .i64 ie] 93)) := hB3.alloc hB3.size _
    have hbn : Below w3.heap.size w3 (w3.alloc (.cells #[.int .i64 ce, .int .i64 ie] 93)) := (Below.refl _ _).alloc (Nat.le_refl _) _
    have gG : (w3.alloc (.cells #[.int .i64 ce, .int .i64 ie] 93)).cell? ⟨w3.heap.size, 0, none⟩ = some (.int .i64 ce) := by simp
    have HPe : Hid (printF e = (te, ce, ie)) := hPe
    clear hPe
    go_wp2_with fail
    obtain ⟨W3, hW3⟩ : ∃ W3, W3 = w3.alloc (.cells #[.int .i64 ce, .int .i64 ie] 93) := ⟨_, rfl⟩
    rw [← hW3] at hB3a hbn gG ⊢
    have hlt4 : w3.heap.size < W3.heap.size := by rw [hW3]; simp
    clear hW3 fF3 hlt3
    refine (parse_any (printB d) W3 (by omega) (hE.later hB3a)).mono ?_
    rintro x w4 ⟨xv, rfl, hX, hb4⟩
    rw [PP] at hX ⊢
    dsimp only at hX ⊢
    have gG4 := cell_later hb4 gG
    have hlt5 : w3.heap.size < w4.heap.size := World.block_lt_of_cell? w4 _ gG4
    have hB4 : Below w.heap.size w w4 := hB3a.trans (hb4.mono hB3a.size)
    have HX : Hid (DeedAt w4 xv d) := hX
    obtain ⟨xa, xcap, rfl, -⟩ := id hX
    clear hb4 hB3 hB3a hbn gG hlt4 hX PP
    have hbm : Below w4.heap.size w4 (w4.alloc (.cells #[.int .i64 0, .int .i64 0] 93)) := (Below.refl _ _).alloc (Nat.le_refl _) _
    have hB4a : Below w.heap.size w (w4.alloc (.cells #[.int .i64 0, .int .i64 0] 93)) := hB4.trans (hbm.mono hB4.size)
    go_wp2_with fail
    refine (sameDeed_any (HX.out.later hbm) (HD.out.later hB4a) hm hm).mono ?_
    rintro x w5 ⟨rfl, hb5⟩
    rw [eqDeed_iff.2 rfl]
    have gG5 := cell_later (hbm.trans (hb5.mono hbm.size)) gG4
    have hlt6 : w3.heap.size < w5.heap.size := World.block_lt_of_cell? w5 _ gG5
    have hB5 : Below w.heap.size w w5 := hB4a.trans (hb5.mono hB4a.size)
    clear hb5 hB4a hbm gG4 hlt5 hB4 HX
    by_cases hce : (checkF e).1 = 0
    · have h1 := HPe.out
      rw [print_good hce] at h1
      injection h1 with e1 h1
      injection h1 with e2 e3
      subst e1 e2 e3
      have hsd := sameDeed_any (HD.out.later hB5) (HE.out.later hB5) hm hn
      by_cases hde : d = e
      · have hq := str_beq (printB d) (printB e)
        rw [decide_eq_true (congrArg printB hde)] at hq
        rw [eqDeed_iff.2 hde] at hsd
        clear HPe hde
        go_wp2_with fail
        refine hsd.mono ?_
        rintro x w6 ⟨rfl, hb6⟩
        have hB6 : Below w.heap.size w w6 := hB5.trans (hb6.mono hB5.size)
        clear hb6 hsd hB5 gG5
        go_wp2_with fail
        refine (hfin _ hB6).mono ?_
        rintro x w7 ⟨xv, rfl, hX, hb7⟩
        have hB7 : Below w.heap.size w w7 := hB6.trans (hb7.mono hB6.size)
        have h64x := parse_range s
        clear hb7 hB6 hfin
        by_cases hc : (parseF s).2.1 = 0
        · have hck := parse_checked hc
          generalize parseF s = p at hc hck h64x hX ⊢
          obtain ⟨xd, c, i⟩ := p
          dsimp only at hc hck h64x hX ⊢
          subst hc
          have hxl : xd.length ≤ 9223372036854775807 := by have := check_few_ops hck; omega
          have PX := parse_print hck h64x
          have hpx := small_print hck h64x
          have HX : Hid (DeedAt w7 xv xd) := hX
          obtain ⟨xa, xcap, rfl, -⟩ := id hX
          clear hX
          have hbm : Below w7.heap.size w7 (w7.alloc (.cells #[.int .i64 0, .int .i64 i] 93)) := (Below.refl _ _).alloc (Nat.le_refl _) _
          have hB7a : Below w.heap.size w (w7.alloc (.cells #[.int .i64 0, .int .i64 i] 93)) := hB7.trans (hbm.mono hB7.size)
          go_wp2_with fail
          refine (print_any _ xd _ (HX.out.later hbm) hxl h64x (hE.later hB7a)).mono ?_
          rintro x w8 ⟨rfl, hb8⟩
          rw [print_good hck]
          have hX8 : Hid (DeedAt w8 (.slice xa xd.length xcap) xd) := HX.out.later (hbm.trans (hb8.mono hbm.size))
          have hB8 : Below w.heap.size w w8 := hB7a.trans (hb8.mono hB7a.size)
          simp only [outT]
          clear hb8 hbm hB7a HX hB7
          have hbm : Below w8.heap.size w8 (w8.alloc (.cells #[.int .i64 0, .int .i64 0] 93)) := (Below.refl _ _).alloc (Nat.le_refl _) _
          have hB8a : Below w.heap.size w (w8.alloc (.cells #[.int .i64 0, .int .i64 0] 93)) := hB8.trans (hbm.mono hB8.size)
          have kK : (w8.alloc (.cells #[.int .i64 0, .int .i64 0] 93)).cell? ⟨w8.heap.size, 0, none⟩ = some (.int .i64 0) := by simp
          have hX8a : Hid (DeedAt (w8.alloc (.cells #[.int .i64 0, .int .i64 0] 93)) (.slice xa xd.length xcap) xd) := hX8.out.later hbm
          go_wp2_with fail
          obtain ⟨W8, hW8⟩ : ∃ W8, W8 = w8.alloc (.cells #[.int .i64 0, .int .i64 0] 93) := ⟨_, rfl⟩
          rw [← hW8] at hB8a kK hX8a ⊢
          clear hW8 hbm hX8 hB8
          refine (parse_any (printB xd) W8 (by omega) (hE.later hB8a)).mono ?_
          rintro x w9 ⟨yv, rfl, hY, hb9⟩
          rw [PX] at hY ⊢
          dsimp only at hY ⊢
          have hB9 : Below w.heap.size w w9 := hB8a.trans (hb9.mono hB8a.size)
          have hX9 : Hid (DeedAt w9 (.slice xa xd.length xcap) xd) := hX8a.out.later hb9
          have kK9 := cell_later hb9 kK
          have hltk : w8.heap.size < w9.heap.size := World.block_lt_of_cell? w9 _ kK9
          have HY : Hid (DeedAt w9 yv xd) := hY
          obtain ⟨ya, ycap, rfl, -⟩ := id hY
          clear hY hb9 kK hX8a hB8a PX
          have hbm : Below w9.heap.size w9 (w9.alloc (.cells #[.int .i64 0, .int .i64 0] 93)) := (Below.refl _ _).alloc (Nat.le_refl _) _
          have hB9a : Below w.heap.size w (w9.alloc (.cells #[.int .i64 0, .int .i64 0] 93)) := hB9.trans (hbm.mono hB9.size)
          go_wp2_with fail
          refine (sameDeed_any (hX9.out.later hbm) (HY.out.later hbm) hxl hxl).mono ?_
          rintro x w10 ⟨rfl, hb10⟩
          rw [eqDeed_iff.2 rfl]
          have hB10 : Below w.heap.size w w10 := hB9a.trans (hb10.mono hB9a.size)
          clear hb10 hbm kK9 hB9 hB9a
          go_wp2_with fail
          go_ret
          exact ⟨rfl, hB10⟩
        · have hx0 := parse_fault hc
          rw [hx0] at hX
          generalize parseF s = p at hc ⊢
          obtain ⟨xd, c, i⟩ := p
          dsimp only at hc hX ⊢
          have tcx : (c != 0) = true := by simp [hc]
          obtain ⟨xa, xcap, rfl, -⟩ := id hX
          clear hx0 hX hc
          have hB8 : Below w.heap.size w (w7.alloc (.cells #[.int .i64 c, .int .i64 i] 93)) := hB7.alloc hB7.size _
          go_wp2_with fail
          go_ret
          exact ⟨rfl, hB8⟩
      · have hq := str_beq (printB d) (printB e)
        rw [decide_eq_false (fun h => hde ((print_inj HCD.out hce h64 k64).1 h))] at hq
        rw [eqDeed_of hde] at hsd
        clear HPe hde
        go_wp2_with fail
        refine hsd.mono ?_
        rintro x w6 ⟨rfl, hb6⟩
        have hB6 : Below w.heap.size w w6 := hB5.trans (hb6.mono hB5.size)
        clear hb6 hsd hB5 gG5
        go_wp2_with fail
        refine (hfin _ hB6).mono ?_
        rintro x w7 ⟨xv, rfl, hX, hb7⟩
        have hB7 : Below w.heap.size w w7 := hB6.trans (hb7.mono hB6.size)
        have h64x := parse_range s
        clear hb7 hB6 hfin
        by_cases hc : (parseF s).2.1 = 0
        · have hck := parse_checked hc
          generalize parseF s = p at hc hck h64x hX ⊢
          obtain ⟨xd, c, i⟩ := p
          dsimp only at hc hck h64x hX ⊢
          subst hc
          have hxl : xd.length ≤ 9223372036854775807 := by have := check_few_ops hck; omega
          have PX := parse_print hck h64x
          have hpx := small_print hck h64x
          have HX : Hid (DeedAt w7 xv xd) := hX
          obtain ⟨xa, xcap, rfl, -⟩ := id hX
          clear hX
          have hbm : Below w7.heap.size w7 (w7.alloc (.cells #[.int .i64 0, .int .i64 i] 93)) := (Below.refl _ _).alloc (Nat.le_refl _) _
          have hB7a : Below w.heap.size w (w7.alloc (.cells #[.int .i64 0, .int .i64 i] 93)) := hB7.trans (hbm.mono hB7.size)
          go_wp2_with fail
          refine (print_any _ xd _ (HX.out.later hbm) hxl h64x (hE.later hB7a)).mono ?_
          rintro x w8 ⟨rfl, hb8⟩
          rw [print_good hck]
          have hX8 : Hid (DeedAt w8 (.slice xa xd.length xcap) xd) := HX.out.later (hbm.trans (hb8.mono hbm.size))
          have hB8 : Below w.heap.size w w8 := hB7a.trans (hb8.mono hB7a.size)
          simp only [outT]
          clear hb8 hbm hB7a HX hB7
          have hbm : Below w8.heap.size w8 (w8.alloc (.cells #[.int .i64 0, .int .i64 0] 93)) := (Below.refl _ _).alloc (Nat.le_refl _) _
          have hB8a : Below w.heap.size w (w8.alloc (.cells #[.int .i64 0, .int .i64 0] 93)) := hB8.trans (hbm.mono hB8.size)
          have kK : (w8.alloc (.cells #[.int .i64 0, .int .i64 0] 93)).cell? ⟨w8.heap.size, 0, none⟩ = some (.int .i64 0) := by simp
          have hX8a : Hid (DeedAt (w8.alloc (.cells #[.int .i64 0, .int .i64 0] 93)) (.slice xa xd.length xcap) xd) := hX8.out.later hbm
          go_wp2_with fail
          obtain ⟨W8, hW8⟩ : ∃ W8, W8 = w8.alloc (.cells #[.int .i64 0, .int .i64 0] 93) := ⟨_, rfl⟩
          rw [← hW8] at hB8a kK hX8a ⊢
          clear hW8 hbm hX8 hB8
          refine (parse_any (printB xd) W8 (by omega) (hE.later hB8a)).mono ?_
          rintro x w9 ⟨yv, rfl, hY, hb9⟩
          rw [PX] at hY ⊢
          dsimp only at hY ⊢
          have hB9 : Below w.heap.size w w9 := hB8a.trans (hb9.mono hB8a.size)
          have hX9 : Hid (DeedAt w9 (.slice xa xd.length xcap) xd) := hX8a.out.later hb9
          have kK9 := cell_later hb9 kK
          have hltk : w8.heap.size < w9.heap.size := World.block_lt_of_cell? w9 _ kK9
          have HY : Hid (DeedAt w9 yv xd) := hY
          obtain ⟨ya, ycap, rfl, -⟩ := id hY
          clear hY hb9 kK hX8a hB8a PX
          have hbm : Below w9.heap.size w9 (w9.alloc (.cells #[.int .i64 0, .int .i64 0] 93)) := (Below.refl _ _).alloc (Nat.le_refl _) _
          have hB9a : Below w.heap.size w (w9.alloc (.cells #[.int .i64 0, .int .i64 0] 93)) := hB9.trans (hbm.mono hB9.size)
          go_wp2_with fail
          refine (sameDeed_any (hX9.out.later hbm) (HY.out.later hbm) hxl hxl).mono ?_
          rintro x w10 ⟨rfl, hb10⟩
          rw [eqDeed_iff.2 rfl]
          have hB10 : Below w.heap.size w w10 := hB9a.trans (hb10.mono hB9a.size)
          clear hb10 hbm kK9 hB9 hB9a
          go_wp2_with fail
          go_ret
          exact ⟨rfl, hB10⟩
        · have hx0 := parse_fault hc
          rw [hx0] at hX
          generalize parseF s = p at hc ⊢
          obtain ⟨xd, c, i⟩ := p
          dsimp only at hc hX ⊢
          have tcx : (c != 0) = true := by simp [hc]
          obtain ⟨xa, xcap, rfl, -⟩ := id hX
          clear hx0 hX hc
          have hB8 : Below w.heap.size w (w7.alloc (.cells #[.int .i64 c, .int .i64 i] 93)) := hB7.alloc hB7.size _
          go_wp2_with fail
          go_ret
          exact ⟨rfl, hB8⟩
    · have h1 := HPe.out
      rw [print_bad hce] at h1
      injection h1 with e1 h1
      have e2 : (checkF e).1 = ce := congrArg Prod.fst h1
      rw [e2] at hce
      have tc : (ce == 0) = false := by simp [hce]
      clear HPe h1 e1 e2 hce
      have hB6 := hB5
      go_wp2_with fail
      refine (hfin _ hB6).mono ?_
      rintro x w7 ⟨xv, rfl, hX, hb7⟩
      have hB7 : Below w.heap.size w w7 := hB6.trans (hb7.mono hB6.size)
      have h64x := parse_range s
      clear hb7 hB6 hfin
      by_cases hc : (parseF s).2.1 = 0
      · have hck := parse_checked hc
        generalize parseF s = p at hc hck h64x hX ⊢
        obtain ⟨xd, c, i⟩ := p
        dsimp only at hc hck h64x hX ⊢
        subst hc
        have hxl : xd.length ≤ 9223372036854775807 := by have := check_few_ops hck; omega
        have PX := parse_print hck h64x
        have hpx := small_print hck h64x
        have HX : Hid (DeedAt w7 xv xd) := hX
        obtain ⟨xa, xcap, rfl, -⟩ := id hX
        clear hX
        have hbm : Below w7.heap.size w7 (w7.alloc (.cells #[.int .i64 0, .int .i64 i] 93)) := (Below.refl _ _).alloc (Nat.le_refl _) _
        have hB7a : Below w.heap.size w (w7.alloc (.cells #[.int .i64 0, .int .i64 i] 93)) := hB7.trans (hbm.mono hB7.size)
        go_wp2_with fail
        refine (print_any _ xd _ (HX.out.later hbm) hxl h64x (hE.later hB7a)).mono ?_
        rintro x w8 ⟨rfl, hb8⟩
        rw [print_good hck]
        have hX8 : Hid (DeedAt w8 (.slice xa xd.length xcap) xd) := HX.out.later (hbm.trans (hb8.mono hbm.size))
        have hB8 : Below w.heap.size w w8 := hB7a.trans (hb8.mono hB7a.size)
        simp only [outT]
        clear hb8 hbm hB7a HX hB7
        have hbm : Below w8.heap.size w8 (w8.alloc (.cells #[.int .i64 0, .int .i64 0] 93)) := (Below.refl _ _).alloc (Nat.le_refl _) _
        have hB8a : Below w.heap.size w (w8.alloc (.cells #[.int .i64 0, .int .i64 0] 93)) := hB8.trans (hbm.mono hB8.size)
        have kK : (w8.alloc (.cells #[.int .i64 0, .int .i64 0] 93)).cell? ⟨w8.heap.size, 0, none⟩ = some (.int .i64 0) := by simp
        have hX8a : Hid (DeedAt (w8.alloc (.cells #[.int .i64 0, .int .i64 0] 93)) (.slice xa xd.length xcap) xd) := hX8.out.later hbm
        go_wp2_with fail
        obtain ⟨W8, hW8⟩ : ∃ W8, W8 = w8.alloc (.cells #[.int .i64 0, .int .i64 0] 93) := ⟨_, rfl⟩
        rw [← hW8] at hB8a kK hX8a ⊢
        clear hW8 hbm hX8 hB8
        refine (parse_any (printB xd) W8 (by omega) (hE.later hB8a)).mono ?_
        rintro x w9 ⟨yv, rfl, hY, hb9⟩
        rw [PX] at hY ⊢
        dsimp only at hY ⊢
        have hB9 : Below w.heap.size w w9 := hB8a.trans (hb9.mono hB8a.size)
        have hX9 : Hid (DeedAt w9 (.slice xa xd.length xcap) xd) := hX8a.out.later hb9
        have kK9 := cell_later hb9 kK
        have hltk : w8.heap.size < w9.heap.size := World.block_lt_of_cell? w9 _ kK9
        have HY : Hid (DeedAt w9 yv xd) := hY
        obtain ⟨ya, ycap, rfl, -⟩ := id hY
        clear hY hb9 kK hX8a hB8a PX
        have hbm : Below w9.heap.size w9 (w9.alloc (.cells #[.int .i64 0, .int .i64 0] 93)) := (Below.refl _ _).alloc (Nat.le_refl _) _
        have hB9a : Below w.heap.size w (w9.alloc (.cells #[.int .i64 0, .int .i64 0] 93)) := hB9.trans (hbm.mono hB9.size)
        go_wp2_with fail
        refine (sameDeed_any (hX9.out.later hbm) (HY.out.later hbm) hxl hxl).mono ?_
        rintro x w10 ⟨rfl, hb10⟩
        rw [eqDeed_iff.2 rfl]
        have hB10 : Below w.heap.size w w10 := hB9a.trans (hb10.mono hB9a.size)
        clear hb10 hbm kK9 hB9 hB9a
        go_wp2_with fail
        go_ret
        exact ⟨rfl, hB10⟩
      · have hx0 := parse_fault hc
        rw [hx0] at hX
        generalize parseF s = p at hc ⊢
        obtain ⟨xd, c, i⟩ := p
        dsimp only at hc hX ⊢
        have tcx : (c != 0) = true := by simp [hc]
        obtain ⟨xa, xcap, rfl, -⟩ := id hX
        clear hx0 hX hc
        have hB8 : Below w.heap.size w (w7.alloc (.cells #[.int .i64 c, .int .i64 i] 93)) := hB7.alloc hB7.size _
        go_wp2_with fail
        go_ret
        exact ⟨rfl, hB8⟩
  · rw [print_bad hcd]
    obtain ⟨c, i, hci⟩ : ∃ c i, checkF d = (c, i) := ⟨_, _, rfl⟩
    rw [hci] at hcd ⊢
    dsimp only at hcd ⊢
    have tc : (c == 0) = false := by simp [hcd]
    have fF : (w2.alloc (.cells #[.int .i64 c, .int .i64 i] 93)).cell? ⟨w2.heap.size, 0, none⟩ = some (.int .i64 c) := by simp
    have hB2a : Below w.heap.size w (w2.alloc (.cells #[.int .i64 c, .int .i64 i] 93)) := hB2.alloc hB2.size _
    clear hcd hci
    go_wp2_with fail
    obtain ⟨W2, hW2⟩ : ∃ W2, W2 = w2.alloc (.cells #[.int .i64 c, .int .i64 i] 93) := ⟨_, rfl⟩
    rw [← hW2] at hB2a fF ⊢
    clear hW2
    refine (print_any _ e W2 (HE.out.later hB2a) hn k64 (hE.later hB2a)).mono ?_
    rintro x w3 ⟨rfl, hb3⟩
    have hB3 : Below w.heap.size w w3 := hB2a.trans (hb3.mono hB2a.size)
    have fF3 := cell_later hb3 fF
    have hlt3 : w2.heap.size < w3.heap.size := World.block_lt_of_cell? w3 _ fF3
    simp only [outT]
    generalize printF e = pe
    obtain ⟨te, ce, ie⟩ := pe
    dsimp only
    have hB6 : Below w.heap.size w (w3.alloc (.cells #[.int .i64 ce, .int .i64 ie] 93)) := hB3.alloc hB3.size _
    clear hb3 fF hB2 hB2a hB3
    go_wp2_with fail
    obtain ⟨w6, hw6⟩ : ∃ w6, w6 = w3.alloc (.cells #[.int .i64 ce, .int .i64 ie] 93) := ⟨_, rfl⟩
    rw [← hw6] at hB6 ⊢
    clear hw6 fF3
    refine (hfin _ hB6).mono ?_
    rintro x w7 ⟨xv, rfl, hX, hb7⟩
    have hB7 : Below w.heap.size w w7 := hB6.trans (hb7.mono hB6.size)
    have h64x := parse_range s
    clear hb7 hB6 hfin
    by_cases hc : (parseF s).2.1 = 0
    · have hck := parse_checked hc
      generalize parseF s = p at hc hck h64x hX ⊢
      obtain ⟨xd, c, i⟩ := p
      dsimp only at hc hck h64x hX ⊢
      subst hc
      have hxl : xd.length ≤ 9223372036854775807 := by have := check_few_ops hck; omega
      have PX := parse_print hck h64x
      have hpx := small_print hck h64x
      have HX : Hid (DeedAt w7 xv xd) := hX
      obtain ⟨xa, xcap, rfl, -⟩ := id hX
      clear hX
      have hbm : Below w7.heap.size w7 (w7.alloc (.cells #[.int .i64 0, .int .i64 i] 93)) := (Below.refl _ _).alloc (Nat.le_refl _) _
      have hB7a : Below w.heap.size w (w7.alloc (.cells #[.int .i64 0, .int .i64 i] 93)) := hB7.trans (hbm.mono hB7.size)
      go_wp2_with fail
      refine (print_any _ xd _ (HX.out.later hbm) hxl h64x (hE.later hB7a)).mono ?_
      rintro x w8 ⟨rfl, hb8⟩
      rw [print_good hck]
      have hX8 : Hid (DeedAt w8 (.slice xa xd.length xcap) xd) := HX.out.later (hbm.trans (hb8.mono hbm.size))
      have hB8 : Below w.heap.size w w8 := hB7a.trans (hb8.mono hB7a.size)
      simp only [outT]
      clear hb8 hbm hB7a HX hB7
      have hbm : Below w8.heap.size w8 (w8.alloc (.cells #[.int .i64 0, .int .i64 0] 93)) := (Below.refl _ _).alloc (Nat.le_refl _) _
      have hB8a : Below w.heap.size w (w8.alloc (.cells #[.int .i64 0, .int .i64 0] 93)) := hB8.trans (hbm.mono hB8.size)
      have kK : (w8.alloc (.cells #[.int .i64 0, .int .i64 0] 93)).cell? ⟨w8.heap.size, 0, none⟩ = some (.int .i64 0) := by simp
      have hX8a : Hid (DeedAt (w8.alloc (.cells #[.int .i64 0, .int .i64 0] 93)) (.slice xa xd.length xcap) xd) := hX8.out.later hbm
      go_wp2_with fail
      obtain ⟨W8, hW8⟩ : ∃ W8, W8 = w8.alloc (.cells #[.int .i64 0, .int .i64 0] 93) := ⟨_, rfl⟩
      rw [← hW8] at hB8a kK hX8a ⊢
      clear hW8 hbm hX8 hB8
      refine (parse_any (printB xd) W8 (by omega) (hE.later hB8a)).mono ?_
      rintro x w9 ⟨yv, rfl, hY, hb9⟩
      rw [PX] at hY ⊢
      dsimp only at hY ⊢
      have hB9 : Below w.heap.size w w9 := hB8a.trans (hb9.mono hB8a.size)
      have hX9 : Hid (DeedAt w9 (.slice xa xd.length xcap) xd) := hX8a.out.later hb9
      have kK9 := cell_later hb9 kK
      have hltk : w8.heap.size < w9.heap.size := World.block_lt_of_cell? w9 _ kK9
      have HY : Hid (DeedAt w9 yv xd) := hY
      obtain ⟨ya, ycap, rfl, -⟩ := id hY
      clear hY hb9 kK hX8a hB8a PX
      have hbm : Below w9.heap.size w9 (w9.alloc (.cells #[.int .i64 0, .int .i64 0] 93)) := (Below.refl _ _).alloc (Nat.le_refl _) _
      have hB9a : Below w.heap.size w (w9.alloc (.cells #[.int .i64 0, .int .i64 0] 93)) := hB9.trans (hbm.mono hB9.size)
      go_wp2_with fail
      refine (sameDeed_any (hX9.out.later hbm) (HY.out.later hbm) hxl hxl).mono ?_
      rintro x w10 ⟨rfl, hb10⟩
      rw [eqDeed_iff.2 rfl]
      have hB10 : Below w.heap.size w w10 := hB9a.trans (hb10.mono hB9a.size)
      clear hb10 hbm kK9 hB9 hB9a
      go_wp2_with fail
      go_ret
      exact ⟨rfl, hB10⟩
    · have hx0 := parse_fault hc
      rw [hx0] at hX
      generalize parseF s = p at hc ⊢
      obtain ⟨xd, c, i⟩ := p
      dsimp only at hc hX ⊢
      have tcx : (c != 0) = true := by simp [hc]
      obtain ⟨xa, xcap, rfl, -⟩ := id hX
      clear hx0 hX hc
      have hB8 : Below w.heap.size w (w7.alloc (.cells #[.int .i64 c, .int .i64 i] 93)) := hB7.alloc hB7.size _
      go_wp2_with fail
      go_ret
      exact ⟨rfl, hB8⟩
end Go.Proofs.YtdohockbmphhfacDoor
