/-
  The walk of log.Open.
-/
import Derived.Test.YtokjigebjcgdjacDoorLogD
namespace Go.Proofs.YtokjigebjcgdjacDoor
open Go.RowKit

theorem LogAt.allV {P : Nat → Prop} {w : World} {C : Nat} {l : List (List (List Op5))} {k : Nat} (h : LogAt P w C l k) : ∃ a cap, w.cell? ⟨C, 0, none⟩ = some (.slice a (allB l).length cap) := by
  obtain ⟨-, va, ve, h⟩ := h
  obtain ⟨a, cap, rfl, -⟩ := owns_slice h.ra
  exact ⟨a, cap, h.c0⟩

/-- What Open answers: a log of the rounds with which bytes begin, to the first that is none, or for which there is no room. -/
def OpenOut (N : Nat) (w' : World) (C : Nat) (e : Ending) (b : List Int) : Prop :=
  ∃ x s, e = .returned (.tuple #[.pointer (some ⟨C, 0, none⟩), .int .i64 ((allB x).length : Int)]) ∧ LogAt (fun g => N ≤ g) w' C x x.length ∧ b = allB x ++ s ∧ Stops x s

set_option maxRecDepth 100000 in
set_option maxHeartbeats 2000000 in
theorem logOpen_any {v : Value} {b : List Int} {w : World} (hv : BytesAt w v b) (hb : AllB b) (hl : b.length ≤ 100000) (hL : Lim w) :
    Calls Tryd.prog 23 #[v] w fun e w' => OpenOut w.heap.size w' w.heap.size e b ∧ Below w.heap.size w w' := by
  obtain ⟨va, vcap, rfl, -⟩ := id hv
  go_enter Tryd.func23, Tryd.ntmps23
  go_wp2_with fail
  refine (logNew_any w).mono ?_
  rintro e w1 ⟨rfl, h1, hb1⟩
  go_wp2_with fail
  go_loopg [7] b.length (fun g n wr => ∃ x s, g = s.length ∧ b = allB x ++ s ∧ LogAt (fun g => w.heap.size ≤ g) wr w.heap.size x 0 ∧ Below w.heap.size w wr)
  case atStart => exact ⟨[], b, rfl, rfl, h1, hb1⟩
  case round =>
    obtain ⟨x, s, hg, hbs, hLg, hB⟩ := hrel
    clear h1 hb1
    have HB : Hid (Below w.heap.size w wr) := hB
    have HG : Hid (LogAt (fun g => w.heap.size ≤ g) wr w.heap.size x 0) := hLg
    have hvr : BytesAt wr (.slice va b.length vcap) b := hv.later hB
    have hLr := hL.later hB
    have hal : (allB x).length ≤ b.length := by rw [hbs]; simp
    have hsl : s.length = b.length - (allB x).length := by rw [hbs]; simp
    obtain ⟨sv, hsv, hS⟩ := cut_l (W := wr) hvr (m := ((allB x).length : Int)) (by omega) (by omega)
    have hsd : b.drop ((allB x).length : Int).toNat = s := by rw [hbs, Int.toNat_natCast, List.drop_left]
    rw [hsd] at hS
    have hsA : AllB s := by rw [← hsd]; exact hb.drop _
    have hdec := dec_any hS hsA (by omega) hLr
    obtain ⟨aa, acap, c0⟩ : ∃ aa acap, wr.cell? ⟨w.heap.size, 0, none⟩ = some (.slice aa (allB x).length acap) := by
      obtain ⟨-, va', ve', h⟩ := hLg
      obtain ⟨a1, c1, rfl, -⟩ := owns_slice h.ra
      exact ⟨a1, c1, h.c0⟩
    have HBS : Hid (b = allB x ++ s) := hbs
    clear hv hL hLg hB hS hbs hsd hLr
    by_cases hz : (decF s).2.2 = 0
    · obtain ⟨r, t, hD, hgood, hst⟩ := dec_good hsA hz
      rw [hD] at hdec
      have HST : Hid (s = encB r ++ t) := hst
      have hrl := hgood.len
      have hr3 := enc_pos r
      have hstl : s.length = (encB r).length + t.length := by rw [hst]; simp
      obtain ⟨sv2, hsv2, hS2⟩ := cut_lh (W := wr) hvr (m := ((allB x).length : Int)) (n := (((allB x).length : Int) + ((encB r).length : Int))) (by omega) (by omega) (by omega)
      have he : (b.take (((allB x).length : Int) + ((encB r).length : Int)).toNat).drop ((allB x).length : Int).toNat = encB r := by
        rw [HBS.out, hst, show (((allB x).length : Int) + ((encB r).length : Int)).toNat = (allB x).length + (encB r).length by omega, Int.toNat_natCast, ← List.append_assoc, ← List.length_append, List.take_left, List.drop_left]
      rw [he] at hS2
      clear hD hz hst he hsA hvr
      cases hR : roomF x (encB r).length with
      | false =>
        have HSt : Hid (Stops x s) := stops_full hgood HST.out hR
        clear hS2 hsv2
        generalize hn : (encB r).length = n at *
        go_wp2_with fail
        refine hdec.mono ?_
        rintro e w2 ⟨⟨y, rfl, hY⟩, hb2⟩
        have hG2 := HG.out.later hb2
        have hB2 : Below w.heap.size w w2 := HB.out.trans (hb2.mono HB.out.size)
        have hroom := logRoom_any hG2 (n := n) (by omega)
        rw [hR] at hroom
        clear hdec hY c0 HG HB hb2 hR hgood
        go_wp2_with fail
        refine hroom.mono ?_
        rintro e w3 ⟨rfl, rfl⟩
        clear hroom
        go_wp2_with fail
        refine (logSync_any hG2).mono ?_
        rintro e w4 ⟨rfl, hG4, hgr4⟩
        have hB4 := hgr4.below hB2 hB2.size (fun k hk => hk)
        clear hG2 hgr4 hB2
        obtain ⟨aa4, acap4, q0⟩ := hG4.allV
        go_wp2_with fail
        go_region
        all_goals go_wp2_with fail
        all_goals refine bodyPost_ret (results_tmp2 rfl _ _ _) rfl ?_
        all_goals exact ⟨⟨x, s, rfl, hG4.later (Below.refl _ _).drew, HBS.out, HSt.out⟩, hB4.drew⟩
      | true =>
        have hG1 := HG.out
        generalize hn : (encB r).length = n at *
        go_wp2_with fail
        refine hdec.mono ?_
        rintro e w2 ⟨⟨y, rfl, hY⟩, hb2⟩
        have hG2 := HG.out.later hb2
        have hB2 : Below w.heap.size w w2 := HB.out.trans (hb2.mono HB.out.size)
        have hroom := logRoom_any hG2 (n := n) (by omega)
        rw [hR] at hroom
        have hS2' := (hS2.later hb2).later (Below.refl _ _).drew
        have q0 := cell_later hb2 c0
        have hadd := logAdd_any (hG2.later (Below.refl _ _).drew) hS2' hgood (by rw [hn]; exact hR)
        clear hdec hY c0 HG HB hb2 hR hgood hS2 hS2' hG1 hG2
        go_wp2_with fail
        refine hroom.mono ?_
        rintro e w3 ⟨rfl, rfl⟩
        clear hroom
        go_wp2_with fail
        generalize (allB x).length = ax at *
        have ea : ax ≤ 100000 := by omega
        have hsv3 : ∀ w, (Instr.slice 26 (.slice va b.length vcap) (some (.int .i64 (ax : Int))) (some (.int .i64 ((ax + n : Nat) : Int))) none).run Tryd.prog w = .ok sv2 w := fun w => by
          have := hsv2 w
          rw [show ((ax : Int) + (n : Int)) = ((ax + n : Nat) : Int) by omega] at this
          exact this
        have ew : IntKind.i64.wrap ((ax : Int) + (n : Int)) = (ax : Int) + (n : Int) := by rw [IntKind.wrap_i64]; omega
        have hlt : t.length < s.length := by omega
        clear hsl hstl hn hsv hsv3
        refine wp_region_still_tail 15 (by kernel_rfl) (by kernel_rfl) ?_
        simp only [List.take_succ_cons, List.take_zero, List.drop_succ_cons, List.drop_zero]
        repeat still_step
        refine wpStill_nil ?_
        go_wp2_with fail
        refine hadd.mono ?_
        rintro e w5 ⟨rfl, hG5, hgr5⟩
        have hB5 : Below w.heap.size w w5 := hgr5.below hB2.drew hB2.size (fun k hk => hk)
        clear hadd hgr5
        go_wp2_with fail
        go_roundg t.length
        case measure => omega
        case rel => exact ⟨x ++ [r], t, rfl, by rw [allB_snoc, HBS.out, List.append_assoc, HST.out], hG5.mono fun b _ hb => hb.elim id fun hb => Nat.le_trans hB2.size hb, hB5⟩
    · have hbd := dec_bad hz
      have HSt : Hid (Stops x s) := stops_bad hz
      generalize (decF s).2.2 = c at *
      rw [hbd] at hdec
      have t0 : (c != 0) = true := by simp [hz]
      clear hbd hvr hsA
      go_wp2_with fail
      refine hdec.mono ?_
      rintro e w2 ⟨⟨y, rfl, hY⟩, hb2⟩
      have hG2 := HG.out.later hb2
      have hB2 : Below w.heap.size w w2 := HB.out.trans (hb2.mono HB.out.size)
      obtain ⟨ya, ycap, rfl, -⟩ := hY
      clear hdec c0 HG HB hb2
      go_wp2_with fail
      refine (logSync_any hG2).mono ?_
      rintro e w4 ⟨rfl, hG4, hgr4⟩
      have hB4 := hgr4.below hB2 hB2.size (fun k hk => hk)
      clear hG2 hgr4 hB2
      obtain ⟨aa4, acap4, q0⟩ := hG4.allV
      go_wp2_with fail
      go_region
      all_goals go_wp2_with fail
      all_goals refine bodyPost_ret (results_tmp2 rfl _ _ _) rfl ?_
      all_goals exact ⟨⟨x, s, rfl, hG4.later (Below.refl _ _).drew, HBS.out, HSt.out⟩, hB4.drew⟩
end Go.Proofs.YtokjigebjcgdjacDoor
