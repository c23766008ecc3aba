/-
  The walk of codecBegun.
-/
import Derived.Test.YtokjigebjcgdjacDoorEncB
import Derived.Test.YtokjigebjcgdjacDoorDecA
namespace Go.Proofs.YtokjigebjcgdjacDoor
open Go.RowKit

def oC : Op5 := ⟨2, 1, 2, 0, 0⟩
def rC : List (List Op5) := [[oC]]
theorem roundC : roundF rC = 0 := by decide
theorem fitsC : Fits rC := ⟨by simp [rC], fun i hi => by
  obtain rfl : i = 0 := by simp [rC] at hi; omega
  simp [rC]⟩
theorem encC : encB rC = [5, 0, 1, 1, 2, 33, 0] := by decide
theorem r64C : R64 rC := fun d hd o ho => by
  obtain rfl : d = [oC] := by simpa [rC] using hd
  obtain rfl : o = oC := by simpa using ho
  exact ⟨by decide, by decide⟩
theorem decC : decF [5, 0, 1, 1, 2, 33, 0, 9] = (rC, 7, 0) := by
  have := dec_enc roundC r64C [9]
  rw [encC] at this
  exact this
theorem allC : AllB [5, 0, 1, 1, 2, 33, 0, 9] := by unfold AllB IsB; decide
theorem all1 : AllB [1] := by unfold AllB IsB; decide
theorem strC : strOfNums [5, 0, 1, 1, 2, 33, 0] = ⟨#[5, 0, 1, 1, 2, 33, 0]⟩ := rfl

theorem roundAtC (w : World) : RoundAt ((w.alloc (.cells #[.int .i64 2, .int .i64 1, .int .i64 2, .int .i64 0, .int .i64 0] 63)).alloc (.cells #[.slice (some ⟨w.heap.size, 0, none⟩) 1 1] 61)) (.slice (some ⟨w.heap.size + 1, 0, none⟩) 1 1) rC := by
  refine ⟨_, 1, rfl, fun i hi => ?_⟩
  obtain rfl : i = 0 := by simp [rC] at hi; omega
  refine ⟨w.heap.size + 1, 0, rfl, .slice (some ⟨w.heap.size, 0, none⟩) 1 1, ?_, _, 1, rfl, fun k hk => ⟨w.heap.size, 0, rfl, ?_⟩⟩
  · go_simp
  · obtain rfl : k = 0 := by simp [rC] at hk; omega
    exact ⟨by go_simp; rfl, by go_simp; rfl, by go_simp; rfl, by go_simp; rfl, by go_simp; rfl⟩

/-- The string of some bytes. -/
theorem BytesAt.str {w : World} {l : List Int} {a : Option Addr} {cap : Nat} (h : BytesAt w (.slice a l.length cap) l) : (convert 26 9 (.slice a l.length cap)).run Tryd.prog w = .ok (.string (strOfNums l)) w := by
  by_cases h0 : 0 < l.length
  · obtain ⟨a', cap', e, -, hc⟩ := h
    cases e
    obtain ⟨b, off, -, rfl, -⟩ := hc 0 h0
    refine run_convert_bytes_arg w 26 5 Tryd.underlying26 Tryd.underlying5 b off l.length cap l rfl (fun i hi => ?_) 9 Tryd.underlying9
    obtain ⟨b', off', -, e, hcell⟩ := hc i hi
    cases e
    rw [hcell, List.getD_eq_getElem?_getD, List.getElem?_eq_getElem hi]; rfl
  · obtain rfl : l = [] := List.eq_nil_of_length_eq_zero (by omega)
    cases a with
    | none => exact run_convert_bytes_nil w 26 5 Tryd.underlying26 Tryd.underlying5 _ _ 9 Tryd.underlying9
    | some ad =>
      show (convert 26 9 (.slice (some ad) 0 cap)).run Tryd.prog w = _
      rw [run_convert_bytes_string w 26 9 5 _ _ _ Tryd.underlying26 Tryd.underlying5 Tryd.underlying9, run_bytesToString w ad 0 cap [] (by simpa using run_loadCells_list (P := Tryd.prog) w ad [] (by simp))]
      rfl

theorem bytes_new (w : World) (l : List Int) (t : TypeId) : BytesAt (w.alloc (.cells (byteCells l).toArray t)) (.slice (some ⟨w.heap.size, 0, none⟩) l.length l.length) l :=
  ⟨_, _, rfl, Nat.le_refl _, fun i hi => ⟨w.heap.size, 0, trivial, rfl, by
    have := new_cells w l t i (.int .u8 l[i]) (by simp [byteCells, hi])
    rw [addr_add] at this; exact this⟩⟩

set_option maxRecDepth 100000 in
set_option maxHeartbeats 2000000 in
theorem begunC_any (w : World) (hL : Lim w) :
    Calls Tryd.prog 8 #[] w fun e w' => e = .returned (.bool true) ∧ Below w.heap.size w w' := by
  obtain ⟨i0, hi, hz0, hz1, hz2⟩ := info_parts infoU8
  have hR := roundAtC w
  have hB0 : Below w.heap.size w ((w.alloc (.cells #[.int .i64 2, .int .i64 1, .int .i64 2, .int .i64 0, .int .i64 0] 63)).alloc (.cells #[.slice (some ⟨w.heap.size, 0, none⟩) 1 1] 61)) := ((Below.refl _ _).alloc (Nat.le_refl _) _).alloc (by simp) _
  go_enter Tryd.func8, Tryd.ntmps8
  go_wp2_with fail
  refine (enc_any hR fitsC (hL.later hB0)).mono ?_
  rintro e w1 ⟨⟨u, rfl, hU⟩, hb1⟩
  have hB1 : Below w.heap.size w w1 := hB0.trans (hb1.mono hB0.size)
  have hU1 : BytesAt w1 u [5, 0, 1, 1, 2, 33, 0] := by
    rcases hU with ⟨-, h⟩ | ⟨h, -⟩
    · rw [encC] at h; exact h
    · exact absurd roundC h
  rw [roundC]
  clear hU hb1 hR hB0
  obtain ⟨ua, ucap, rfl, -⟩ := id hU1
  obtain ⟨ub, uoff, rfl, hUc⟩ := BytesIn.cells hU1 (by simp)
  have hN : Hid (∀ j u, (byteCells [5, 0, 1, 1, 2, 33, 0])[j]? = some u → w1.cell? ((⟨ub, uoff, none⟩ : Addr).add j) = some u) := hUc
  have HU : Hid (BytesAt w1 (.slice (some ⟨ub, uoff, none⟩) 7 ucap) [5, 0, 1, 1, 2, 33, 0]) := hU1
  clear hUc hU1
  go_wp2_with (at_builtin; first | (refine wpList_append_own _ rfl _ (.tmp 17) 26 rfl w1.heap.size 5 i0 (.int .u8 0) 1 1 Tryd.underlying26 hi hz0 hz1 hz2 rfl (by decide) _ 0 [] rfl (World.ownsRow_nil _ _ _ _) ⟨ub, uoff, none⟩ 7 ucap (byteCells [5, 0, 1, 1, 2, 33, 0]) rfl rfl hN.out (byteCells_one _) (by decide) (by omega) (Nat.le_refl _) ?_; intro v2 w2 hO2 hgrow2 hnil2; have hz2' := hgrow2.size) | (refine wpList_append_own _ rfl (.tmp 18) (.tmp 19) 26 rfl w1.heap.size 5 i0 (.int .u8 0) 1 1 Tryd.underlying26 hi hz0 hz1 hz2 rfl (by decide) v2 _ _ rfl (hO2.alloc _) ⟨w2.heap.size, 0, none⟩ 1 1 (byteCells [9]) rfl rfl (new_cells w2 [9] 5) (byteCells_one _) (by decide) (by omega) (by simp; omega) ?_; intro v3 w3 hO3 hgrow3 hnil3))
  have hb2 : Below w1.heap.size w1 w2 := (Below.refl _ _).grown hgrow2 (Nat.le_refl _) (fun k hk => by cases hk)
  have hb3 : Below w1.heap.size w1 w3 := (hb2.alloc hz2' _).grown hgrow3 (by simp; omega) (fun k hk => (hO2.lt k hk).1)
  have hV : BytesAt w3 v3 [5, 0, 1, 1, 2, 33, 0, 9] := (owns_bytes (l := [5, 0, 1, 1, 2, 33, 0, 9]) hO3).at
  have hB3 : Below w.heap.size w w3 := hB1.trans (hb3.mono hB1.size)
  have HU3 : Hid (BytesAt w3 (.slice (some ⟨ub, uoff, none⟩) 7 ucap) [5, 0, 1, 1, 2, 33, 0]) := HU.out.later hb3
  clear hgrow2 hgrow3 hnil2 hnil3 hO2 hO3 hN HU hb2 hb3 hB1 hz2'
  refine (dec_any hV allC (by simp) (hL.later hB3)).mono ?_
  rintro e w4 ⟨⟨q, rfl, hQ⟩, hb4⟩
  rw [decC] at hQ ⊢
  have hB4 : Below w.heap.size w w4 := hB3.trans (hb4.mono hB3.size)
  have HU4 := HU3.out.later hb4
  clear hb4 HU3 hV hB3
  go_wp2_with fail
  have hB5 := hB4.alloc hB4.size (.cells #[.int .u8 1] 5)
  refine (dec_any (bytes_new w4 [1] 5) all1 (by simp) (hL.later hB5)).mono ?_
  rintro e w5 ⟨⟨q', rfl, -⟩, hb5⟩
  have hB6 : Below w.heap.size w w5 := hB5.trans (hb5.mono hB5.size)
  have hb6 : Below w4.heap.size w4 w5 := ((Below.refl _ _).alloc (Nat.le_refl _) _).trans (hb5.mono (by simp))
  rw [show decF [1] = ([], 0, 6) from rfl]
  have hst : (convert 26 9 (.slice (some ⟨ub, uoff, none⟩) 7 ucap)).run Tryd.prog w5 = .ok (.string ⟨#[5, 0, 1, 1, 2, 33, 0]⟩) w5 := BytesAt.str (l := [5, 0, 1, 1, 2, 33, 0]) (HU4.later hb6)
  replace hQ := hQ.later hb6
  obtain ⟨qa, qcap, rfl, hq⟩ := hQ
  obtain ⟨qb, qoff, rfl, dv, c0, da, dcap, rfl, -⟩ := hq 0 (by simp [rC])
  have c0' : w5.cell? ⟨qb, qoff, none⟩ = some (.slice da 1 dcap) := c0
  rw [show rC.length = 1 from rfl]
  clear hq c0 hb5 hb6 hB5 hB4 HU4
  go_wp2_with fail
  go_ret
  exact ⟨rfl, hB6⟩
end Go.Proofs.YtokjigebjcgdjacDoor
