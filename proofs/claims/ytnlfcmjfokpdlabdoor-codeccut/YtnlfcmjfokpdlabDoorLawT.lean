/-
  The walk of the law CodecCut.
-/
import Derived.Test.YtnlfcmjfokpdlabDoorBegC
namespace Go.Proofs.YtnlfcmjfokpdlabDoor
open Go.RowKit

set_option maxRecDepth 100000 in
set_option maxHeartbeats 4000000 in
theorem cut_any {v : Value} {r : List (List Op5)} {w : World} (c : Int) (hr : RoundAt w v r) (fr : Fits r) (hL : Lim w) :
    Calls Tryd.prog 14 #[v, .int .i64 c] w fun e w' => e = .returned (.bool true) ∧ Below w.heap.size w w' := by
  go_enter Tryd.func14, Tryd.ntmps14
  go_wp2_with fail
  refine (begun_any w hL).mono ?_
  rintro e w1 ⟨rfl, hB1⟩
  have hr1 := hr.later hB1
  go_wp2_with fail
  refine (great_any v r w1 hr1 fr).mono ?_
  rintro e w1' ⟨⟨g, rfl⟩, rfl⟩
  cases g with
  | true =>
    go_wp2_with fail
    go_ret
    exact ⟨rfl, hB1⟩
  | false =>
    go_wp2_with fail
    refine (enc_any hr1 fr (hL.later hB1)).mono ?_
    rintro e w2 ⟨⟨a, rfl, hA⟩, hb2⟩
    have hB2 : Below w.heap.size w w2 := hB1.trans (hb2.mono hB1.size)
    rcases hA with ⟨h0, hA⟩ | ⟨h0, rfl⟩
    · rw [h0]
      have hl1 : (encB r).length ≤ 1131 := by rw [encB_length]; have := bodyB_length h0; omega
      have hn1 : 0 < (encB r).length := by rw [encB_length]; omega
      have hall := encB_all h0
      have hcut := fun m (h : m < (encB r).length) => dec_cut (r := r) h
      clear hr hr1 hb2 hB1 h0
      generalize encB r = X at *
      obtain ⟨aa, acap, rfl, -⟩ := id hA
      have hw1 : IntKind.u64.wrap (X.length : Int) = X.length := by rw [IntKind.wrap_u64]; omega
      have hc0 : 0 ≤ IntKind.u64.wrap c := by rw [IntKind.wrap_u64]; omega
      have hd0 : ¬ (X.length : Int) = 0 := by omega
      have t0 : ((X.length : Int) == 0) = false := by rw [beq_eq_false_iff_ne]; exact hd0
      have hm1 : IntKind.u64.wrap c % X.length < X.length := Int.emod_lt_of_pos _ (by omega)
      have hm0 : 0 ≤ IntKind.u64.wrap c % X.length := Int.emod_nonneg _ hd0
      have hm' : (IntKind.u64.wrap c).tmod X.length = IntKind.u64.wrap c % X.length := Int.tmod_eq_emod_of_nonneg hc0
      obtain ⟨m, hM⟩ : ∃ m : Nat, IntKind.u64.wrap c % X.length = (m : Int) := ⟨(IntKind.u64.wrap c % X.length).toNat, by omega⟩
      have hm : (IntKind.u64.wrap c).tmod X.length = (m : Int) := hm'.trans hM
      rw [hM] at hm0 hm1
      clear hm' hM hc0
      have hw2 : wrap64 (m : Int) = (m : Int) := by unfold wrap64; omega
      obtain ⟨sv, hsv, hS⟩ := cut_h (P := fun _ => True) hA (n := (m : Int)) (by omega) (by omega)
      rw [Int.toNat_natCast] at hS
      have hlt : m < X.length := by omega
      have HS : Hid (BytesAt w2 sv (X.take m)) := hS
      have HC : Hid (decF (X.take m) = ([], 0, 6)) := hcut m hlt
      clear hS hcut hA
      go_wp2_with fail
      refine (dec_any HS.out (hall.take m) (by simp; omega) (hL.later hB2)).mono ?_
      rintro e w3 ⟨⟨y, rfl, -⟩, hb3⟩
      rw [HC.out]
      have hB3 : Below w.heap.size w w3 := hB2.trans (hb3.mono hB2.size)
      go_wp2_with fail
      go_ret
      exact ⟨rfl, hB3⟩
    · have t0 : (roundF r != 0) = true := by simp [h0]
      go_wp2_with fail
      go_ret
      exact ⟨rfl, hB2⟩
end Go.Proofs.YtnlfcmjfokpdlabDoor
