/-
  The walk of a reader's number: eight bytes, the lowest one first.
-/
import Derived.Test.YtokjigebjcgdjacDoorRdA
import Derived.Laws.Bits64b
import Derived.Laws.BitsLemmas
namespace Go.Proofs.YtokjigebjcgdjacDoor
open Go.RowKit

theorem or_byteN (V X j : Nat) (hj : j < 8) (hV : V < 256 ^ j) (hX : X < 256) : bits .or .u64 (V : Int) (IntKind.u64.wrap (IntKind.u64.wrap (X : Int) * 2 ^ (8 * j))) = ((V + X * 256 ^ j : Nat) : Int) := by
  have e : (256 : Nat) ^ j = 2 ^ (8 * j) := by rw [Nat.pow_mul]
  have h1 : IntKind.u64.wrap (X : Int) = X := by rw [IntKind.wrap_u64]; omega
  have hp : 2 ^ (8 * j) ≤ 72057594037927936 := Nat.pow_le_pow_right (n := 2) (j := 56) (by omega) (by omega)
  have hlt : X * 2 ^ (8 * j) < 18446744073709551616 := by
    have : X * 2 ^ (8 * j) ≤ 255 * 72057594037927936 := Nat.mul_le_mul (by omega) hp
    omega
  have hc : ((X * 2 ^ (8 * j) : Nat) : Int) = (X : Int) * 2 ^ (8 * j) := by simp [Int.natCast_mul, Int.natCast_pow]
  have h2 : IntKind.u64.wrap ((X : Int) * 2 ^ (8 * j)) = ((X * 2 ^ (8 * j) : Nat) : Int) := by
    rw [← hc, IntKind.wrap_u64, Int.emod_eq_of_lt (Int.natCast_nonneg _) (by omega)]
  rw [e] at hV
  rw [h1, h2, bits_or_u64_nat _ _ (by omega) hlt, Nat.or_comm, Nat.mul_comm X, ← Nat.two_pow_add_eq_or_of_lt hV, e, Nat.add_comm, Nat.mul_comm X]
/-- Bytes that are lifted to their places and laid together are their number. -/
theorem or_byte {l : List Int} (hl : AllB l) {j : Nat} (hj : j < 8) (h : j < l.length) : bits .or .u64 (valB (l.take j)) (IntKind.u64.wrap (IntKind.u64.wrap l[j] * 2 ^ (8 * j))) = valB (l.take (j + 1)) := by
  have hx := hl l[j] (List.getElem_mem h)
  have hv := valB_lt (l.take j) (hl.take j)
  have hlen : (l.take j).length = j := by simp; omega
  rw [hlen] at hv
  have hs := valB_snoc (l.take j) l[j]
  rw [hlen] at hs
  rw [List.take_succ_eq_append_getElem h, hs]
  unfold IsB at hx
  obtain ⟨V, hV⟩ := Int.eq_ofNat_of_zero_le hv.1
  obtain ⟨X, hX⟩ := Int.eq_ofNat_of_zero_le hx.1
  rw [hV] at hv ⊢
  rw [hX] at hx ⊢
  have hv' : V < 256 ^ j := by
    have h2 := hv.2
    rw [show (256 : Int) ^ j = ((256 ^ j : Nat) : Int) by simp [Int.natCast_pow]] at h2
    exact Int.ofNat_lt.1 h2
  rw [or_byteN V X j hj hv' (by omega)]
  simp [Int.natCast_add, Int.natCast_mul, Int.natCast_pow]
theorem wrap_sgn {l : List Int} (hl : AllB l) (h : l.length = 8) : wrap64 (valB l) = sgnF (valB l) := by
  have hv := valB_lt l hl
  rw [h] at hv
  have e : (256 : Int) ^ 8 = 18446744073709551616 := by decide
  rw [e] at hv
  unfold wrap64 sgnF
  split <;> omega

set_option maxHeartbeats 400000 in
theorem number_some {N C : Nat} {l : List Int} {w : World} (h : ReadAt w N C l) (h8 : 8 ≤ l.length) :
    Calls Tryd.prog 59 #[.pointer (some ⟨C, 0, none⟩)] w fun e w' => e = .returned (.int .i64 (sgnF (valB (l.take 8)))) ∧ ReadAt w' N C (l.drop 8) ∧ Grew (fun b => b = C) w w' ∧ w'.heap.size = w.heap.size := by
  go_enter Tryd.func59, Tryd.ntmps59
  go_wp2_with fail
  go_loopg [3, 5] 8 (fun g n i wr => ∃ j : Nat, j ≤ 8 ∧ g = 8 - j ∧ i = .int .i64 j ∧ n = .int .u64 (valB (l.take j)) ∧ ReadAt wr N C (l.drop j) ∧ Grew (fun b => b = C) w wr ∧ wr.heap.size = w.heap.size)
  case atStart => exact ⟨0, by omega, by omega, rfl, rfl, h, Grew.refl _ _, rfl⟩
  case round =>
    obtain ⟨j, hj, hg, rfl, rfl, hR, hG, hS⟩ := hrel
    by_cases hlt : j < 8
    · rw [List.drop_eq_getElem_cons (by omega : j < l.length)] at hR
      go_wp2_with fail
      refine (next_some hR).mono ?_
      rintro e w1 ⟨rfl, hR1, hG1, hS1⟩
      have hV := or_byte h.all hlt (by omega)
      clear hR
      go_wp2_with fail
      go_roundg (8 - (j + 1))
      case measure => omega
      case rel => exact ⟨j + 1, by omega, rfl, by go_num, rfl, hR1, hG.trans hG1, by omega⟩
    · obtain rfl : j = 8 := by omega
      have hV : Hid (wrap64 (valB (l.take 8)) = sgnF (valB (l.take 8))) := wrap_sgn (h.all.take 8) (by simp; omega)
      go_wp2_with fail
      go_ret
      exact ⟨ret_int hV.out, hR, hG, hS⟩

set_option maxHeartbeats 400000 in
theorem number_none {N C : Nat} {l : List Int} {w : World} (h : ReadAt w N C l) (h8 : l.length < 8) :
    Calls Tryd.prog 59 #[.pointer (some ⟨C, 0, none⟩)] w fun e w' => e = .panicked gave ∧ Grew (fun b => b = C) w w' := by
  go_enter Tryd.func59, Tryd.ntmps59
  go_wp2_with fail
  go_loopg [3, 5] 8 (fun g n i wr => ∃ j : Nat, j ≤ l.length ∧ g = 8 - j ∧ i = .int .i64 j ∧ n = .int .u64 (valB (l.take j)) ∧ ReadAt wr N C (l.drop j) ∧ Grew (fun b => b = C) w wr)
  case atStart => exact ⟨0, by omega, by omega, rfl, rfl, h, Grew.refl _ _⟩
  case round =>
    obtain ⟨j, hj, hg, rfl, rfl, hR, hG⟩ := hrel
    have hlt : j < 8 := by omega
    by_cases hlt' : j < l.length
    · rw [List.drop_eq_getElem_cons hlt'] at hR
      go_wp2_with fail
      refine (next_some hR).mono ?_
      rintro e w1 ⟨rfl, hR1, hG1, hS1⟩
      have hV := or_byte h.all hlt hlt'
      clear hR
      go_wp2_with fail
      go_roundg (8 - (j + 1))
      case measure => omega
      case rel => exact ⟨j + 1, by omega, rfl, by go_num, rfl, hR1, hG.trans hG1⟩
    · rw [List.drop_eq_nil_of_le (by omega)] at hR
      go_wp2_with fail
      refine (next_none hR).mono ?_
      rintro e w1 ⟨rfl, rfl⟩
      go_wp2_with fail
      exact ⟨rfl, rfl, hG⟩
end Go.Proofs.YtokjigebjcgdjacDoor
