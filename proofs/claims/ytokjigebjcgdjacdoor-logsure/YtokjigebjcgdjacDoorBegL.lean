/-
  The walk of a law's logBegun.
-/
import Derived.Test.YtokjigebjcgdjacDoorLogE
namespace Go.Proofs.YtokjigebjcgdjacDoor
open Go.RowKit

def rL1 : List (List Op5) := [[]]
theorem r64L1 : R64 rL1 := fun d hd o ho => by
  obtain rfl : d = [] := by simpa [rL1] using hd
  cases ho
theorem r64L0 : R64 ([] : List (List Op5)) := fun d hd => by cases hd
theorem fitsL1 : Fits rL1 := ⟨by simp [rL1], fun i hi => by
  obtain rfl : i = 0 := by simp [rL1] at hi; omega
  simp [rL1]⟩
theorem fitsL0 : Fits ([] : List (List Op5)) := ⟨by simp, fun i hi => by simp at hi⟩
theorem okL1 : okP [] rL1 = true := by decide
theorem okL2 : okP [rL1] [] = true := by decide
theorem wholeL : wholeF [rL1, []] 0 (max 4 0) = 1 := by decide
theorem allL : allB [rL1] = [2, 0, 1, 0] := by decide
theorem endL : endB [rL1] 1 = 4 := by decide

theorem roundAtL1 (w : World) : RoundAt ((w.alloc (.cells #[] 63)).alloc (.cells #[.slice (some ⟨w.heap.size, 0, none⟩) 0 0] 61)) (.slice (some ⟨w.heap.size + 1, 0, none⟩) 1 1) rL1 := by
  refine ⟨_, 1, rfl, fun i hi => ?_⟩
  obtain rfl : i = 0 := by simp [rL1] at hi; omega
  refine ⟨w.heap.size + 1, 0, rfl, .slice (some ⟨w.heap.size, 0, none⟩) 0 0, ?_, _, 0, rfl, fun k hk => by simp [rL1] at hk⟩
  go_simp
theorem roundAtL0 (w : World) (a : Option Addr) (cap : Nat) : RoundAt w (.slice a 0 cap) [] := ⟨a, cap, rfl, fun i hi => by simp at hi⟩

theorem PutOut.yes {P : Nat → Prop} {w' : World} {C : Nat} {e : Ending} {l : List (List (List Op5))} {k : Nat} {r : List (List Op5)} (h : PutOut P w' C e l k r) (hk : okP l r = true) : e = .returned (.tuple #[.int .i64 (l.length : Int), .int .i64 0]) ∧ LogAt P w' C (l ++ [r]) k := by
  rcases h with ⟨-, h1, h2⟩ | ⟨h, -⟩
  · exact ⟨h1, h2⟩
  · rw [hk] at h; cases h
theorem PutOut.no {P : Nat → Prop} {w' : World} {C : Nat} {e : Ending} {l : List (List (List Op5))} {k : Nat} {r : List (List Op5)} (h : PutOut P w' C e l k r) (hk : okP l r = false) : (∃ c : Int, c ≠ 0 ∧ e = .returned (.tuple #[.int .i64 0, .int .i64 c])) ∧ LogAt P w' C l k := by
  rcases h with ⟨h, -⟩ | ⟨-, c, h1, h2, h3⟩
  · rw [hk] at h; cases h
  · exact ⟨⟨c, h1, h2⟩, h3⟩
theorem RoundOut.yes {w' : World} {e : Ending} {l : List (List (List Op5))} {n : Nat} (h : RoundOut w' e l (n : Int)) (hn : n < l.length) : ∃ u, e = .returned (.tuple #[u, .bool true]) ∧ RoundAt w' u l[n] := by
  rcases h with ⟨h1, -, u, h2, h3⟩ | ⟨h1, -⟩
  · exact ⟨u, h2, h3⟩
  · omega

set_option maxRecDepth 100000 in
set_option maxHeartbeats 2000000 in
theorem begunL_any (w : World) (hL : Lim w) :
    Calls Tryd.prog 13 #[] w fun e w' => e = .returned (.bool true) ∧ Below w.heap.size w w' := by
  go_enter Tryd.func13, Tryd.ntmps13
  go_wp2_with fail
  refine (logNew_any w).mono ?_
  rintro e w1 ⟨rfl, h1, hB1⟩
  have hbA : Below w1.heap.size w1 ((w1.alloc (.cells #[] 63)).alloc (.cells #[.slice (some ⟨w1.heap.size, 0, none⟩) 0 0] 61)) := ((Below.refl _ _).alloc (Nat.le_refl _) _).alloc (by simp) _
  have hBA : Below w.heap.size w ((w1.alloc (.cells #[] 63)).alloc (.cells #[.slice (some ⟨w1.heap.size, 0, none⟩) 0 0] 61)) := hB1.trans (hbA.mono hB1.size)
  have hp1 := logPut_any (h1.later hbA) (roundAtL1 w1) fitsL1 r64L1 (hL.later hBA)
  clear h1 hbA
  go_wp2_with fail
  refine hp1.mono ?_
  rintro e w2 ⟨hO2, hG2⟩
  have hB2 : Below w.heap.size w w2 := hG2.below hBA hBA.size fun b hb => hb
  have hz := hBA.size
  obtain ⟨rfl, h2⟩ := hO2.yes okL1
  replace h2 : LogAt (fun b => w.heap.size ≤ b) w2 w.heap.size [rL1] 0 := h2.mono fun b _ hb => hb.elim id fun hb => by omega
  clear hp1 hG2 hBA hz hO2
  go_wp2_with fail
  have hbA : Below w2.heap.size w2 (w2.alloc (.cells #[] 61)) := (Below.refl _ _).alloc (Nat.le_refl _) _
  have hBA : Below w.heap.size w (w2.alloc (.cells #[] 61)) := hB2.trans (hbA.mono hB2.size)
  refine (logPut_any (h2.later hbA) (roundAtL0 _ _ _) fitsL0 r64L0 (hL.later hBA)).mono ?_
  rintro e w3 ⟨hO3, hG3⟩
  have hB3 : Below w.heap.size w w3 := hG3.below hBA hBA.size fun b hb => hb
  have hz := hBA.size
  obtain ⟨rfl, h3⟩ := hO3.yes okL2
  replace h3 : LogAt (fun b => w.heap.size ≤ b) w3 w.heap.size [rL1, []] 0 := h3.mono fun b _ hb => hb.elim id fun hb => by omega
  clear hG3 hBA hz hbA h2 hO3
  go_wp2_with fail
  refine (logRound_any h3 1 (hL.later hB3)).mono ?_
  rintro e w4 ⟨hO4, hb4⟩
  have h4 := h3.later hb4
  have hB4 : Below w.heap.size w w4 := hB3.trans (hb4.mono hB3.size)
  obtain ⟨u, rfl, hU⟩ := RoundOut.yes (n := 1) hO4 (by simp)
  obtain ⟨ua, ucap, rfl, -⟩ : ∃ ua ucap, u = .slice ua 0 ucap ∧ True := by
    obtain ⟨ua, ucap, e, -⟩ := hU
    exact ⟨ua, ucap, e, trivial⟩
  clear hU hO4 hb4 h3
  have hlen4 := logLen_any h4
  go_wp2_with fail
  refine hlen4.mono ?_
  rintro e w5 ⟨rfl, rfl⟩
  clear hlen4
  go_wp2_with fail
  refine (logCrash_any h4 4).mono ?_
  rintro e w6 ⟨rfl, h6, hG6⟩
  have hB6 : Below w.heap.size w w6 := hG6.below hB4 hB4.size fun b hb => hb
  rw [wholeL] at h6
  replace h6 : LogAt (fun b => w.heap.size ≤ b) w6 w.heap.size [rL1] 1 := h6
  clear hG6 h4
  go_wp2_with fail
  refine (logBytes_any h6).mono ?_
  rintro e w7 ⟨⟨x, rfl, hX⟩, hb7⟩
  have h7 := h6.later hb7
  have hB7 : Below w.heap.size w w7 := hB6.trans (hb7.mono hB6.size)
  rw [endL]
  rw [allL] at hX
  obtain ⟨xa, xcap, rfl, -⟩ := id hX
  have hX7 : Hid (BytesAt w7 (.slice xa 4 xcap) [2, 0, 1, 0]) := hX.at
  rw [show ([2, 0, 1, 0] : List Int).length = 4 from rfl]
  have hlen7 := logLen_any h7
  clear h6 hb7 hX
  go_wp2_with fail
  refine hlen7.mono ?_
  rintro e w8 ⟨rfl, rfl⟩
  clear hlen7
  have hsure := logSure_any h7
  go_wp2_with fail
  refine hsure.mono ?_
  rintro e w9 ⟨rfl, hb9⟩
  have hst : (convert 26 9 (.slice xa 4 xcap)).run Tryd.prog w9 = .ok (.string ⟨#[2, 0, 1, 0]⟩) w9 := BytesAt.str (l := [2, 0, 1, 0]) (hX7.out.later hb9)
  have hB9 : Below w.heap.size w w9 := hB7.trans (hb9.mono hB7.size)
  clear hsure hb9 h7
  go_wp2_with fail
  go_ret
  exact ⟨rfl, hB9⟩
end Go.Proofs.YtokjigebjcgdjacDoor
