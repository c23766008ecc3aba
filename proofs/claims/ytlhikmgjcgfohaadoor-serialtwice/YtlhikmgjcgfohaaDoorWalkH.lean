/-
  The walks of serial.Do at a deed with a fault, of caracoleref.Stores and IsKey, and of serialBegun.
-/
import Derived.Test.YtlhikmgjcgfohaaDoorWalkG
namespace Go.Proofs.YtlhikmgjcgfohaaDoor
open Go.RowKit

set_option maxHeartbeats 1000000 in
theorem do_bad (v : Value) (d : List Op5) (s : Nat → Int) (w : World) (hd : DeedAt w v d) (hmax : d.length ≤ 9223372036854775807) (h0 : ¬ (checkF d).1 = 0) (hL : Lim w) :
    Calls Tryd.prog 17 #[stV s, v] w fun e w' => e = .returned (.tuple #[stV (fun _ => 0), resV 0 (fun _ => 0), .int .i64 (checkF d).1]) ∧ Below w.heap.size w w' := by
  have hchk := fun w' (hd' : DeedAt w' v d) (hL' : Lim w') => check_any v d w' hd' hmax hL'
  obtain ⟨c, hc⟩ : ∃ c, c = (checkF d).1 := ⟨_, rfl⟩
  obtain ⟨q, hq⟩ : ∃ q, q = (checkF d).2 := ⟨_, rfl⟩
  rw [← hc, ← hq] at hchk
  rw [← hc] at h0 ⊢
  have t0 : (c != 0) = true := by simp [h0]
  clear hc hq h0
  show Calls Tryd.prog 17 #[.agg #[.int .i64 (s 0), .int .i64 (s 1), .int .i64 (s 2), .int .i64 (s 3), .int .i64 (s 4), .int .i64 (s 5), .int .i64 (s 6), .int .i64 (s 7), .int .i64 (s 8), .int .i64 (s 9)], _] w _
  go_enter Tryd.func17, Tryd.ntmps17
  go_wp2_with fail
  obtain ⟨W0, e0, hB0, hsz, hS0⟩ := base_open w s
  rw [← e0]
  clear e0
  refine (hchk _ (hd.later hB0) (hL.later hB0)).mono ?_
  rintro e w1 ⟨rfl, hb1⟩
  have hB1 : Below (w.heap.size + 3) W0 w1 := hb1.mono (by omega)
  have hz1 : w.heap.size + 3 ≤ w1.heap.size := by have := hb1.size; omega
  have hlt0 : w.heap.size < w1.heap.size := by omega
  go_wp2_with fail
  obtain ⟨W3, e3⟩ : ∃ W3, W3 = w1.alloc (.cells #[.int .i64 c, .int .i64 q] 29) := ⟨_, rfl⟩
  have hB3 : Below (w.heap.size + 3) W0 W3 := by rw [e3]; exact hB1.alloc (by omega) _
  have hBw : Below w.heap.size w W3 := hB0.trans (hB3.mono (by omega))
  have hS3 := hS0.later hB3
  obtain ⟨y0, y1, y2, y3, y4, y5, y6, y7, y8, y9⟩ := hS3.ones
  obtain ⟨z0, z1, z2, z3, z4⟩ := hS3.twos
  have k4' := hS3.free1
  have k5' := hS3.free2
  have g0 : W3.cell? ⟨w1.heap.size, 0, none⟩ = some (.int .i64 c) := by rw [e3]; go_simp
  have n1 : ¬ w.heap.size + 1 = w1.heap.size := by omega
  have n2 : ¬ w.heap.size + 1 + 1 = w1.heap.size := by omega
  rw [← e3]
  clear e3 hS3 hB3 hB1 hS0 hchk
  go_region
  all_goals go_wp2_with fail
  all_goals exact bodyPost_ret (v := .tuple #[stV (fun _ => 0), resV 0 (fun _ => 0), .int .i64 c]) (by simp [results, Tryd.results17, go_sem, stV, resV, y0, y1, y2, y3, y4, y5, y6, y7, y8, y9, z0, z1, z2, z3, z4]) rfl ⟨rfl, below_res hBw (by omega) (by omega) _ _ _ _ _ _ _ _ _ _ _ _ _ _ _⟩

/-- May a deed store to a key? -/
def storesF (d : List Op5) (k : Int) : Bool := d.any fun o => o.k == 7 && o.a == k

theorem storesF_next {d : List Op5} {k : Int} {j : Nat} (h : j < d.length) (hn : (d[j].k == 7 && d[j].a == k) = false) : storesF (d.drop (j + 1)) k = storesF (d.drop j) k := by
  rw [List.drop_eq_getElem_cons h]; simp only [storesF, List.any_cons, hn, Bool.false_or]
theorem storesF_hit {d : List Op5} {k : Int} {j : Nat} (h : j < d.length) (h7 : d[j].k = 7) (ha : d[j].a = k) : storesF d k = true := by
  simp only [storesF, List.any_eq_true]
  exact ⟨d[j], List.getElem_mem h, by simp [h7, ha]⟩
theorem ret_bool {a b : Bool} (h : a = b) : Ending.returned (.bool a) = .returned (.bool b) := by rw [h]

set_option maxHeartbeats 400000 in
theorem stores_any (v : Value) (d : List Op5) (k : Int) (w : World) (hd : DeedAt w v d) (hmax : d.length ≤ 200) :
    Calls Tryd.prog 24 #[v, .int .i64 k] w fun e w' => e = .returned (.bool (storesF d k)) ∧ w' = w := by
  obtain ⟨a, cap, rfl, hd⟩ := hd
  go_enter Tryd.func24, Tryd.ntmps24
  go_wp2_with fail
  go_loopg [5] d.length (fun g i wr => ∃ j : Nat, j ≤ d.length ∧ g = d.length - j ∧ i = .int .i64 j ∧ Hid (storesF (d.drop j) k = storesF d k) ∧ wr = w)
  case atStart => exact ⟨0, by omega, by omega, rfl, rfl, rfl⟩
  case round =>
    obtain ⟨j, hj, hg, rfl, hF, rfl⟩ := hrel
    by_cases hlt : j < d.length
    · obtain ⟨b, off, rfl, c0, c1, c2, c3, c4⟩ := hd j hlt
      clear hd
      by_cases h7 : d[j].k = 7
      · have t7 : (d[j].k == 7) = true := by simp [h7]
        by_cases ha : d[j].a = k
        · have ta : (d[j].a == k) = true := by simp [ha]
          have hF' : Hid (true = storesF d k) := (storesF_hit hlt h7 ha).symm
          clear hF h7 ha
          go_wp2_with fail
          go_ret
          exact ⟨ret_bool hF'.out, rfl⟩
        · have ta : (d[j].a == k) = false := by simp [ha]
          have hF' : Hid (storesF (d.drop (j + 1)) k = storesF d k) := (storesF_next hlt (by simp [ta])).trans hF.out
          clear hF h7 ha
          go_wp2_with fail
          go_roundg (d.length - (j + 1))
          case measure => omega
          case rel => exact ⟨j + 1, by omega, rfl, by go_num, hF', rfl⟩
      · have t7 : (d[j].k == 7) = false := by simp [h7]
        have hF' : Hid (storesF (d.drop (j + 1)) k = storesF d k) := (storesF_next hlt (by simp [t7])).trans hF.out
        clear hF h7
        go_wp2_with fail
        go_roundg (d.length - (j + 1))
        case measure => omega
        case rel => exact ⟨j + 1, by omega, rfl, by go_num, hF', rfl⟩
    · obtain rfl : j = d.length := by omega
      have hF' : Hid (false = storesF d k) := by
        have h := hF.out; simp only [List.drop_length, storesF, List.any_nil] at h; exact h
      clear hF hd
      go_wp2_with fail
      go_ret
      exact ⟨ret_bool hF'.out, rfl⟩

def isKeyF (k : Int) : Bool := decide (0 ≤ k) && decide (k < 10)
set_option maxHeartbeats 400000 in
theorem isKey_any (k : Int) (w : World) : Calls Tryd.prog 25 #[.int .i64 k] w fun e w' => e = .returned (.bool (isKeyF k)) ∧ w' = w := by
  by_cases h0 : 0 ≤ k
  · by_cases h1 : k < 10
    · have hF : Hid (true = isKeyF k) := by show _ = _; simp [isKeyF, h0, h1]
      go_enter Tryd.func25, Tryd.ntmps25
      go_wp2_with fail
      go_ret
      exact ⟨ret_bool hF.out, rfl⟩
    · have hF : Hid (false = isKeyF k) := by show _ = _; simp [isKeyF, h1]
      go_enter Tryd.func25, Tryd.ntmps25
      go_wp2_with fail
      go_ret
      exact ⟨ret_bool hF.out, rfl⟩
  · have hF : Hid (false = isKeyF k) := by show _ = _; simp [isKeyF, h0]
    go_enter Tryd.func25, Tryd.ntmps25
    go_wp2_with fail
    go_ret
    exact ⟨ret_bool hF.out, rfl⟩

/-- The deed that serialBegun does. -/
def B3 : List Op5 := [⟨2, 1, 3, 0, 0⟩, ⟨3, 0, 1, 1, 0⟩, ⟨7, 2, 0, 0, 0⟩]
def sB : Nat → Int := fun i => if i = 3 then 7 else 0
theorem checkB3 : (checkF B3).1 = 0 := by decide
theorem deedB3 (w : World) : DeedAt (w.alloc (.cells #[.int .i64 2, .int .i64 1, .int .i64 3, .int .i64 0, .int .i64 0, .int .i64 3, .int .i64 0, .int .i64 1, .int .i64 1, .int .i64 0, .int .i64 7, .int .i64 2, .int .i64 0, .int .i64 0, .int .i64 0] 34)) (.slice (some ⟨w.heap.size, 0, none⟩) 3 3) B3 := by
  refine ⟨_, 3, rfl, fun i hi => ⟨w.heap.size, 0, rfl, ?_⟩⟩
  have h : i = 0 ∨ i = 1 ∨ i = 2 := by simp [B3] at hi; omega
  rcases h with rfl | rfl | rfl <;> refine ⟨?_, ?_, ?_, ?_, ?_⟩ <;> simp [B3]
theorem doB3 : (doF sB B3).st 2 = 14 ∧ (doF sB B3).st 3 = 7 ∧ (doF sB B3).regs 1 = 7 := by
  have h : doF sB B3 = ⟨putAt sB 2 14, 0, putAt (putAt (fun _ => 0) 1 7) 0 14⟩ := by
    have ha : arithF 3 7 7 = 14 := by unfold arithF; rw [if_pos rfl]; exact IntWalk.wrap64_in 14 ⟨by omega, by omega⟩
    unfold doF
    have r1 : runF sB B3 ⟨putAt (fun _ => 0) 1 7, sB, 1⟩ = runF sB B3 ⟨fun _ => 0, sB, 0⟩ := runF_step (s := sB) (d := B3) (r := ⟨fun _ => 0, sB, 0⟩) (show 0 < 3 by omega) (by simp [B3])
    have r2 : runF sB B3 ⟨putAt (putAt (fun _ => 0) 1 7) 0 (arithF 3 7 7), sB, 2⟩ = runF sB B3 ⟨putAt (fun _ => 0) 1 7, sB, 1⟩ := runF_step (s := sB) (d := B3) (r := ⟨putAt (fun _ => 0) 1 7, sB, 1⟩) (show 1 < 3 by omega) (by simp [B3])
    have r3 : runF sB B3 ⟨putAt (putAt (fun _ => 0) 1 7) 0 14, putAt sB 2 14, 3⟩ = runF sB B3 ⟨putAt (putAt (fun _ => 0) 1 7) 0 14, sB, 2⟩ := runF_step (s := sB) (d := B3) (r := ⟨putAt (putAt (fun _ => 0) 1 7) 0 14, sB, 2⟩) (show 2 < 3 by omega) (by simp [B3])
    rw [ha] at r2
    rw [← r1, ← r2, ← r3, runF_end (show ¬ 3 < 3 by omega)]
  rw [h]
  exact ⟨rfl, rfl, rfl⟩

set_option maxHeartbeats 400000 in
theorem begun_any (w : World) (hL : Lim w) : Calls Tryd.prog 14 #[] w fun e w' => e = .returned (.bool true) ∧ Below w.heap.size w w' := by
  have hdo := fun w' (hd' : DeedAt w' (.slice (some ⟨w.heap.size, 0, none⟩) 3 3) B3) (hL' : Lim w') => do_good (.slice (some ⟨w.heap.size, 0, none⟩) 3 3) B3 sB w' hd' checkB3 hL'
  obtain ⟨e2, e3, e1⟩ := doB3
  obtain ⟨o, ho⟩ : ∃ o, o = doF sB B3 := ⟨_, rfl⟩
  rw [← ho] at hdo e1 e2 e3
  clear ho
  go_enter Tryd.func14, Tryd.ntmps14
  go_wp2_with fail
  refine (hdo _ (deedB3 w) (hL.later ((Below.refl _ _).alloc (Nat.le_refl _) _))).mono ?_
  rintro e w2 ⟨he, hb2⟩
  simp only [stV, resV] at he
  subst he
  have hB2 : Below w.heap.size w w2 := ((Below.refl _ _).alloc (Nat.le_refl _) _).trans (hb2.mono (by simp))
  clear hb2 hdo
  have ha6 : arithF 6 1 2 = 1 := by decide
  go_wp2_with (go_at_call 15; refine (arith_any _ _ _ _).mono ?_; rintro e w' ⟨rfl, rfl⟩)
  go_ret
  exact ⟨rfl, (hB2.alloc hB2.size _).alloc (by have := hB2.size; simp; omega) _⟩
end Go.Proofs.YtlhikmgjcgfohaaDoor
