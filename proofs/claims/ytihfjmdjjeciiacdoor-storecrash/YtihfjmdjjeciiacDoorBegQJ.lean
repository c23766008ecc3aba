/-
  The walk of a law's storeBegun.
-/
import Derived.Test.YtihfjmdjjeciiacDoorStqDJ
import Derived.Test.YtihfjmdjjeciiacDoorStqEJ
import Derived.Test.YtihfjmdjjeciiacDoorEqAJ
import Derived.Test.YtihfjmdjjeciiacDoorRegG
namespace Go.Proofs.YtihfjmdjjeciiacDoor
open Go.RowKit Go.Shelf

def dQ : List Op5 := [⟨1, 0, 0, 0, 5⟩, ⟨7, 2, 0, 0, 0⟩]
def rQ : List (List Op5) := [dQ]
theorem fitsQ1 : Fits rQ := ⟨by simp [rQ], fun i hi => by
  obtain rfl : i = 0 := by simp [rQ] at hi; omega
  simp [rQ, dQ]⟩
theorem r64Q : R64 rQ := fun d hd o ho => by
  obtain rfl : d = dQ := by simpa [rQ] using hd
  simp only [dQ, List.mem_cons, List.not_mem_nil, or_false] at ho
  rcases ho with rfl | rfl <;> (unfold N64; dsimp only; omega)
theorem okQ : okP [] rQ = true := by decide
theorem doQ : doF (fun _ => 0) dQ = ⟨putAt (fun _ => 0) 2 5, 0, putAt (fun _ => 0) 0 5⟩ := by
  unfold doF
  rw [← runF_step (d := dQ) (r := ⟨fun _ => 0, fun _ => 0, 0⟩) (by decide) (by decide)]
  rw [← runF_step (d := dQ) (by decide) (by decide)]
  rw [runF_end (by decide)]
  rfl
theorem stQ : stN [rQ] 1 = putAt (fun _ => 0) 2 5 := by
  show (doF (fun _ => 0) dQ).st = _
  rw [doQ]
theorem roundAtQ (w : World) : RoundAt ((w.alloc (.cells #[.int .i64 1, .int .i64 0, .int .i64 0, .int .i64 0, .int .i64 5, .int .i64 7, .int .i64 2, .int .i64 0, .int .i64 0, .int .i64 0] 63)).alloc (.cells #[.slice (some ⟨w.heap.size, 0, none⟩) 2 2] 61)) (.slice (some ⟨w.heap.size + 1, 0, none⟩) 1 1) rQ := by
  refine ⟨_, 1, rfl, fun i hi => ?_⟩
  obtain rfl : i = 0 := by simp [rQ] at hi; omega
  refine ⟨w.heap.size + 1, 0, rfl, .slice (some ⟨w.heap.size, 0, none⟩) 2 2, by go_simp, ?_⟩
  refine ⟨_, 2, rfl, fun i hi => ?_⟩
  have : i = 0 ∨ i = 1 := by simp [rQ, dQ] at hi; omega
  rcases this with rfl | rfl
  · refine ⟨w.heap.size, 0, rfl, ?_, ?_, ?_, ?_, ?_⟩ <;> go_simp <;> simp [rQ, dQ]
  · refine ⟨w.heap.size, 0, rfl, ?_, ?_, ?_, ?_, ?_⟩ <;> go_simp <;> simp [rQ, dQ]
theorem nums_two (w : World) : NumsAt (w.alloc (.cells #[.int .i64 0, .int .i64 0] 3)) (.slice (some ⟨w.heap.size, 0, none⟩) 2 2) [0, 0] := by
  refine ⟨_, 2, rfl, fun i hi => ?_⟩
  have : i = 0 ∨ i = 1 := by simp at hi; omega
  rcases this with rfl | rfl
  · exact ⟨w.heap.size, 0, rfl, by go_simp⟩
  · exact ⟨w.heap.size, 0, rfl, by go_simp⟩
theorem nums_zero (w : World) : NumsAt w (.slice none 0 0) [] := ⟨none, 0, rfl, fun i hi => by simp at hi⟩
theorem round_zero (w : World) : RoundAt w (.slice none 0 0) [] := ⟨none, 0, rfl, fun i hi => by simp at hi⟩
theorem fitsQ0 : Fits ([] : List (List Op5)) := ⟨by simp, fun i hi => by simp at hi⟩
theorem r64Q0 : R64 ([] : List (List Op5)) := fun d hd => by cases hd
theorem q1 : stepQ [] 0 0 ⟨1, rQ, [], 0⟩ = ⟨0, [rQ], 0, 0⟩ := by simp [stepQ, okQ]
theorem q2 : stepQ [rQ] 0 0 ⟨3, [], [], 0⟩ = ⟨7, [rQ], 0, 0⟩ := by simp [stepQ]
theorem q3 : stepQ [rQ] 0 0 ⟨2, [], [], 0⟩ = ⟨0, [rQ], 1, 0⟩ := by simp [stepQ]
theorem q4 : stepQ [rQ] 1 0 ⟨3, [], [0, 0], 0⟩ = ⟨0, [rQ], 1, 1⟩ := by simp [stepQ]
/-- A store of the law's own. -/
def StOwn (N : Nat) (w : World) (S : Nat) (l : List (List (List Op5))) (k m : Nat) : Prop := StAt (fun b => N ≤ b) w S l k m
theorem stOwn_do {N : Nat} {w0 w : World} {S : Nat} {l : List (List (List Op5))} {k m : Nat} {rv pv : Value} {x : QStep} (h : StOwn w0.heap.size w S l k m) (hB : Below w0.heap.size w0 w) (hN : N = w0.heap.size) (hr : RoundAt w rv x.r) (fr : Fits x.r) (nr : R64 x.r) (hp : NumsAt w pv x.p) (hL : Lim w0) :
    Calls Tryd.prog 36 #[.pointer (some ⟨S, 0, none⟩), .agg #[.int .i64 x.k, rv, pv, .int .i64 x.keep]] w fun e w' => e = .returned (.int .i64 (stepQ l k m x).c) ∧ StOwn N w' S (stepQ l k m x).l (stepQ l k m x).k (stepQ l k m x).m ∧ Below w0.heap.size w0 w' := by
  subst hN
  have hz := hB.size
  have h0 := hL.pos
  refine (stDo_any h hr fr nr hp (hL.later hB) (by omega)).mono ?_
  rintro e w' ⟨rfl, h', hG⟩
  exact ⟨rfl, h'.mono fun b _ hb => hb.elim id fun hb => by omega, hG.below hB hz fun b hb => hb⟩

set_option maxRecDepth 100000 in
set_option maxHeartbeats 4000000 in
theorem begunQ_any (w : World) (hL : Lim w) :
    Calls Tryd.prog 33 #[] w fun e w' => e = .returned (.bool true) ∧ Below w.heap.size w w' := by
  go_enter Tryd.func33, Tryd.ntmps33
  go_wp2_with fail
  refine (stNew_any w).mono ?_
  rintro e w1 ⟨S, rfl, h1, hB1⟩
  have hr1 := roundAtQ w1
  have hbA : Below w1.heap.size w1 ((w1.alloc (.cells #[.int .i64 1, .int .i64 0, .int .i64 0, .int .i64 0, .int .i64 5, .int .i64 7, .int .i64 2, .int .i64 0, .int .i64 0, .int .i64 0] 63)).alloc (.cells #[.slice (some ⟨w1.heap.size, 0, none⟩) 2 2] 61)) := ((Below.refl _ _).alloc (Nat.le_refl _) _).alloc (by simp) _
  have hd1 := stOwn_do (w0 := w) (x := ⟨1, rQ, [], 0⟩) (h1.later hbA) (hB1.trans (hbA.mono hB1.size)) rfl hr1 fitsQ1 r64Q (nums_zero _) hL
  rw [q1] at hd1
  dsimp only at hd1
  clear h1 hbA hr1
  go_wp2_with fail
  refine hd1.mono ?_
  rintro e w2 ⟨rfl, h2, hB2⟩
  clear hd1 hB1
  have hd2 := stOwn_do (w0 := w) (x := ⟨3, [], [], 0⟩) h2 hB2 rfl (round_zero _) fitsQ0 r64Q0 (nums_zero _) hL
  rw [q2] at hd2
  dsimp only at hd2
  go_wp2_with fail
  refine hd2.mono ?_
  rintro e w3 ⟨rfl, h3, hB3⟩
  clear hd2 h2 hB2
  have hd3 := stOwn_do (w0 := w) (x := ⟨2, [], [], 0⟩) h3 hB3 rfl (round_zero _) fitsQ0 r64Q0 (nums_zero _) hL
  rw [q3] at hd3
  dsimp only at hd3
  go_wp2_with fail
  refine hd3.mono ?_
  rintro e w4 ⟨rfl, h4, hB4⟩
  clear hd3 h3 hB3
  have hbB : Below w4.heap.size w4 (w4.alloc (.cells #[.int .i64 0, .int .i64 0] 3)) := (Below.refl _ _).alloc (Nat.le_refl _) _
  have hd4 := stOwn_do (w0 := w) (x := ⟨3, [], [0, 0], 0⟩) (StAt.later h4 hbB) (hB4.trans (hbB.mono hB4.size)) rfl (round_zero _) fitsQ0 r64Q0 (nums_two w4) hL
  rw [q4] at hd4
  dsimp only at hd4
  clear hbB h4
  go_wp2_with fail
  refine hd4.mono ?_
  rintro e w5 ⟨rfl, h5, hB5⟩
  clear hd4 hB4
  have hth := stThen_any (n := 1) h5 (by simp) (hL.later hB5)
  obtain ⟨s, es⟩ : ∃ s, s = stN [rQ] 1 := ⟨_, rfl⟩
  have hs2 : (s 2 == 5) = true := by rw [es, stQ]; rfl
  rw [← es] at hth
  have hst : ∀ w', Below w5.heap.size w5 w' → Calls Tryd.prog 39 #[.pointer (some ⟨S, 0, none⟩)] w' fun e w'' => e = .returned (stV s) ∧ Below w'.heap.size w' w'' := fun w' hb => by rw [es]; exact stState_any (StAt.later h5 hb)
  have hdn : ∀ w', Below w5.heap.size w5 w' → Calls Tryd.prog 38 #[.pointer (some ⟨S, 0, none⟩)] w' fun e w'' => e = .returned (.int .i64 1) ∧ w'' = w' := fun w' hb => stDone_any (StAt.later h5 hb)
  have hla : ∀ w', Below w5.heap.size w5 w' → Calls Tryd.prog 41 #[.pointer (some ⟨S, 0, none⟩)] w' fun e w'' => (∃ a c, e = .returned (.slice a 1 c)) ∧ Below w'.heap.size w' w'' := fun w' hb => by
    refine (stLast_any (StAt.later h5 hb)).mono ?_
    rintro e w2 ⟨⟨u, rfl, a, c, rfl, -⟩, hb2⟩
    exact ⟨⟨a, c, rfl⟩, hb2⟩
  have hee := eq38 s
  simp only [stV] at hth hst
  clear es h5
  go_wp2_with fail
  refine hth.mono ?_
  rintro e w6 ⟨rfl, hb6⟩
  clear hth
  go_wp2_with fail
  obtain ⟨W, eW⟩ : ∃ W, W = w6.alloc (.cells #[.int .i64 (s 0), .int .i64 (s 1), .int .i64 (s 2), .int .i64 (s 3), .int .i64 (s 4), .int .i64 (s 5), .int .i64 (s 6), .int .i64 (s 7), .int .i64 (s 8), .int .i64 (s 9)] 71) := ⟨_, rfl⟩
  have hb7 : Below w5.heap.size w5 W := by rw [eW]; exact hb6.alloc hb6.size _
  have y0 : W.cell? ⟨w6.heap.size, 0, none⟩ = some (.int .i64 (s 0)) := by rw [eW]; go_simp
  have y1 : W.cell? ⟨w6.heap.size, 1, none⟩ = some (.int .i64 (s 1)) := by rw [eW]; go_simp
  have y2 : W.cell? ⟨w6.heap.size, 2, none⟩ = some (.int .i64 (s 2)) := by rw [eW]; go_simp
  have y3 : W.cell? ⟨w6.heap.size, 3, none⟩ = some (.int .i64 (s 3)) := by rw [eW]; go_simp
  have y4 : W.cell? ⟨w6.heap.size, 4, none⟩ = some (.int .i64 (s 4)) := by rw [eW]; go_simp
  have y5 : W.cell? ⟨w6.heap.size, 5, none⟩ = some (.int .i64 (s 5)) := by rw [eW]; go_simp
  have y6 : W.cell? ⟨w6.heap.size, 6, none⟩ = some (.int .i64 (s 6)) := by rw [eW]; go_simp
  have y7 : W.cell? ⟨w6.heap.size, 7, none⟩ = some (.int .i64 (s 7)) := by rw [eW]; go_simp
  have y8 : W.cell? ⟨w6.heap.size, 8, none⟩ = some (.int .i64 (s 8)) := by rw [eW]; go_simp
  have y9 : W.cell? ⟨w6.heap.size, 9, none⟩ = some (.int .i64 (s 9)) := by rw [eW]; go_simp
  have hB7 : Below w.heap.size w W := hB5.trans (hb7.mono hB5.size)
  have hs7 := hb7.size
  rw [← eW]
  clear eW hb6 hB5
  refine wp_region_till (S := fun w' => Below W.heap.size W w') (fun _ => false) (by kernel_rfl) ((Below.refl _ _).drew) (fun hS => ?_)
  refine anyT_take 0 [] (.int .i64 0) rfl (by kernel_rfl) (by kernel_rfl) (by kernel_rfl) (by kernel_rfl) (by kernel_rfl) (fun _ _ _ h => h) (Or.inl ⟨by kernel_rfl, ?_⟩) hS ?_
  · intro w' _
    go_simp
  refine anyT_take 1 [] (.bool true) rfl (by kernel_rfl) (by kernel_rfl) (by kernel_rfl) (by kernel_rfl) (by kernel_rfl) (fun _ _ _ h => h) (Or.inl ⟨by kernel_rfl, ?_⟩) hS ?_
  · intro w' _
    go_simp
  refine anyT_take 2 [] (.bool true) rfl (by kernel_rfl) (by kernel_rfl) (by kernel_rfl) (by kernel_rfl) (by kernel_rfl) (fun _ _ _ h => h) (Or.inl ⟨by kernel_rfl, ?_⟩) hS ?_
  · intro w' _
    go_simp
  refine anyT_take 3 [] (.int .i64 7) rfl (by kernel_rfl) (by kernel_rfl) (by kernel_rfl) (by kernel_rfl) (by kernel_rfl) (fun _ _ _ h => h) (Or.inl ⟨by kernel_rfl, ?_⟩) hS ?_
  · intro w' _
    go_simp
  refine anyT_take 4 [] (.bool true) rfl (by kernel_rfl) (by kernel_rfl) (by kernel_rfl) (by kernel_rfl) (by kernel_rfl) (fun _ _ _ h => h) (Or.inl ⟨by kernel_rfl, ?_⟩) hS ?_
  · intro w' _
    go_simp
  refine anyT_take 5 [] (.bool true) rfl (by kernel_rfl) (by kernel_rfl) (by kernel_rfl) (by kernel_rfl) (by kernel_rfl) (fun _ _ _ h => h) (Or.inl ⟨by kernel_rfl, ?_⟩) hS ?_
  · intro w' _
    go_simp
  refine anyT_take 6 [] (.bool true) rfl (by kernel_rfl) (by kernel_rfl) (by kernel_rfl) (by kernel_rfl) (by kernel_rfl) (fun _ _ _ h => h) (Or.inl ⟨by kernel_rfl, ?_⟩) hS ?_
  · intro w' _
    go_simp
  refine anyT_take 7 [] (.int .i64 0) rfl (by kernel_rfl) (by kernel_rfl) (by kernel_rfl) (by kernel_rfl) (by kernel_rfl) (fun _ _ _ h => h) (Or.inl ⟨by kernel_rfl, ?_⟩) hS ?_
  · intro w' _
    go_simp
  refine anyT_take 8 [] (.bool true) rfl (by kernel_rfl) (by kernel_rfl) (by kernel_rfl) (by kernel_rfl) (by kernel_rfl) (fun _ _ _ h => h) (Or.inl ⟨by kernel_rfl, ?_⟩) hS ?_
  · intro w' _
    go_simp
  refine anyT_take 9 [] (.bool true) rfl (by kernel_rfl) (by kernel_rfl) (by kernel_rfl) (by kernel_rfl) (by kernel_rfl) (fun _ _ _ h => h) (Or.inl ⟨by kernel_rfl, ?_⟩) hS ?_
  · intro w' _
    go_simp
  refine anyT_take 10 [] (.bool true) rfl (by kernel_rfl) (by kernel_rfl) (by kernel_rfl) (by kernel_rfl) (by kernel_rfl) (fun _ _ _ h => h) (Or.inl ⟨by kernel_rfl, ?_⟩) hS ?_
  · intro w' _
    go_simp
  refine anyT_take 11 [] (.int .i64 0) rfl (by kernel_rfl) (by kernel_rfl) (by kernel_rfl) (by kernel_rfl) (by kernel_rfl) (fun _ _ _ h => h) (Or.inl ⟨by kernel_rfl, ?_⟩) hS ?_
  · intro w' _
    go_simp
  refine anyT_take 12 [] (.bool true) rfl (by kernel_rfl) (by kernel_rfl) (by kernel_rfl) (by kernel_rfl) (by kernel_rfl) (fun _ _ _ h => h) (Or.inl ⟨by kernel_rfl, ?_⟩) hS ?_
  · intro w' _
    go_simp
  refine anyT_take 13 [] (.bool true) rfl (by kernel_rfl) (by kernel_rfl) (by kernel_rfl) (by kernel_rfl) (by kernel_rfl) (fun _ _ _ h => h) (Or.inl ⟨by kernel_rfl, ?_⟩) hS ?_
  · intro w' _
    go_simp
  refine anyT_take 14 [] (.bool true) rfl (by kernel_rfl) (by kernel_rfl) (by kernel_rfl) (by kernel_rfl) (by kernel_rfl) (fun _ _ _ h => h) (Or.inl ⟨by kernel_rfl, ?_⟩) hS ?_
  · intro w' _
    go_simp
  refine anyT_take 15 [] (.bool true) rfl (by kernel_rfl) (by kernel_rfl) (by kernel_rfl) (by kernel_rfl) (by kernel_rfl) (fun _ _ _ h => h) (Or.inl ⟨by kernel_rfl, ?_⟩) hS ?_
  · intro w' _
    go_simp
  refine anyT_take 16 [] (.bool true) rfl (by kernel_rfl) (by kernel_rfl) (by kernel_rfl) (by kernel_rfl) (by kernel_rfl) (fun _ _ _ h => h) (Or.inl ⟨by kernel_rfl, ?_⟩) hS ?_
  · intro w' _
    go_simp
  refine anyT_take 17 [] (.bool true) rfl (by kernel_rfl) (by kernel_rfl) (by kernel_rfl) (by kernel_rfl) (by kernel_rfl) (fun _ _ _ h => h) (Or.inl ⟨by kernel_rfl, ?_⟩) hS ?_
  · intro w' _
    go_simp
  refine anyT_take 18 [] (.agg #[.int .i64 (s 0), .int .i64 (s 1), .int .i64 (s 2), .int .i64 (s 3), .int .i64 (s 4), .int .i64 (s 5), .int .i64 (s 6), .int .i64 (s 7), .int .i64 (s 8), .int .i64 (s 9)]) rfl (by kernel_rfl) (by kernel_rfl) (by kernel_rfl) (by kernel_rfl) (by kernel_rfl) (fun _ _ _ h => h) (Or.inl ⟨by kernel_rfl, ?_⟩) hS ?_
  · intro w' hb'
    have z0 := cell_later hb' y0
    have z1 := cell_later hb' y1
    have z2 := cell_later hb' y2
    have z3 := cell_later hb' y3
    have z4 := cell_later hb' y4
    have z5 := cell_later hb' y5
    have z6 := cell_later hb' y6
    have z7 := cell_later hb' y7
    have z8 := cell_later hb' y8
    have z9 := cell_later hb' y9
    go_simp
  refine anyT_take 19 [] (.pointer (some ⟨S, 0, none⟩)) rfl (by kernel_rfl) (by kernel_rfl) (by kernel_rfl) (by kernel_rfl) (by kernel_rfl) (fun _ _ _ h => h) (Or.inl ⟨by kernel_rfl, ?_⟩) hS ?_
  · intro w' _
    go_simp
  refine anyT_ready [20] (by kernel_rfl) (by simp) ?_
  refine EachT.cons rfl (fun K hK => ?_) EachT.nil
  simp only [List.getElem_toArray, List.getElem_cons_zero, List.getElem_cons_succ]
  go_simp
  refine (hst _ (hb7.trans (hS.mono hs7))).mono ?_
  rintro e w8 ⟨rfl, hb8'⟩
  have hb8 : Below W.heap.size W w8 := hS.trans (hb8'.mono hS.size)
  (try go_wp2_with fail)
  refine hK.out _ _ (fun _ => hb8) ?_
  clear hK K
  refine anyT_take 21 [] (.bool true) rfl (by kernel_rfl) (by kernel_rfl) (by kernel_rfl) (by kernel_rfl) (by kernel_rfl) (fun _ _ _ h => h) (Or.inl ⟨by kernel_rfl, ?_⟩) hb8 ?_
  · intro w' _
    go_simp
  refine anyT_take 22 [] (.bool true) rfl (by kernel_rfl) (by kernel_rfl) (by kernel_rfl) (by kernel_rfl) (by kernel_rfl) (fun _ _ _ h => h) (Or.inl ⟨by kernel_rfl, ?_⟩) hb8 ?_
  · intro w' _
    go_simp
  refine anyT_take 23 [] (.bool true) rfl (by kernel_rfl) (by kernel_rfl) (by kernel_rfl) (by kernel_rfl) (by kernel_rfl) (fun _ _ _ h => h) (Or.inl ⟨by kernel_rfl, ?_⟩) hb8 ?_
  · intro w' _
    go_simp
  refine anyT_take 24 [] (.pointer (some ⟨w6.heap.size, 2, none⟩)) rfl (by kernel_rfl) (by kernel_rfl) (by kernel_rfl) (by kernel_rfl) (by kernel_rfl) (fun _ _ _ h => h) (Or.inl ⟨by kernel_rfl, ?_⟩) hb8 ?_
  · intro w' _
    go_simp
  refine anyT_take 25 [] (.int .i64 (s 2)) rfl (by kernel_rfl) (by kernel_rfl) (by kernel_rfl) (by kernel_rfl) (by kernel_rfl) (fun _ _ _ h => h) (Or.inl ⟨by kernel_rfl, ?_⟩) hb8 ?_
  · intro w' hb'
    have z2 := cell_later hb' y2
    go_simp
  refine anyT_take 26 [] (.bool true) rfl (by kernel_rfl) (by kernel_rfl) (by kernel_rfl) (by kernel_rfl) (by kernel_rfl) (fun _ _ _ h => h) (Or.inl ⟨by kernel_rfl, ?_⟩) hb8 ?_
  · intro w' _
    go_simp
  refine anyT_take 27 [] (.bool true) rfl (by kernel_rfl) (by kernel_rfl) (by kernel_rfl) (by kernel_rfl) (by kernel_rfl) (fun _ _ _ h => h) (Or.inl ⟨by kernel_rfl, ?_⟩) hb8 ?_
  · intro w' _
    go_simp
  refine anyT_take 28 [] (.bool true) rfl (by kernel_rfl) (by kernel_rfl) (by kernel_rfl) (by kernel_rfl) (by kernel_rfl) (fun _ _ _ h => h) (Or.inl ⟨by kernel_rfl, ?_⟩) hb8 ?_
  · intro w' _
    go_simp
  refine anyT_take 29 [] (.pointer (some ⟨S, 0, none⟩)) rfl (by kernel_rfl) (by kernel_rfl) (by kernel_rfl) (by kernel_rfl) (by kernel_rfl) (fun _ _ _ h => h) (Or.inl ⟨by kernel_rfl, ?_⟩) hb8 ?_
  · intro w' _
    go_simp
  refine anyT_ready [30] (by kernel_rfl) (by simp) ?_
  refine EachT.cons rfl (fun K hK => ?_) EachT.nil
  simp only [List.getElem_toArray, List.getElem_cons_zero, List.getElem_cons_succ]
  go_simp
  refine (hdn _ (hb7.trans (hb8.mono hs7))).mono ?_
  rintro e w9 ⟨rfl, rfl⟩
  have hb9 : Below W.heap.size W w9 := hb8
  (try go_wp2_with fail)
  refine hK.out _ _ (fun _ => hb9) ?_
  clear hK K
  refine anyT_take 31 [] (.bool true) rfl (by kernel_rfl) (by kernel_rfl) (by kernel_rfl) (by kernel_rfl) (by kernel_rfl) (fun _ _ _ h => h) (Or.inl ⟨by kernel_rfl, ?_⟩) hb9 ?_
  · intro w' _
    go_simp
  refine anyT_take 32 [] (.bool true) rfl (by kernel_rfl) (by kernel_rfl) (by kernel_rfl) (by kernel_rfl) (by kernel_rfl) (fun _ _ _ h => h) (Or.inl ⟨by kernel_rfl, ?_⟩) hb9 ?_
  · intro w' _
    go_simp
  refine anyT_take 33 [] (.bool true) rfl (by kernel_rfl) (by kernel_rfl) (by kernel_rfl) (by kernel_rfl) (by kernel_rfl) (fun _ _ _ h => h) (Or.inl ⟨by kernel_rfl, ?_⟩) hb9 ?_
  · intro w' _
    go_simp
  refine anyT_take 34 [] (.pointer (some ⟨S, 0, none⟩)) rfl (by kernel_rfl) (by kernel_rfl) (by kernel_rfl) (by kernel_rfl) (by kernel_rfl) (fun _ _ _ h => h) (Or.inl ⟨by kernel_rfl, ?_⟩) hb9 ?_
  · intro w' _
    go_simp
  refine anyT_ready [35] (by kernel_rfl) (by simp) ?_
  refine EachT.cons rfl (fun K hK => ?_) EachT.nil
  simp only [List.getElem_toArray, List.getElem_cons_zero, List.getElem_cons_succ]
  go_simp
  refine (hla _ (hb7.trans (hb9.mono hs7))).mono ?_
  rintro e w10 ⟨⟨la, lc, rfl⟩, hb10'⟩
  have hb10 : Below W.heap.size W w10 := hb9.trans (hb10'.mono hb9.size)
  (try go_wp2_with fail)
  refine hK.out _ _ (fun _ => hb10) ?_
  clear hK K
  refine anyT_take 36 [] (.int .i64 1) rfl (by kernel_rfl) (by kernel_rfl) (by kernel_rfl) (by kernel_rfl) (by kernel_rfl) (fun _ _ _ h => h) (Or.inl ⟨by kernel_rfl, ?_⟩) hb10 ?_
  · intro w' _
    go_simp
  refine anyT_take 37 [] (.bool true) rfl (by kernel_rfl) (by kernel_rfl) (by kernel_rfl) (by kernel_rfl) (by kernel_rfl) (fun _ _ _ h => h) (Or.inl ⟨by kernel_rfl, ?_⟩) hb10 ?_
  · intro w' _
    go_simp
  refine anyT_take 38 [] (.bool true) rfl (by kernel_rfl) (by kernel_rfl) (by kernel_rfl) (by kernel_rfl) (by kernel_rfl) (fun _ _ _ h => h) (Or.inl ⟨by kernel_rfl, ?_⟩) hb10 ?_
  · intro w' _
    go_simp
  refine anyT_take 39 [] (.bool true) rfl (by kernel_rfl) (by kernel_rfl) (by kernel_rfl) (by kernel_rfl) (by kernel_rfl) (fun _ _ _ h => h) (Or.inl ⟨by kernel_rfl, ?_⟩) hb10 ?_
  · intro w' _
    go_simp
  refine anyT_done (by kernel_rfl) ?_
  go_wp2_with fail
  go_ret
  exact ⟨rfl, hB7.trans (hb10.mono hB7.size)⟩
end Go.Proofs.YtihfjmdjjeciiacDoor
