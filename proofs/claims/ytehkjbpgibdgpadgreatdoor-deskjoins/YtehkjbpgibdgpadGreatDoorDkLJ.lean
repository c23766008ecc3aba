/-
  The walks of the functions that a desk's rows hold.
-/
import Derived.Test.YtehkjbpgibdgpadGreatDoorDkKJ
namespace Go.Proofs.YtehkjbpgibdgpadGreatDoor
open Go.RowKit Go.Shelf

theorem fits_nil : Fits [] := ⟨by simp, fun i h => by simp at h⟩
theorem NumsAt.first {w : World} {v : Value} {ns : List Int} (h : NumsAt w v ns) (h1 : ns.length = 1) : ∃ b off cap, v = .slice (some ⟨b, off, none⟩) 1 cap ∧ w.cell? ⟨b, off, none⟩ = some (.int .i64 (ns.getD 0 0)) := by
  obtain ⟨a, cap, rfl, h⟩ := h
  obtain ⟨b, off, rfl, hc⟩ := h 0 (by omega)
  refine ⟨b, off, cap, by rw [h1], ?_⟩
  rw [List.getD_eq_getElem?_getD, List.getElem?_eq_getElem (by omega)]
  simpa using hc

section
variable {P : Nat → Prop} {w : World} {S : Nat} {l : List (List (List Op5))} {k m : Nat}
set_option maxRecDepth 100000 in
set_option maxHeartbeats 1000000 in
theorem stThen_no (h : StAt P w S l k m) {n : Int} (hn : ¬ (0 ≤ n ∧ n ≤ (l.length : Int))) :
    Calls Tryz.prog 61 #[.pointer (some ⟨S, 0, none⟩), .int .i64 n] w fun e w' => e = .returned (.tuple #[stV (fun _ => 0), .bool false]) ∧ Below w.heap.size w w' := by
  have hf := h.ok.few
  obtain ⟨C, vl, h⟩ := h
  have c0 := h.c0
  have hlt := h.lt
  have hlen := fun (w' : World) (hb : Below w.heap.size w w') => logLen_any (h.log.later hb)
  clear h
  by_cases h0 : n < 0
  · clear hlen hn
    go_enter Tryz.func61, Tryz.ntmps61
    go_wp2_with fail
    exact bodyPost_ret (v := .tuple #[stV (fun _ => 0), .bool false]) (by simp [results, Tryz.results61, go_sem, stV]) rfl ⟨rfl, (Below.refl _ _).alloc (Nat.le_refl _) _⟩
  · have h1 : (l.length : Int) < n := by omega
    have t2 : decide ((l.length : Int) < n) = true := by simpa using h1
    clear hn
    go_enter Tryz.func61, Tryz.ntmps61
    go_wp2_with fail
    refine (hlen _ ((Below.refl _ _).alloc (Nat.le_refl _) _)).mono ?_
    rintro e w1 ⟨rfl, rfl⟩
    clear hlen
    go_wp2_with fail
    exact bodyPost_ret (v := .tuple #[stV (fun _ => 0), .bool false]) (by simp [results, Tryz.results61, go_sem, stV]) rfl ⟨rfl, (Below.refl _ _).alloc (Nat.le_refl _) _⟩
end

section
variable {P : Nat → Prop} {w0 w : World} {B G : Nat} {t : List UInt8} {D : DSt}

set_option maxHeartbeats 400000 in
theorem rows1_s (v : Value) (hG : w.cell? ⟨G, 0, none⟩ = some (.pointer (some ⟨B, 0, none⟩))) (h : Since P w0 w B t D) (hE : EnvP P w0) (ht : t.length ≤ 900000000) :
    Calls Tryz.prog 49 #[v, .pointer (some ⟨G, 0, none⟩)] w fun e w' => e = .returned (.tuple #[]) ∧ Since P w0 w' B (t ++ (putL D).2) (putL D).1 := by
  have hc := put_s h hE (by omega)
  clear h hE
  go_enter Tryz.func49, Tryz.ntmps49
  go_wp2_with fail
  refine hc.mono ?_
  rintro e w1 ⟨rfl, h1⟩
  go_wp2_with fail
  go_end0
  exact ⟨rfl, h1⟩
set_option maxHeartbeats 400000 in
theorem rows2_s (v : Value) (hG : w.cell? ⟨G, 0, none⟩ = some (.pointer (some ⟨B, 0, none⟩))) (h : Since P w0 w B t D) (hE : EnvP P w0) (ht : t.length ≤ 900000000) :
    Calls Tryz.prog 51 #[v, .pointer (some ⟨G, 0, none⟩)] w fun e w' => e = .returned (.tuple #[]) ∧ Since P w0 w' B (t ++ (stepT D ⟨2, [], [], 0⟩).2) (stepT D ⟨2, [], [], 0⟩).1 := by
  have hc := step_s (x := ⟨2, [], [], 0⟩) h hE (roundAt_nil w) fits_nil r64_nil (nums_nil w) (fun e => by cases e) (by omega)
  clear h hE
  dsimp only at hc
  go_enter Tryz.func51, Tryz.ntmps51
  go_wp2_with fail
  refine hc.mono ?_
  rintro e w1 ⟨rfl, h1⟩
  go_wp2_with fail
  go_end0
  exact ⟨rfl, h1⟩
set_option maxHeartbeats 400000 in
theorem rows3_s {v : Value} {ns : List Int} (hn : NumsAt w v ns) (hG : w.cell? ⟨G, 0, none⟩ = some (.pointer (some ⟨B, 0, none⟩))) (h : Since P w0 w B t D) (hE : EnvP P w0) (ht : t.length ≤ 900000000) :
    Calls Tryz.prog 53 #[v, .pointer (some ⟨G, 0, none⟩)] w fun e w' => e = .returned (.tuple #[]) ∧ Since P w0 w' B (t ++ (stepT D ⟨3, [], ns, 0⟩).2) (stepT D ⟨3, [], ns, 0⟩).1 := by
  have hc := step_s (x := ⟨3, [], ns, 0⟩) h hE (roundAt_nil w) fits_nil r64_nil hn (fun e => by cases e) (by omega)
  obtain ⟨a, cap, rfl, -⟩ := hn
  clear h hE
  dsimp only at hc
  generalize (stepT D ⟨3, [], ns, 0⟩).2 = t2 at *
  generalize (stepT D ⟨3, [], ns, 0⟩).1 = D2 at *
  generalize ns.length = n at *
  go_enter Tryz.func53, Tryz.ntmps53
  go_wp2_with fail
  refine hc.mono ?_
  rintro e w1 ⟨rfl, h1⟩
  go_wp2_with fail
  go_end0
  exact ⟨rfl, h1⟩
set_option maxRecDepth 100000 in
set_option maxHeartbeats 1000000 in
theorem rows4_s {v : Value} {ns : List Int} (hn : NumsAt w v ns) (h1 : ns.length = 1) (hG : w.cell? ⟨G, 0, none⟩ = some (.pointer (some ⟨B, 0, none⟩))) (h : Since P w0 w B t D) (hE : EnvP P w0) (ht : t.length ≤ 900000000) :
    Calls Tryz.prog 54 #[v, .pointer (some ⟨G, 0, none⟩)] w fun e w' => e = .returned (.tuple #[]) ∧ Since P w0 w' B (t ++ (stepT D ⟨4, [], [], ns.getD 0 0⟩).2) (stepT D ⟨4, [], [], ns.getD 0 0⟩).1 := by
  have hc := step_s (x := ⟨4, [], [], ns.getD 0 0⟩) (h.later (Below.refl _ _).drew) hE (roundAt_nil _) fits_nil r64_nil (nums_nil _) (fun e => by cases e) (by omega)
  obtain ⟨b, off, cap, rfl, hcell⟩ := hn.first h1
  clear h hE hn h1
  dsimp only at hc
  generalize (stepT D ⟨4, [], [], ns.getD 0 0⟩).2 = t2 at *
  generalize (stepT D ⟨4, [], [], ns.getD 0 0⟩).1 = D2 at *
  generalize ns.getD 0 0 = x at *
  go_enter Tryz.func54, Tryz.ntmps54
  go_wp2_with fail
  go_region_with (go_at_call 52; refine hc.mono ?_; rintro e w1 ⟨rfl, h1⟩)
  all_goals go_wp2_with fail
  all_goals go_end0
  all_goals exact ⟨rfl, h1⟩
set_option maxRecDepth 100000 in
set_option maxHeartbeats 1000000 in
theorem rows5_s (v : Value) (hG : w.cell? ⟨G, 0, none⟩ = some (.pointer (some ⟨B, 0, none⟩))) (h : Since P w0 w B t D) (hE : EnvP P w0) (ht : t.length ≤ 900000000) :
    Calls Tryz.prog 55 #[v, .pointer (some ⟨G, 0, none⟩)] w fun e w' => e = .returned (.tuple #[]) ∧ Since P w0 w' B (t ++ stateT (stN D.l D.m)) D := by
  obtain ⟨c, S, va, vb, vd, vs, hk⟩ := id h.desk
  have c2 := hk.c2
  have hs := stState_any (hk.st.later (Below.refl _ _).drew)
  have hc : ∀ w1, Below w.drew.heap.size w.drew w1 → _ := fun w1 hb => state_s ((h.later (Below.refl _ _).drew).later hb) hE (stN D.l D.m) (stN_64 hk.ok.l64 D.m) (by omega)
  have hGd : w.drew.cell? ⟨G, 0, none⟩ = some (.pointer (some ⟨B, 0, none⟩)) := hG
  simp only [stV] at hs hc
  generalize stN D.l D.m = s at *
  clear hk h hE
  go_enter Tryz.func55, Tryz.ntmps55
  go_wp2_with fail
  go_region_with (first | (go_at_call 57; refine hs.mono ?_; rintro e w1 ⟨rfl, hb1⟩; have z0 := cell_later hb1 hGd) | (go_at_call 56; refine (hc _ hb1).mono ?_; rintro e w2 ⟨rfl, h2⟩))
  all_goals go_wp2_with fail
  all_goals go_end0
  all_goals exact ⟨rfl, h2⟩
set_option maxHeartbeats 400000 in
theorem rows6_s (v : Value) (hG : w.cell? ⟨G, 0, none⟩ = some (.pointer (some ⟨B, 0, none⟩))) (h : Since P w0 w B t D) (hE : EnvP P w0) (ht : t.length ≤ 900000000) :
    Calls Tryz.prog 58 #[v, .pointer (some ⟨G, 0, none⟩)] w fun e w' => e = .returned (.tuple #[]) ∧ Since P w0 w' B (t ++ lastT D.l D.m) D := by
  have hc := last_s h hE ht
  clear h hE
  go_enter Tryz.func58, Tryz.ntmps58
  go_wp2_with fail
  refine hc.mono ?_
  rintro e w1 ⟨rfl, h1⟩
  go_wp2_with fail
  go_end0
  exact ⟨rfl, h1⟩
set_option maxRecDepth 100000 in
set_option maxHeartbeats 1000000 in
theorem rows7_s {v : Value} {ns : List Int} (hn : NumsAt w v ns) (h1 : ns.length = 1) (hG : w.cell? ⟨G, 0, none⟩ = some (.pointer (some ⟨B, 0, none⟩))) (h : Since P w0 w B t D) (hE : EnvP P w0) (ht : t.length ≤ 900000000) :
    Calls Tryz.prog 60 #[v, .pointer (some ⟨G, 0, none⟩)] w fun e w' => e = .returned (.tuple #[]) ∧ Since P w0 w' B (t ++ thenT D.l (ns.getD 0 0)) D := by
  obtain ⟨c, S, va, vb, vd, vs, hk⟩ := id h.desk
  have c2 := hk.c2
  obtain ⟨b, off, cap, rfl, hcell⟩ := hn.first h1
  generalize ns.getD 0 0 = x at *
  by_cases hx : 0 ≤ x ∧ x ≤ (D.l.length : Int)
  · obtain ⟨n, rfl⟩ : ∃ n : Nat, x = n := ⟨x.toNat, by omega⟩
    have hth := fun (w1 : World) (hb : Below w.heap.size w w1) => stThen_any (hk.st.later hb) (n := n) (by omega) ((h.env hE).env.lim.later hb)
    have hc := fun (w1 : World) (hb : Below w.heap.size w w1) => state_s (h.later hb) hE (stN D.l n) (stN_64 hk.ok.l64 n) (by omega)
    have eT : Hid (thenT D.l (n : Int) = stateT (stN D.l n)) := by show _ = _; rw [thenT, if_pos hx, Int.toNat_natCast]
    rw [eT.out]
    simp only [stV] at hth hc
    generalize stN D.l n = s at *
    clear hk h hE hn h1 hx eT
    go_enter Tryz.func60, Tryz.ntmps60
    go_wp2_with fail
    refine wp_region_till (S := fun w' => Below w.heap.size w w') (fun j => j == 11) (by kernel_rfl) ((Below.refl _ _).drew) (fun hS => ?_)
    refine anyT_take 0 [] (.pointer (some ⟨B, 0, none⟩)) rfl (by kernel_rfl) (by kernel_rfl) (by kernel_rfl) (by kernel_rfl) (by kernel_rfl) (fun _ _ _ h => h) (Or.inl ⟨by kernel_rfl, ?_⟩) hS ?_
    · intro w' hb'
      have z0 := cell_later hb' hG
      go_simp
    refine anyT_take 1 [2, 3, 4, 8, 9] (.pointer (some ⟨B, 0, none⟩)) rfl (by kernel_rfl) (by kernel_rfl) (by kernel_rfl) (by kernel_rfl) (by kernel_rfl) (fun _ _ _ h => h) (Or.inl ⟨by kernel_rfl, ?_⟩) hS ?_
    · intro w' hb'
      have z0 := cell_later hb' hG
      go_simp
    refine anyT_take 2 [3, 4, 8, 9] (.pointer (some ⟨B, 0, none⟩)) rfl (by kernel_rfl) (by kernel_rfl) (by kernel_rfl) (by kernel_rfl) (by kernel_rfl) (fun _ _ _ h => h) (Or.inl ⟨by kernel_rfl, ?_⟩) hS ?_
    · intro w' _
      go_simp
    refine anyT_take 3 [4, 8, 9] (.pointer (some ⟨B, 2, none⟩)) rfl (by kernel_rfl) (by kernel_rfl) (by kernel_rfl) (by kernel_rfl) (by kernel_rfl) (fun _ _ _ h => h) (Or.inl ⟨by kernel_rfl, ?_⟩) hS ?_
    · intro w' _
      go_simp
    refine anyT_take 4 [8, 9] (.pointer (some ⟨S, 0, none⟩)) rfl (by kernel_rfl) (by kernel_rfl) (by kernel_rfl) (by kernel_rfl) (by kernel_rfl) (fun _ _ _ h => h) (Or.inl ⟨by kernel_rfl, ?_⟩) hS ?_
    · intro w' hb'
      have z0 := cell_later hb' c2
      go_simp
    refine anyT_take 5 [6, 7, 8, 9] (.slice (some ⟨b, off, none⟩) 1 cap) rfl (by kernel_rfl) (by kernel_rfl) (by kernel_rfl) (by kernel_rfl) (by kernel_rfl) (fun _ _ _ h => h) (Or.inl ⟨by kernel_rfl, ?_⟩) hS ?_
    · intro w' _
      go_simp
    refine anyT_take 6 [7, 8, 9] (.pointer (some ⟨b, off, none⟩)) rfl (by kernel_rfl) (by kernel_rfl) (by kernel_rfl) (by kernel_rfl) (by kernel_rfl) (fun _ _ _ h => h) (Or.inl ⟨by kernel_rfl, ?_⟩) hS ?_
    · intro w' _
      go_simp
    refine anyT_take 7 [8, 9] (.int .i64 (n : Int)) rfl (by kernel_rfl) (by kernel_rfl) (by kernel_rfl) (by kernel_rfl) (by kernel_rfl) (fun _ _ _ h => h) (Or.inl ⟨by kernel_rfl, ?_⟩) hS ?_
    · intro w' hb'
      have z0 := cell_later hb' hcell
      go_simp
    refine anyT_ready [8] (by kernel_rfl) (by simp) ?_
    refine EachT.cons rfl (fun K hK => ?_) EachT.nil
    simp only [List.getElem_toArray, List.getElem_cons_zero, List.getElem_cons_succ]
    go_simp
    refine (hth _ hS).mono ?_
    rintro e w1 ⟨rfl, hbw1'⟩
    have hbw1 : Below w.heap.size w w1 := hS.trans (hbw1'.mono hS.size)
    clear hbw1'
    (try go_wp2_with fail)
    refine hK.out _ _ (fun _ => hbw1) ?_
    clear hK K
    refine anyT_take 9 [] (.agg #[.int .i64 (s 0), .int .i64 (s 1), .int .i64 (s 2), .int .i64 (s 3), .int .i64 (s 4), .int .i64 (s 5), .int .i64 (s 6), .int .i64 (s 7), .int .i64 (s 8), .int .i64 (s 9)]) rfl (by kernel_rfl) (by kernel_rfl) (by kernel_rfl) (by kernel_rfl) (by kernel_rfl) (fun _ _ _ h => h) (Or.inl ⟨by kernel_rfl, ?_⟩) hbw1 ?_
    · intro w' _
      go_simp
    refine anyT_take 10 [] (.bool true) rfl (by kernel_rfl) (by kernel_rfl) (by kernel_rfl) (by kernel_rfl) (by kernel_rfl) (fun _ _ _ h => h) (Or.inl ⟨by kernel_rfl, ?_⟩) hbw1 ?_
    · intro w' _
      go_simp
    refine anyT_ready [11] (by kernel_rfl) (by simp) ?_
    refine EachT.cons rfl (fun K hK => ?_) EachT.nil
    simp only [List.getElem_toArray, List.getElem_cons_zero, List.getElem_cons_succ]
    go_simp
    refine (hc _ hbw1).mono ?_
    rintro e w2 ⟨rfl, h2⟩
    (try go_wp2_with fail)
    refine hK.out _ _ (fun h => by cases h) ?_
    clear hK K
    refine anyT_done (by kernel_rfl) ?_
    go_wp2_with fail
    go_end0
    exact ⟨rfl, h2⟩
  · have hth := fun (w1 : World) (hb : Below w.heap.size w w1) => stThen_no (hk.st.later hb) hx
    have hc := fun (w1 : World) (hb : Below w.heap.size w w1) => state_no (h.later hb) hE (fun _ => 0) (by omega)
    have eT : Hid (thenT D.l x = noneT) := if_neg hx
    rw [eT.out]
    simp only [stV] at hth hc
    clear hk h hE hn h1 hx eT
    go_enter Tryz.func60, Tryz.ntmps60
    go_wp2_with fail
    refine wp_region_till (S := fun w' => Below w.heap.size w w') (fun j => j == 11) (by kernel_rfl) ((Below.refl _ _).drew) (fun hS => ?_)
    refine anyT_take 0 [] (.pointer (some ⟨B, 0, none⟩)) rfl (by kernel_rfl) (by kernel_rfl) (by kernel_rfl) (by kernel_rfl) (by kernel_rfl) (fun _ _ _ h => h) (Or.inl ⟨by kernel_rfl, ?_⟩) hS ?_
    · intro w' hb'
      have z0 := cell_later hb' hG
      go_simp
    refine anyT_take 1 [2, 3, 4, 8, 9] (.pointer (some ⟨B, 0, none⟩)) rfl (by kernel_rfl) (by kernel_rfl) (by kernel_rfl) (by kernel_rfl) (by kernel_rfl) (fun _ _ _ h => h) (Or.inl ⟨by kernel_rfl, ?_⟩) hS ?_
    · intro w' hb'
      have z0 := cell_later hb' hG
      go_simp
    refine anyT_take 2 [3, 4, 8, 9] (.pointer (some ⟨B, 0, none⟩)) rfl (by kernel_rfl) (by kernel_rfl) (by kernel_rfl) (by kernel_rfl) (by kernel_rfl) (fun _ _ _ h => h) (Or.inl ⟨by kernel_rfl, ?_⟩) hS ?_
    · intro w' _
      go_simp
    refine anyT_take 3 [4, 8, 9] (.pointer (some ⟨B, 2, none⟩)) rfl (by kernel_rfl) (by kernel_rfl) (by kernel_rfl) (by kernel_rfl) (by kernel_rfl) (fun _ _ _ h => h) (Or.inl ⟨by kernel_rfl, ?_⟩) hS ?_
    · intro w' _
      go_simp
    refine anyT_take 4 [8, 9] (.pointer (some ⟨S, 0, none⟩)) rfl (by kernel_rfl) (by kernel_rfl) (by kernel_rfl) (by kernel_rfl) (by kernel_rfl) (fun _ _ _ h => h) (Or.inl ⟨by kernel_rfl, ?_⟩) hS ?_
    · intro w' hb'
      have z0 := cell_later hb' c2
      go_simp
    refine anyT_take 5 [6, 7, 8, 9] (.slice (some ⟨b, off, none⟩) 1 cap) rfl (by kernel_rfl) (by kernel_rfl) (by kernel_rfl) (by kernel_rfl) (by kernel_rfl) (fun _ _ _ h => h) (Or.inl ⟨by kernel_rfl, ?_⟩) hS ?_
    · intro w' _
      go_simp
    refine anyT_take 6 [7, 8, 9] (.pointer (some ⟨b, off, none⟩)) rfl (by kernel_rfl) (by kernel_rfl) (by kernel_rfl) (by kernel_rfl) (by kernel_rfl) (fun _ _ _ h => h) (Or.inl ⟨by kernel_rfl, ?_⟩) hS ?_
    · intro w' _
      go_simp
    refine anyT_take 7 [8, 9] (.int .i64 x) rfl (by kernel_rfl) (by kernel_rfl) (by kernel_rfl) (by kernel_rfl) (by kernel_rfl) (fun _ _ _ h => h) (Or.inl ⟨by kernel_rfl, ?_⟩) hS ?_
    · intro w' hb'
      have z0 := cell_later hb' hcell
      go_simp
    refine anyT_ready [8] (by kernel_rfl) (by simp) ?_
    refine EachT.cons rfl (fun K hK => ?_) EachT.nil
    simp only [List.getElem_toArray, List.getElem_cons_zero, List.getElem_cons_succ]
    go_simp
    refine (hth _ hS).mono ?_
    rintro e w1 ⟨rfl, hbw1'⟩
    have hbw1 : Below w.heap.size w w1 := hS.trans (hbw1'.mono hS.size)
    clear hbw1'
    (try go_wp2_with fail)
    refine hK.out _ _ (fun _ => hbw1) ?_
    clear hK K
    refine anyT_take 9 [] (.agg #[.int .i64 0, .int .i64 0, .int .i64 0, .int .i64 0, .int .i64 0, .int .i64 0, .int .i64 0, .int .i64 0, .int .i64 0, .int .i64 0]) rfl (by kernel_rfl) (by kernel_rfl) (by kernel_rfl) (by kernel_rfl) (by kernel_rfl) (fun _ _ _ h => h) (Or.inl ⟨by kernel_rfl, ?_⟩) hbw1 ?_
    · intro w' _
      go_simp
    refine anyT_take 10 [] (.bool false) rfl (by kernel_rfl) (by kernel_rfl) (by kernel_rfl) (by kernel_rfl) (by kernel_rfl) (fun _ _ _ h => h) (Or.inl ⟨by kernel_rfl, ?_⟩) hbw1 ?_
    · intro w' _
      go_simp
    refine anyT_ready [11] (by kernel_rfl) (by simp) ?_
    refine EachT.cons rfl (fun K hK => ?_) EachT.nil
    simp only [List.getElem_toArray, List.getElem_cons_zero, List.getElem_cons_succ]
    go_simp
    refine (hc _ hbw1).mono ?_
    rintro e w2 ⟨rfl, h2⟩
    (try go_wp2_with fail)
    refine hK.out _ _ (fun h => by cases h) ?_
    clear hK K
    refine anyT_done (by kernel_rfl) ?_
    go_wp2_with fail
    go_end0
    exact ⟨rfl, h2⟩
set_option maxRecDepth 100000 in
set_option maxHeartbeats 1000000 in
theorem rows8_s {v : Value} {ns : List Int} (hn : NumsAt w v ns) (h1 : ns.length = 1) (hG : w.cell? ⟨G, 0, none⟩ = some (.pointer (some ⟨B, 0, none⟩))) (h : Since P w0 w B t D) (hE : EnvP P w0) (ht : t.length ≤ 900000000) :
    Calls Tryz.prog 62 #[v, .pointer (some ⟨G, 0, none⟩)] w fun e w' => e = .returned (.tuple #[]) ∧ Since P w0 w' B (t ++ roundT D.l (ns.getD 0 0)) D := by
  have hc := round_s (h.later (Below.refl _ _).drew) hE (ns.getD 0 0) ht
  obtain ⟨b, off, cap, rfl, hcell⟩ := hn.first h1
  clear h hE hn h1
  generalize ns.getD 0 0 = x at *
  generalize roundT D.l x = t2 at *
  go_enter Tryz.func62, Tryz.ntmps62
  go_wp2_with fail
  go_region_with (go_at_call 63; refine hc.mono ?_; rintro e w1 ⟨rfl, h1⟩)
  all_goals go_wp2_with fail
  all_goals go_end0
  all_goals exact ⟨rfl, h1⟩
set_option maxHeartbeats 400000 in
theorem rows9_s (v : Value) (hG : w.cell? ⟨G, 0, none⟩ = some (.pointer (some ⟨B, 0, none⟩))) (h : Since P w0 w B t D) (hE : EnvP P w0) (ht : t.length ≤ 900000000) :
    Calls Tryz.prog 64 #[v, .pointer (some ⟨G, 0, none⟩)] w fun e w' => e = .returned (.tuple #[]) ∧ Since P w0 w' B (t ++ manyT D) D := by
  have hc := many_s h hE ht
  clear h hE
  go_enter Tryz.func64, Tryz.ntmps64
  go_wp2_with fail
  refine hc.mono ?_
  rintro e w1 ⟨rfl, h1⟩
  go_wp2_with fail
  go_end0
  exact ⟨rfl, h1⟩
end
end Go.Proofs.YtehkjbpgibdgpadGreatDoor
