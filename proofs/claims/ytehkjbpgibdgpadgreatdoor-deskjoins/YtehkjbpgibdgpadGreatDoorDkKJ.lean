/-
  The walk of a desk's many.
-/
import Derived.Test.YtehkjbpgibdgpadGreatDoorJqDd
import Derived.Test.YtehkjbpgibdgpadGreatDoorJqXc
namespace Go.Proofs.YtehkjbpgibdgpadGreatDoor
open Go.RowKit Go.Shelf

theorem three_64 {a b c : Int} (ha : I64 a) (hb : I64 b) (hc : I64 c) : ∀ n ∈ [a, b, c], I64 n := fun n hn => by
  simp only [List.mem_cons, List.not_mem_nil, or_false] at hn
  rcases hn with rfl | rfl | rfl
  · exact ha
  · exact hb
  · exact hc
section
variable {P : Nat → Prop} {w0 w : World} {B : Nat} {t : List UInt8} {D : DSt}

set_option maxRecDepth 100000 in
set_option maxHeartbeats 2000000 in
theorem many_s (h : Since P w0 w B t D) (hE : EnvP P w0) (ht : t.length ≤ 900000000) :
    Calls Tryz.prog 65 #[.pointer (some ⟨B, 0, none⟩)] w fun e w' => e = .returned (.tuple #[]) ∧ Since P w0 w' B (t ++ manyT D) D := by
  obtain ⟨c, S, va, vb, vd, vs, hk⟩ := id h.desk
  have c2 := hk.c2
  have hdn : ∀ w', Below w.heap.size w w' → Calls Tryz.prog 88 #[.pointer (some ⟨S, 0, none⟩)] w' fun e w'' => e = .returned (.int .i64 (D.m : Int)) ∧ Below w'.heap.size w' w'' := fun w' hb => by
    refine (stDone_any (hk.st.later hb)).mono ?_
    rintro e w2 ⟨rfl, rfl⟩
    exact ⟨rfl, Below.refl _ _⟩
  have hfew := hk.st.ok.few
  have hsure := hk.st.ok.sure
  have hle := hk.st.le
  obtain ⟨C, vl, hst⟩ := hk.st
  have s0 := hst.c0
  have hln : ∀ w', Below w.heap.size w w' → Calls Tryz.prog 83 #[.pointer (some ⟨C, 0, none⟩)] w' fun e w'' => e = .returned (.int .i64 (D.l.length : Int)) ∧ Below w'.heap.size w' w'' := fun w' hb => by
    refine (logLen_any (hst.log.later hb)).mono ?_
    rintro e w2 ⟨rfl, rfl⟩
    exact ⟨rfl, Below.refl _ _⟩
  have hsu : ∀ w', Below w.heap.size w w' → Calls Tryz.prog 87 #[.pointer (some ⟨C, 0, none⟩)] w' fun e w'' => e = .returned (.int .i64 (D.k : Int)) ∧ Below w'.heap.size w' w'' := fun w' hb => logSure_any (hst.log.later hb)
  have hT : ∀ w', Below w.heap.size w w' → Calls Tryz.prog 44 #[.pointer (some ⟨B, 0, none⟩), .string ⟨#[109, 97, 110, 121]⟩, .slice (some ⟨w'.heap.size, 0, none⟩) 3 3] (w'.alloc (.cells #[.int .i64 (D.l.length : Int), .int .i64 (D.k : Int), .int .i64 (D.m : Int)] 2)) fun e w' => e = .returned (.tuple #[]) ∧ Since P w0 w' B (t ++ manyT D) D := fun w' hb => tell_l wMany (h.later hb) hE (three_64 ⟨by omega, by omega⟩ ⟨by omega, by omega⟩ ⟨by omega, by omega⟩) (by simp) (by decide) (by omega) _ rfl 3 rfl
  clear hk hst h hE
  generalize manyT D = mt at *
  generalize D.l.length = x at *
  generalize D.k = y at *
  generalize D.m = z at *
  go_enter Tryz.func65, Tryz.ntmps65
  go_wp2_with fail
  refine wp_region_till (S := fun w' => Below w.heap.size w w') (fun j => j == 23) (by kernel_rfl) ((Below.refl _ _).drew) (fun hS => ?_)
  refine anyT_take 0 [] (.pointer (some ⟨B, 0, none⟩)) rfl (by kernel_rfl) (by kernel_rfl) (by kernel_rfl) (by kernel_rfl) (by kernel_rfl) (fun _ _ _ h => h) (Or.inl ⟨by kernel_rfl, ?_⟩) hS ?_
  · intro w' _
    go_simp
  refine anyT_take 1 [2, 3, 4, 5, 6, 7, 8, 22] (.pointer (some ⟨B, 0, none⟩)) rfl (by kernel_rfl) (by kernel_rfl) (by kernel_rfl) (by kernel_rfl) (by kernel_rfl) (fun _ _ _ h => h) (Or.inl ⟨by kernel_rfl, ?_⟩) hS ?_
  · intro w' _
    go_simp
  refine anyT_take 2 [3, 4, 5, 6, 7, 8, 22] (.pointer (some ⟨B, 0, none⟩)) rfl (by kernel_rfl) (by kernel_rfl) (by kernel_rfl) (by kernel_rfl) (by kernel_rfl) (fun _ _ _ h => h) (Or.inl ⟨by kernel_rfl, ?_⟩) hS ?_
  · intro w' _
    go_simp
  refine anyT_take 3 [4, 5, 6, 7, 8, 22] (.pointer (some ⟨B, 2, none⟩)) rfl (by kernel_rfl) (by kernel_rfl) (by kernel_rfl) (by kernel_rfl) (by kernel_rfl) (fun _ _ _ h => h) (Or.inl ⟨by kernel_rfl, ?_⟩) hS ?_
  · intro w' _
    go_simp
  refine anyT_take 4 [5, 6, 7, 8, 22] (.pointer (some ⟨S, 0, none⟩)) rfl (by kernel_rfl) (by kernel_rfl) (by kernel_rfl) (by kernel_rfl) (by kernel_rfl) (fun _ _ _ h => h) (Or.inl ⟨by kernel_rfl, ?_⟩) hS ?_
  · intro w' hb'
    have z2 := cell_later hb' c2
    go_simp
  refine anyT_take 5 [6, 7, 8, 22] (.pointer (some ⟨S, 0, none⟩)) rfl (by kernel_rfl) (by kernel_rfl) (by kernel_rfl) (by kernel_rfl) (by kernel_rfl) (fun _ _ _ h => h) (Or.inl ⟨by kernel_rfl, ?_⟩) hS ?_
  · intro w' _
    go_simp
  refine anyT_take 6 [7, 8, 22] (.pointer (some ⟨S, 0, none⟩)) rfl (by kernel_rfl) (by kernel_rfl) (by kernel_rfl) (by kernel_rfl) (by kernel_rfl) (fun _ _ _ h => h) (Or.inl ⟨by kernel_rfl, ?_⟩) hS ?_
  · intro w' _
    go_simp
  refine anyT_take 7 [8, 22] (.pointer (some ⟨C, 0, none⟩)) rfl (by kernel_rfl) (by kernel_rfl) (by kernel_rfl) (by kernel_rfl) (by kernel_rfl) (fun _ _ _ h => h) (Or.inl ⟨by kernel_rfl, ?_⟩) hS ?_
  · intro w' hb'
    have z0 := cell_later hb' s0
    go_simp
  refine anyT_take 9 [10, 11, 12, 13, 14, 15, 16, 22] (.pointer (some ⟨B, 0, none⟩)) rfl (by kernel_rfl) (by kernel_rfl) (by kernel_rfl) (by kernel_rfl) (by kernel_rfl) (fun _ _ _ h => h) (Or.inl ⟨by kernel_rfl, ?_⟩) hS ?_
  · intro w' _
    go_simp
  refine anyT_take 10 [11, 12, 13, 14, 15, 16, 22] (.pointer (some ⟨B, 0, none⟩)) rfl (by kernel_rfl) (by kernel_rfl) (by kernel_rfl) (by kernel_rfl) (by kernel_rfl) (fun _ _ _ h => h) (Or.inl ⟨by kernel_rfl, ?_⟩) hS ?_
  · intro w' _
    go_simp
  refine anyT_take 11 [12, 13, 14, 15, 16, 22] (.pointer (some ⟨B, 2, none⟩)) rfl (by kernel_rfl) (by kernel_rfl) (by kernel_rfl) (by kernel_rfl) (by kernel_rfl) (fun _ _ _ h => h) (Or.inl ⟨by kernel_rfl, ?_⟩) hS ?_
  · intro w' _
    go_simp
  refine anyT_take 12 [13, 14, 15, 16, 22] (.pointer (some ⟨S, 0, none⟩)) rfl (by kernel_rfl) (by kernel_rfl) (by kernel_rfl) (by kernel_rfl) (by kernel_rfl) (fun _ _ _ h => h) (Or.inl ⟨by kernel_rfl, ?_⟩) hS ?_
  · intro w' hb'
    have z2 := cell_later hb' c2
    go_simp
  refine anyT_take 13 [14, 15, 16, 22] (.pointer (some ⟨S, 0, none⟩)) rfl (by kernel_rfl) (by kernel_rfl) (by kernel_rfl) (by kernel_rfl) (by kernel_rfl) (fun _ _ _ h => h) (Or.inl ⟨by kernel_rfl, ?_⟩) hS ?_
  · intro w' _
    go_simp
  refine anyT_take 14 [15, 16, 22] (.pointer (some ⟨S, 0, none⟩)) rfl (by kernel_rfl) (by kernel_rfl) (by kernel_rfl) (by kernel_rfl) (by kernel_rfl) (fun _ _ _ h => h) (Or.inl ⟨by kernel_rfl, ?_⟩) hS ?_
  · intro w' _
    go_simp
  refine anyT_take 15 [16, 22] (.pointer (some ⟨C, 0, none⟩)) rfl (by kernel_rfl) (by kernel_rfl) (by kernel_rfl) (by kernel_rfl) (by kernel_rfl) (fun _ _ _ h => h) (Or.inl ⟨by kernel_rfl, ?_⟩) hS ?_
  · intro w' hb'
    have z0 := cell_later hb' s0
    go_simp
  refine anyT_take 17 [18, 19, 20, 21, 22] (.pointer (some ⟨B, 0, none⟩)) rfl (by kernel_rfl) (by kernel_rfl) (by kernel_rfl) (by kernel_rfl) (by kernel_rfl) (fun _ _ _ h => h) (Or.inl ⟨by kernel_rfl, ?_⟩) hS ?_
  · intro w' _
    go_simp
  refine anyT_take 18 [19, 20, 21, 22] (.pointer (some ⟨B, 0, none⟩)) rfl (by kernel_rfl) (by kernel_rfl) (by kernel_rfl) (by kernel_rfl) (by kernel_rfl) (fun _ _ _ h => h) (Or.inl ⟨by kernel_rfl, ?_⟩) hS ?_
  · intro w' _
    go_simp
  refine anyT_take 19 [20, 21, 22] (.pointer (some ⟨B, 2, none⟩)) rfl (by kernel_rfl) (by kernel_rfl) (by kernel_rfl) (by kernel_rfl) (by kernel_rfl) (fun _ _ _ h => h) (Or.inl ⟨by kernel_rfl, ?_⟩) hS ?_
  · intro w' _
    go_simp
  refine anyT_take 20 [21, 22] (.pointer (some ⟨S, 0, none⟩)) rfl (by kernel_rfl) (by kernel_rfl) (by kernel_rfl) (by kernel_rfl) (by kernel_rfl) (fun _ _ _ h => h) (Or.inl ⟨by kernel_rfl, ?_⟩) hS ?_
  · intro w' hb'
    have z2 := cell_later hb' c2
    go_simp
  refine anyT_ready [8] (by kernel_rfl) (by simp) ?_
  refine EachT.cons rfl (fun K hK => ?_) EachT.nil
  simp only [List.getElem_toArray, List.getElem_cons_zero, List.getElem_cons_succ]
  go_simp
  refine (hln _ hS).mono ?_
  rintro e w1 ⟨rfl, hbw1'⟩
  have hbw1 : Below w.heap.size w w1 := hS.trans (hbw1'.mono hS.size)
  clear hbw1'
  (try go_wp2_with fail)
  refine hK.out _ _ (fun _ => hbw1) ?_
  clear hK K
  refine anyT_ready [16] (by kernel_rfl) (by simp) ?_
  refine EachT.cons rfl (fun K hK => ?_) EachT.nil
  simp only [List.getElem_toArray, List.getElem_cons_zero, List.getElem_cons_succ]
  go_simp
  refine (hsu _ hbw1).mono ?_
  rintro e w2 ⟨rfl, hbw2'⟩
  have hbw2 : Below w.heap.size w w2 := hbw1.trans (hbw2'.mono hbw1.size)
  clear hbw2'
  (try go_wp2_with fail)
  refine hK.out _ _ (fun _ => hbw2) ?_
  clear hK K
  refine anyT_ready [21] (by kernel_rfl) (by simp) ?_
  refine EachT.cons rfl (fun K hK => ?_) EachT.nil
  simp only [List.getElem_toArray, List.getElem_cons_zero, List.getElem_cons_succ]
  go_simp
  refine (hdn _ hbw2).mono ?_
  rintro e w3 ⟨rfl, hbw3'⟩
  have hbw3 : Below w.heap.size w w3 := hbw2.trans (hbw3'.mono hbw2.size)
  clear hbw3'
  (try go_wp2_with fail)
  refine hK.out _ _ (fun _ => hbw3) ?_
  clear hK K
  have hT' := hT _ hbw3
  refine anyT_ready [22] (by kernel_rfl) (by simp) ?_
  refine EachT.cons rfl (fun K hK => ?_) EachT.nil
  simp only [List.getElem_toArray, List.getElem_cons_zero, List.getElem_cons_succ]
  go_simp
  refine hK.out _ _ (fun _ => hbw3.alloc hbw3.size _) ?_
  clear hK K
  refine anyT_ready [23] (by kernel_rfl) (by simp) ?_
  refine EachT.cons rfl (fun K hK => ?_) EachT.nil
  simp only [List.getElem_toArray, List.getElem_cons_zero, List.getElem_cons_succ]
  go_simp
  refine hT'.mono ?_
  rintro e w9 ⟨rfl, h9⟩
  (try go_wp2_with fail)
  refine hK.out _ _ (fun h => by cases h) ?_
  clear hK K
  refine anyT_done (by kernel_rfl) ?_
  go_wp2_with fail
  go_end0
  exact ⟨rfl, h9⟩
end
end Go.Proofs.YtehkjbpgibdgpadGreatDoor
