/-
  The walk of text.printOp.
-/
import Derived.Test.YtdohockbmphhfacDoorTxH
import Derived.Test.YtdohockbmphhfacDoorRegG
import Derived.Deep.DeepCutAuto
namespace Go.Proofs.YtdohockbmphhfacDoor
open Go.RowKit

theorem numsO_three (o : Op5) : ∃ x y z, numsO o = [x, y, z] := by
  unfold numsO; split
  · exact ⟨_, _, _, rfl⟩
  · exact ⟨_, _, _, rfl⟩

set_option maxRecDepth 100000 in
set_option maxHeartbeats 8000000 in
theorem printOp_any (o : Op5) (h1 : 1 ≤ o.k) (h9 : o.k ≤ 9) (h64 : Op64 o) (b : Nat) (l : List UInt8) (w0 w : World) (hE : Env w0) (h0 : Below w0.heap.size w0 w) (hb0 : w0.heap.size ≤ b) (hB : Bd b l w) (hlen : l.length ≤ 70368744177664) :
    Calls Tryd.prog 75 #[.pointer (some ⟨b, 0, none⟩), opV o] w fun e w' => e = .returned (.tuple #[]) ∧ Bd b (l ++ opB o) w' ∧ Below b w w' ∧ Kept9 b w w' := by
  have hn64 := numsO_64 h64
  obtain ⟨x, y, z, hxyz⟩ := numsO_three o
  obtain ⟨k, hk⟩ : ∃ k : Nat, o.k = (k : Int) := ⟨o.k.toNat, by omega⟩
  have hk9 : k < 10 := by omega
  have hki : ¬ (10 : Int) ≤ (k : Int) := by omega
  have hkj : (k : Int) < 10 := by omega
  have hE1 := hE.later h0
  obtain ⟨f0, f1⟩ := hE1.form k hk9
  have ft := World.block_lt_of_cell? w _ f0
  have hlt := hB.lt
  have HOB : Hid (opB o = wordK k ++ numsB ([x, y, z].take (manyK k))) := by show _ = _; rw [opB, hk, hxyz]; rfl
  obtain ⟨ok, oa, ob, oc, on⟩ := o
  unfold opV
  dsimp only at hk h1 h9 ⊢
  subst hk
  have hnum := numbers_any (k : Int) oa ob oc on x y z hxyz
  go_enter Tryd.func75, Tryd.ntmps75
  go_wp2_with fail
  have b0 : (w.alloc (.cells #[.int .i64 (k : Int), .int .i64 oa, .int .i64 ob, .int .i64 oc, .int .i64 on] 63)).cell? ⟨w.heap.size, 0, none⟩ = some (.int .i64 (k : Int)) := by simp
  have b1 : (w.alloc (.cells #[.int .i64 (k : Int), .int .i64 oa, .int .i64 ob, .int .i64 oc, .int .i64 on] 63)).cell? ⟨w.heap.size, 1, none⟩ = some (.int .i64 oa) := by simp
  have b2 : (w.alloc (.cells #[.int .i64 (k : Int), .int .i64 oa, .int .i64 ob, .int .i64 oc, .int .i64 on] 63)).cell? ⟨w.heap.size, 2, none⟩ = some (.int .i64 ob) := by simp
  have b3 : (w.alloc (.cells #[.int .i64 (k : Int), .int .i64 oa, .int .i64 ob, .int .i64 oc, .int .i64 on] 63)).cell? ⟨w.heap.size, 3, none⟩ = some (.int .i64 oc) := by simp
  have b4 : (w.alloc (.cells #[.int .i64 (k : Int), .int .i64 oa, .int .i64 ob, .int .i64 oc, .int .i64 on] 63)).cell? ⟨w.heap.size, 4, none⟩ = some (.int .i64 on) := by simp
  have hbW : Below w.heap.size w (w.alloc (.cells #[.int .i64 (k : Int), .int .i64 oa, .int .i64 ob, .int .i64 oc, .int .i64 on] 63)) := (Below.refl _ _).alloc (Nat.le_refl _) _
  replace f0 := cell_later hbW f0
  replace f1 := cell_later hbW f1
  have hzW : (w.alloc (.cells #[.int .i64 (k : Int), .int .i64 oa, .int .i64 ob, .int .i64 oc, .int .i64 on] 63)).heap.size = w.heap.size + 1 := by simp
  obtain ⟨W0, hW0⟩ : ∃ W0, W0 = w.alloc (.cells #[.int .i64 (k : Int), .int .i64 oa, .int .i64 ob, .int .i64 oc, .int .i64 on] 63) := ⟨_, rfl⟩
  rw [← hW0] at b0 b1 b2 b3 b4 hbW f0 f1 hzW ⊢
  clear hW0
  go_cut [4, 5] from 7 (fun p4 p5 wc => ∃ F N, p4 = .pointer (some ⟨F, 0, none⟩) ∧ p5 = .pointer (some ⟨N, 0, none⟩) ∧ W0.heap.size ≤ F ∧ W0.heap.size ≤ N ∧ Blk wc F #[.string (strB (wordK k)), .int .i64 ((manyK k : Nat) : Int)] 157 ∧ Blk wc N #[.int .i64 x, .int .i64 y, .int .i64 z] 159 ∧ Below W0.heap.size W0 wc)
  case first =>
    refine wp_region_till (S := fun w' => Below W0.heap.size W0 w') (fun _ => false) (by kernel_rfl) ((Below.refl _ _).drew) (fun hS => ?_)
    refine anyT_take 0 [] (.pointer (some ⟨w.heap.size, 0, none⟩)) rfl (by kernel_rfl) (by kernel_rfl) (by kernel_rfl) (by kernel_rfl) (by kernel_rfl) (fun _ _ _ h => h) (Or.inl ⟨by kernel_rfl, ?_⟩) hS ?_
    · intro w' hb'
      go_simp
    refine anyT_take 1 [] (.int .i64 (k : Int)) rfl (by kernel_rfl) (by kernel_rfl) (by kernel_rfl) (by kernel_rfl) (by kernel_rfl) (fun _ _ _ h => h) (Or.inl ⟨by kernel_rfl, ?_⟩) hS ?_
    · intro w' hb'
      have g0 := cell_later hb' b0
      go_simp
    refine anyT_take 2 [] (.pointer (some ⟨2, k * 2, none⟩)) rfl (by kernel_rfl) (by kernel_rfl) (by kernel_rfl) (by kernel_rfl) (by kernel_rfl) (fun _ _ _ h => h) (Or.inl ⟨by kernel_rfl, ?_⟩) hS ?_
    · intro w' hb'
      go_simp
    refine anyT_take 3 [] (.agg #[.string (strB (wordK k)), .int .i64 ((manyK k : Nat) : Int)]) rfl (by kernel_rfl) (by kernel_rfl) (by kernel_rfl) (by kernel_rfl) (by kernel_rfl) (fun _ _ _ h => h) (Or.inl ⟨by kernel_rfl, ?_⟩) hS ?_
    · intro w' hb'
      have g0 := cell_later hb' f0
      have g1 := cell_later hb' f1
      go_simp
    refine anyT_take 4 [] (.agg #[.int .i64 (k : Int), .int .i64 oa, .int .i64 ob, .int .i64 oc, .int .i64 on]) rfl (by kernel_rfl) (by kernel_rfl) (by kernel_rfl) (by kernel_rfl) (by kernel_rfl) (fun _ _ _ h => h) (Or.inl ⟨by kernel_rfl, ?_⟩) hS ?_
    · intro w' hb'
      have g0 := cell_later hb' b0
      have g1 := cell_later hb' b1
      have g2 := cell_later hb' b2
      have g3 := cell_later hb' b3
      have g4 := cell_later hb' b4
      go_simp
    obtain ⟨v0, hv0⟩ : ∃ v0, v0 = W0.drew := ⟨_, rfl⟩
    rw [← hv0] at hS ⊢
    clear hv0
    refine anyT_ready [5, 6, 7] (by kernel_rfl) (by simp) ?_
    refine EachT.cons rfl (fun K hK => ?_) (EachT.cons rfl (fun K hK => ?_) (EachT.cons rfl (fun K hK => ?_) (EachT.nil)))
    · simp only [List.getElem_toArray, List.getElem_cons_zero, List.getElem_cons_succ]
      go_simp
      refine (hnum v0).mono ?_
      rintro e v1 ⟨rfl, hu⟩
      have hb : Below v0.heap.size v0 v1 := by rw [hu]; exact below_alloc2 _ _ _
      clear hu
      replace hS : Below W0.heap.size W0 v1 := hS.trans (hb.mono hS.size)
      (try go_wp2_with fail)
      refine hK.out _ _ (fun _ => hS) ?_
      clear hK K hb
      refine anyT_ready [6, 7] (by kernel_rfl) (by simp) ?_
      refine EachT.cons rfl (fun K hK => ?_) (EachT.cons rfl (fun K hK => ?_) (EachT.nil))
      · simp only [List.getElem_toArray, List.getElem_cons_zero, List.getElem_cons_succ]
        go_simp
        obtain ⟨v2, hu⟩ : ∃ u, u = v1.alloc (.cells #[.string ⟨#[]⟩, .int .i64 0] 157) := ⟨_, rfl⟩
        have hb : Below v1.heap.size v1 v2 := by rw [hu]; exact (Below.refl _ _).alloc (Nat.le_refl _) _
        have hFx : Blk v2 v1.heap.size #[.string ⟨#[]⟩, .int .i64 0] 157 := by rw [hu]; exact blk_new _ _ _
        rw [← hu]
        clear hu
        have hsz := hS.size
        replace hS : Below W0.heap.size W0 v2 := hS.trans (hb.mono hS.size)
        obtain ⟨Fn, hFn⟩ : ∃ n, n = v1.heap.size := ⟨_, rfl⟩
        rw [← hFn] at hFx ⊢
        have hF := hFx
        have hFnl : W0.heap.size ≤ Fn := by omega
        clear hFx hFn hsz
        refine hK.out _ _ (fun _ => hS) ?_
        clear hK K hb
        refine anyT_ready [7] (by kernel_rfl) (by simp) ?_
        refine EachT.cons rfl (fun K hK => ?_) (EachT.nil)
        · simp only [List.getElem_toArray, List.getElem_cons_zero, List.getElem_cons_succ]
          go_simp
          obtain ⟨v3, hu⟩ : ∃ u, u = v2.alloc (.cells #[.int .i64 0, .int .i64 0, .int .i64 0] 159) := ⟨_, rfl⟩
          have hb : Below v2.heap.size v2 v3 := by rw [hu]; exact (Below.refl _ _).alloc (Nat.le_refl _) _
          have hNx : Blk v3 v2.heap.size #[.int .i64 0, .int .i64 0, .int .i64 0] 159 := by rw [hu]; exact blk_new _ _ _
          rw [← hu]
          clear hu
          have hsz := hS.size
          have hlt' := hF.lt
          replace hF := hF.later hb
          replace hS : Below W0.heap.size W0 v3 := hS.trans (hb.mono hS.size)
          obtain ⟨Nn, hNn⟩ : ∃ n, n = v2.heap.size := ⟨_, rfl⟩
          rw [← hNn] at hNx ⊢
          have hN := hNx
          have hNnl : W0.heap.size ≤ Nn := by omega
          have hne : Fn ≠ Nn := by omega
          clear hNx hNn hsz hlt'
          refine hK.out _ _ (fun _ => hS) ?_
          clear hK K hb
          refine anyT_ready [8] (by kernel_rfl) (by simp) ?_
          refine EachT.cons rfl (fun K hK => ?_) EachT.nil
          have e0 := hF.cell 0
          have e1 := hF.cell 1
          have e2 := hF.free
          have e3 := hF.lt
          simp only [List.getElem?_toArray, List.getElem?_cons_zero, List.getElem?_cons_succ] at e0 e1
          simp only [List.getElem_toArray, List.getElem_cons_zero, List.getElem_cons_succ]
          go_simp
          obtain ⟨v4, hu⟩ : ∃ u, u = (v3.setCell ⟨Fn, 0, none⟩ (.string (strB (wordK k)))).setCell ⟨Fn, 1, none⟩ (.int .i64 ((manyK k : Nat) : Int)) := ⟨_, rfl⟩
          have hS4 : Below W0.heap.size W0 v4 := by rw [hu]; exact (hS.setCell (p := ⟨Fn, 0, none⟩) hFnl _).setCell (p := ⟨Fn, 1, none⟩) hFnl _
          have hF4 : Blk v4 Fn #[.string (strB (wordK k)), .int .i64 ((manyK k : Nat) : Int)] 157 := by rw [hu]; exact (hF.set 0 _).set 1 _
          have hN4 : Blk v4 Nn #[.int .i64 0, .int .i64 0, .int .i64 0] 159 := by rw [hu]; exact (hN.other (fun e => hne e) _ _).other (fun e => hne e) _ _
          rw [← hu]
          refine hK.out _ _ (fun _ => hS4) ?_
          clear hK K hu e0 e1 e2 e3 hF hN hS
          refine anyT_ready [9] (by kernel_rfl) (by simp) ?_
          refine EachT.cons rfl (fun K hK => ?_) EachT.nil
          have e0 := hN4.cell 0
          have e1 := hN4.cell 1
          have e4 := hN4.cell 2
          have e2 := hN4.free
          have e3 := hN4.lt
          simp only [List.getElem?_toArray, List.getElem?_cons_zero, List.getElem?_cons_succ] at e0 e1 e4
          simp only [List.getElem_toArray, List.getElem_cons_zero, List.getElem_cons_succ]
          go_simp
          obtain ⟨v5, hu⟩ : ∃ u, u = ((v4.setCell ⟨Nn, 0, none⟩ (.int .i64 x)).setCell ⟨Nn, 1, none⟩ (.int .i64 y)).setCell ⟨Nn, 2, none⟩ (.int .i64 z) := ⟨_, rfl⟩
          have hS5 : Below W0.heap.size W0 v5 := by rw [hu]; exact ((hS4.setCell (p := ⟨Nn, 0, none⟩) hNnl _).setCell (p := ⟨Nn, 1, none⟩) hNnl _).setCell (p := ⟨Nn, 2, none⟩) hNnl _
          have hN5 : Blk v5 Nn #[.int .i64 x, .int .i64 y, .int .i64 z] 159 := by rw [hu]; exact ((hN4.set 0 _).set 1 _).set 2 _
          have hF5 : Blk v5 Fn #[.string (strB (wordK k)), .int .i64 ((manyK k : Nat) : Int)] 157 := by rw [hu]; exact ((hF4.other (fun e => hne e.symm) _ _).other (fun e => hne e.symm) _ _).other (fun e => hne e.symm) _ _
          rw [← hu]
          refine hK.out _ _ (fun _ => hS5) ?_
          clear hK K hu e0 e1 e2 e3 e4 hF4 hN4 hS4
          refine anyT_done (by kernel_rfl) ?_
          (try go_wp2_with fail)
          go_meet
          exact ⟨Fn, Nn, rfl, rfl, hFnl, hNnl, hF5, hN5, hS5⟩
      · simp only [List.getElem_toArray, List.getElem_cons_zero, List.getElem_cons_succ]
        go_simp
        obtain ⟨v2, hu⟩ : ∃ u, u = v1.alloc (.cells #[.int .i64 0, .int .i64 0, .int .i64 0] 159) := ⟨_, rfl⟩
        have hb : Below v1.heap.size v1 v2 := by rw [hu]; exact (Below.refl _ _).alloc (Nat.le_refl _) _
        have hNx : Blk v2 v1.heap.size #[.int .i64 0, .int .i64 0, .int .i64 0] 159 := by rw [hu]; exact blk_new _ _ _
        rw [← hu]
        clear hu
        have hsz := hS.size
        replace hS : Below W0.heap.size W0 v2 := hS.trans (hb.mono hS.size)
        obtain ⟨Nn, hNn⟩ : ∃ n, n = v1.heap.size := ⟨_, rfl⟩
        rw [← hNn] at hNx ⊢
        have hN := hNx
        have hNnl : W0.heap.size ≤ Nn := by omega
        clear hNx hNn hsz
        refine hK.out _ _ (fun _ => hS) ?_
        clear hK K hb
        refine anyT_ready [6] (by kernel_rfl) (by simp) ?_
        refine EachT.cons rfl (fun K hK => ?_) (EachT.nil)
        · simp only [List.getElem_toArray, List.getElem_cons_zero, List.getElem_cons_succ]
          go_simp
          obtain ⟨v3, hu⟩ : ∃ u, u = v2.alloc (.cells #[.string ⟨#[]⟩, .int .i64 0] 157) := ⟨_, rfl⟩
          have hb : Below v2.heap.size v2 v3 := by rw [hu]; exact (Below.refl _ _).alloc (Nat.le_refl _) _
          have hFx : Blk v3 v2.heap.size #[.string ⟨#[]⟩, .int .i64 0] 157 := by rw [hu]; exact blk_new _ _ _
          rw [← hu]
          clear hu
          have hsz := hS.size
          have hlt' := hN.lt
          replace hN := hN.later hb
          replace hS : Below W0.heap.size W0 v3 := hS.trans (hb.mono hS.size)
          obtain ⟨Fn, hFn⟩ : ∃ n, n = v2.heap.size := ⟨_, rfl⟩
          rw [← hFn] at hFx ⊢
          have hF := hFx
          have hFnl : W0.heap.size ≤ Fn := by omega
          have hne : Fn ≠ Nn := by omega
          clear hFx hFn hsz hlt'
          refine hK.out _ _ (fun _ => hS) ?_
          clear hK K hb
          refine anyT_ready [8] (by kernel_rfl) (by simp) ?_
          refine EachT.cons rfl (fun K hK => ?_) EachT.nil
          have e0 := hF.cell 0
          have e1 := hF.cell 1
          have e2 := hF.free
          have e3 := hF.lt
          simp only [List.getElem?_toArray, List.getElem?_cons_zero, List.getElem?_cons_succ] at e0 e1
          simp only [List.getElem_toArray, List.getElem_cons_zero, List.getElem_cons_succ]
          go_simp
          obtain ⟨v4, hu⟩ : ∃ u, u = (v3.setCell ⟨Fn, 0, none⟩ (.string (strB (wordK k)))).setCell ⟨Fn, 1, none⟩ (.int .i64 ((manyK k : Nat) : Int)) := ⟨_, rfl⟩
          have hS4 : Below W0.heap.size W0 v4 := by rw [hu]; exact (hS.setCell (p := ⟨Fn, 0, none⟩) hFnl _).setCell (p := ⟨Fn, 1, none⟩) hFnl _
          have hF4 : Blk v4 Fn #[.string (strB (wordK k)), .int .i64 ((manyK k : Nat) : Int)] 157 := by rw [hu]; exact (hF.set 0 _).set 1 _
          have hN4 : Blk v4 Nn #[.int .i64 0, .int .i64 0, .int .i64 0] 159 := by rw [hu]; exact (hN.other (fun e => hne e) _ _).other (fun e => hne e) _ _
          rw [← hu]
          refine hK.out _ _ (fun _ => hS4) ?_
          clear hK K hu e0 e1 e2 e3 hF hN hS
          refine anyT_ready [9] (by kernel_rfl) (by simp) ?_
          refine EachT.cons rfl (fun K hK => ?_) EachT.nil
          have e0 := hN4.cell 0
          have e1 := hN4.cell 1
          have e4 := hN4.cell 2
          have e2 := hN4.free
          have e3 := hN4.lt
          simp only [List.getElem?_toArray, List.getElem?_cons_zero, List.getElem?_cons_succ] at e0 e1 e4
          simp only [List.getElem_toArray, List.getElem_cons_zero, List.getElem_cons_succ]
          go_simp
          obtain ⟨v5, hu⟩ : ∃ u, u = ((v4.setCell ⟨Nn, 0, none⟩ (.int .i64 x)).setCell ⟨Nn, 1, none⟩ (.int .i64 y)).setCell ⟨Nn, 2, none⟩ (.int .i64 z) := ⟨_, rfl⟩
          have hS5 : Below W0.heap.size W0 v5 := by rw [hu]; exact ((hS4.setCell (p := ⟨Nn, 0, none⟩) hNnl _).setCell (p := ⟨Nn, 1, none⟩) hNnl _).setCell (p := ⟨Nn, 2, none⟩) hNnl _
          have hN5 : Blk v5 Nn #[.int .i64 x, .int .i64 y, .int .i64 z] 159 := by rw [hu]; exact ((hN4.set 0 _).set 1 _).set 2 _
          have hF5 : Blk v5 Fn #[.string (strB (wordK k)), .int .i64 ((manyK k : Nat) : Int)] 157 := by rw [hu]; exact ((hF4.other (fun e => hne e.symm) _ _).other (fun e => hne e.symm) _ _).other (fun e => hne e.symm) _ _
          rw [← hu]
          refine hK.out _ _ (fun _ => hS5) ?_
          clear hK K hu e0 e1 e2 e3 e4 hF4 hN4 hS4
          refine anyT_done (by kernel_rfl) ?_
          (try go_wp2_with fail)
          go_meet
          exact ⟨Fn, Nn, rfl, rfl, hFnl, hNnl, hF5, hN5, hS5⟩
    · simp only [List.getElem_toArray, List.getElem_cons_zero, List.getElem_cons_succ]
      go_simp
      obtain ⟨v1, hu⟩ : ∃ u, u = v0.alloc (.cells #[.string ⟨#[]⟩, .int .i64 0] 157) := ⟨_, rfl⟩
      have hb : Below v0.heap.size v0 v1 := by rw [hu]; exact (Below.refl _ _).alloc (Nat.le_refl _) _
      have hFx : Blk v1 v0.heap.size #[.string ⟨#[]⟩, .int .i64 0] 157 := by rw [hu]; exact blk_new _ _ _
      rw [← hu]
      clear hu
      have hsz := hS.size
      replace hS : Below W0.heap.size W0 v1 := hS.trans (hb.mono hS.size)
      obtain ⟨Fn, hFn⟩ : ∃ n, n = v0.heap.size := ⟨_, rfl⟩
      rw [← hFn] at hFx ⊢
      have hF := hFx
      have hFnl : W0.heap.size ≤ Fn := by omega
      clear hFx hFn hsz
      refine hK.out _ _ (fun _ => hS) ?_
      clear hK K hb
      refine anyT_ready [5, 7] (by kernel_rfl) (by simp) ?_
      refine EachT.cons rfl (fun K hK => ?_) (EachT.cons rfl (fun K hK => ?_) (EachT.nil))
      · simp only [List.getElem_toArray, List.getElem_cons_zero, List.getElem_cons_succ]
        go_simp
        refine (hnum v1).mono ?_
        rintro e v2 ⟨rfl, hu⟩
        have hb : Below v1.heap.size v1 v2 := by rw [hu]; exact below_alloc2 _ _ _
        clear hu
        replace hF := hF.later hb
        replace hS : Below W0.heap.size W0 v2 := hS.trans (hb.mono hS.size)
        (try go_wp2_with fail)
        refine hK.out _ _ (fun _ => hS) ?_
        clear hK K hb
        refine anyT_ready [7] (by kernel_rfl) (by simp) ?_
        refine EachT.cons rfl (fun K hK => ?_) (EachT.nil)
        · simp only [List.getElem_toArray, List.getElem_cons_zero, List.getElem_cons_succ]
          go_simp
          obtain ⟨v3, hu⟩ : ∃ u, u = v2.alloc (.cells #[.int .i64 0, .int .i64 0, .int .i64 0] 159) := ⟨_, rfl⟩
          have hb : Below v2.heap.size v2 v3 := by rw [hu]; exact (Below.refl _ _).alloc (Nat.le_refl _) _
          have hNx : Blk v3 v2.heap.size #[.int .i64 0, .int .i64 0, .int .i64 0] 159 := by rw [hu]; exact blk_new _ _ _
          rw [← hu]
          clear hu
          have hsz := hS.size
          have hlt' := hF.lt
          replace hF := hF.later hb
          replace hS : Below W0.heap.size W0 v3 := hS.trans (hb.mono hS.size)
          obtain ⟨Nn, hNn⟩ : ∃ n, n = v2.heap.size := ⟨_, rfl⟩
          rw [← hNn] at hNx ⊢
          have hN := hNx
          have hNnl : W0.heap.size ≤ Nn := by omega
          have hne : Fn ≠ Nn := by omega
          clear hNx hNn hsz hlt'
          refine hK.out _ _ (fun _ => hS) ?_
          clear hK K hb
          refine anyT_ready [8] (by kernel_rfl) (by simp) ?_
          refine EachT.cons rfl (fun K hK => ?_) EachT.nil
          have e0 := hF.cell 0
          have e1 := hF.cell 1
          have e2 := hF.free
          have e3 := hF.lt
          simp only [List.getElem?_toArray, List.getElem?_cons_zero, List.getElem?_cons_succ] at e0 e1
          simp only [List.getElem_toArray, List.getElem_cons_zero, List.getElem_cons_succ]
          go_simp
          obtain ⟨v4, hu⟩ : ∃ u, u = (v3.setCell ⟨Fn, 0, none⟩ (.string (strB (wordK k)))).setCell ⟨Fn, 1, none⟩ (.int .i64 ((manyK k : Nat) : Int)) := ⟨_, rfl⟩
          have hS4 : Below W0.heap.size W0 v4 := by rw [hu]; exact (hS.setCell (p := ⟨Fn, 0, none⟩) hFnl _).setCell (p := ⟨Fn, 1, none⟩) hFnl _
          have hF4 : Blk v4 Fn #[.string (strB (wordK k)), .int .i64 ((manyK k : Nat) : Int)] 157 := by rw [hu]; exact (hF.set 0 _).set 1 _
          have hN4 : Blk v4 Nn #[.int .i64 0, .int .i64 0, .int .i64 0] 159 := by rw [hu]; exact (hN.other (fun e => hne e) _ _).other (fun e => hne e) _ _
          rw [← hu]
          refine hK.out _ _ (fun _ => hS4) ?_
          clear hK K hu e0 e1 e2 e3 hF hN hS
          refine anyT_ready [9] (by kernel_rfl) (by simp) ?_
          refine EachT.cons rfl (fun K hK => ?_) EachT.nil
          have e0 := hN4.cell 0
          have e1 := hN4.cell 1
          have e4 := hN4.cell 2
          have e2 := hN4.free
          have e3 := hN4.lt
          simp only [List.getElem?_toArray, List.getElem?_cons_zero, List.getElem?_cons_succ] at e0 e1 e4
          simp only [List.getElem_toArray, List.getElem_cons_zero, List.getElem_cons_succ]
          go_simp
          obtain ⟨v5, hu⟩ : ∃ u, u = ((v4.setCell ⟨Nn, 0, none⟩ (.int .i64 x)).setCell ⟨Nn, 1, none⟩ (.int .i64 y)).setCell ⟨Nn, 2, none⟩ (.int .i64 z) := ⟨_, rfl⟩
          have hS5 : Below W0.heap.size W0 v5 := by rw [hu]; exact ((hS4.setCell (p := ⟨Nn, 0, none⟩) hNnl _).setCell (p := ⟨Nn, 1, none⟩) hNnl _).setCell (p := ⟨Nn, 2, none⟩) hNnl _
          have hN5 : Blk v5 Nn #[.int .i64 x, .int .i64 y, .int .i64 z] 159 := by rw [hu]; exact ((hN4.set 0 _).set 1 _).set 2 _
          have hF5 : Blk v5 Fn #[.string (strB (wordK k)), .int .i64 ((manyK k : Nat) : Int)] 157 := by rw [hu]; exact ((hF4.other (fun e => hne e.symm) _ _).other (fun e => hne e.symm) _ _).other (fun e => hne e.symm) _ _
          rw [← hu]
          refine hK.out _ _ (fun _ => hS5) ?_
          clear hK K hu e0 e1 e2 e3 e4 hF4 hN4 hS4
          refine anyT_done (by kernel_rfl) ?_
          (try go_wp2_with fail)
          go_meet
          exact ⟨Fn, Nn, rfl, rfl, hFnl, hNnl, hF5, hN5, hS5⟩
      · simp only [List.getElem_toArray, List.getElem_cons_zero, List.getElem_cons_succ]
        go_simp
        obtain ⟨v2, hu⟩ : ∃ u, u = v1.alloc (.cells #[.int .i64 0, .int .i64 0, .int .i64 0] 159) := ⟨_, rfl⟩
        have hb : Below v1.heap.size v1 v2 := by rw [hu]; exact (Below.refl _ _).alloc (Nat.le_refl _) _
        have hNx : Blk v2 v1.heap.size #[.int .i64 0, .int .i64 0, .int .i64 0] 159 := by rw [hu]; exact blk_new _ _ _
        rw [← hu]
        clear hu
        have hsz := hS.size
        have hlt' := hF.lt
        replace hF := hF.later hb
        replace hS : Below W0.heap.size W0 v2 := hS.trans (hb.mono hS.size)
        obtain ⟨Nn, hNn⟩ : ∃ n, n = v1.heap.size := ⟨_, rfl⟩
        rw [← hNn] at hNx ⊢
        have hN := hNx
        have hNnl : W0.heap.size ≤ Nn := by omega
        have hne : Fn ≠ Nn := by omega
        clear hNx hNn hsz hlt'
        refine hK.out _ _ (fun _ => hS) ?_
        clear hK K hb
        refine anyT_ready [5] (by kernel_rfl) (by simp) ?_
        refine EachT.cons rfl (fun K hK => ?_) (EachT.nil)
        · simp only [List.getElem_toArray, List.getElem_cons_zero, List.getElem_cons_succ]
          go_simp
          refine (hnum v2).mono ?_
          rintro e v3 ⟨rfl, hu⟩
          have hb : Below v2.heap.size v2 v3 := by rw [hu]; exact below_alloc2 _ _ _
          clear hu
          replace hF := hF.later hb
          replace hN := hN.later hb
          replace hS : Below W0.heap.size W0 v3 := hS.trans (hb.mono hS.size)
          (try go_wp2_with fail)
          refine hK.out _ _ (fun _ => hS) ?_
          clear hK K hb
          refine anyT_ready [8] (by kernel_rfl) (by simp) ?_
          refine EachT.cons rfl (fun K hK => ?_) EachT.nil
          have e0 := hF.cell 0
          have e1 := hF.cell 1
          have e2 := hF.free
          have e3 := hF.lt
          simp only [List.getElem?_toArray, List.getElem?_cons_zero, List.getElem?_cons_succ] at e0 e1
          simp only [List.getElem_toArray, List.getElem_cons_zero, List.getElem_cons_succ]
          go_simp
          obtain ⟨v4, hu⟩ : ∃ u, u = (v3.setCell ⟨Fn, 0, none⟩ (.string (strB (wordK k)))).setCell ⟨Fn, 1, none⟩ (.int .i64 ((manyK k : Nat) : Int)) := ⟨_, rfl⟩
          have hS4 : Below W0.heap.size W0 v4 := by rw [hu]; exact (hS.setCell (p := ⟨Fn, 0, none⟩) hFnl _).setCell (p := ⟨Fn, 1, none⟩) hFnl _
          have hF4 : Blk v4 Fn #[.string (strB (wordK k)), .int .i64 ((manyK k : Nat) : Int)] 157 := by rw [hu]; exact (hF.set 0 _).set 1 _
          have hN4 : Blk v4 Nn #[.int .i64 0, .int .i64 0, .int .i64 0] 159 := by rw [hu]; exact (hN.other (fun e => hne e) _ _).other (fun e => hne e) _ _
          rw [← hu]
          refine hK.out _ _ (fun _ => hS4) ?_
          clear hK K hu e0 e1 e2 e3 hF hN hS
          refine anyT_ready [9] (by kernel_rfl) (by simp) ?_
          refine EachT.cons rfl (fun K hK => ?_) EachT.nil
          have e0 := hN4.cell 0
          have e1 := hN4.cell 1
          have e4 := hN4.cell 2
          have e2 := hN4.free
          have e3 := hN4.lt
          simp only [List.getElem?_toArray, List.getElem?_cons_zero, List.getElem?_cons_succ] at e0 e1 e4
          simp only [List.getElem_toArray, List.getElem_cons_zero, List.getElem_cons_succ]
          go_simp
          obtain ⟨v5, hu⟩ : ∃ u, u = ((v4.setCell ⟨Nn, 0, none⟩ (.int .i64 x)).setCell ⟨Nn, 1, none⟩ (.int .i64 y)).setCell ⟨Nn, 2, none⟩ (.int .i64 z) := ⟨_, rfl⟩
          have hS5 : Below W0.heap.size W0 v5 := by rw [hu]; exact ((hS4.setCell (p := ⟨Nn, 0, none⟩) hNnl _).setCell (p := ⟨Nn, 1, none⟩) hNnl _).setCell (p := ⟨Nn, 2, none⟩) hNnl _
          have hN5 : Blk v5 Nn #[.int .i64 x, .int .i64 y, .int .i64 z] 159 := by rw [hu]; exact ((hN4.set 0 _).set 1 _).set 2 _
          have hF5 : Blk v5 Fn #[.string (strB (wordK k)), .int .i64 ((manyK k : Nat) : Int)] 157 := by rw [hu]; exact ((hF4.other (fun e => hne e.symm) _ _).other (fun e => hne e.symm) _ _).other (fun e => hne e.symm) _ _
          rw [← hu]
          refine hK.out _ _ (fun _ => hS5) ?_
          clear hK K hu e0 e1 e2 e3 e4 hF4 hN4 hS4
          refine anyT_done (by kernel_rfl) ?_
          (try go_wp2_with fail)
          go_meet
          exact ⟨Fn, Nn, rfl, rfl, hFnl, hNnl, hF5, hN5, hS5⟩
    · simp only [List.getElem_toArray, List.getElem_cons_zero, List.getElem_cons_succ]
      go_simp
      obtain ⟨v1, hu⟩ : ∃ u, u = v0.alloc (.cells #[.int .i64 0, .int .i64 0, .int .i64 0] 159) := ⟨_, rfl⟩
      have hb : Below v0.heap.size v0 v1 := by rw [hu]; exact (Below.refl _ _).alloc (Nat.le_refl _) _
      have hNx : Blk v1 v0.heap.size #[.int .i64 0, .int .i64 0, .int .i64 0] 159 := by rw [hu]; exact blk_new _ _ _
      rw [← hu]
      clear hu
      have hsz := hS.size
      replace hS : Below W0.heap.size W0 v1 := hS.trans (hb.mono hS.size)
      obtain ⟨Nn, hNn⟩ : ∃ n, n = v0.heap.size := ⟨_, rfl⟩
      rw [← hNn] at hNx ⊢
      have hN := hNx
      have hNnl : W0.heap.size ≤ Nn := by omega
      clear hNx hNn hsz
      refine hK.out _ _ (fun _ => hS) ?_
      clear hK K hb
      refine anyT_ready [5, 6] (by kernel_rfl) (by simp) ?_
      refine EachT.cons rfl (fun K hK => ?_) (EachT.cons rfl (fun K hK => ?_) (EachT.nil))
      · simp only [List.getElem_toArray, List.getElem_cons_zero, List.getElem_cons_succ]
        go_simp
        refine (hnum v1).mono ?_
        rintro e v2 ⟨rfl, hu⟩
        have hb : Below v1.heap.size v1 v2 := by rw [hu]; exact below_alloc2 _ _ _
        clear hu
        replace hN := hN.later hb
        replace hS : Below W0.heap.size W0 v2 := hS.trans (hb.mono hS.size)
        (try go_wp2_with fail)
        refine hK.out _ _ (fun _ => hS) ?_
        clear hK K hb
        refine anyT_ready [6] (by kernel_rfl) (by simp) ?_
        refine EachT.cons rfl (fun K hK => ?_) (EachT.nil)
        · simp only [List.getElem_toArray, List.getElem_cons_zero, List.getElem_cons_succ]
          go_simp
          obtain ⟨v3, hu⟩ : ∃ u, u = v2.alloc (.cells #[.string ⟨#[]⟩, .int .i64 0] 157) := ⟨_, rfl⟩
          have hb : Below v2.heap.size v2 v3 := by rw [hu]; exact (Below.refl _ _).alloc (Nat.le_refl _) _
          have hFx : Blk v3 v2.heap.size #[.string ⟨#[]⟩, .int .i64 0] 157 := by rw [hu]; exact blk_new _ _ _
          rw [← hu]
          clear hu
          have hsz := hS.size
          have hlt' := hN.lt
          replace hN := hN.later hb
          replace hS : Below W0.heap.size W0 v3 := hS.trans (hb.mono hS.size)
          obtain ⟨Fn, hFn⟩ : ∃ n, n = v2.heap.size := ⟨_, rfl⟩
          rw [← hFn] at hFx ⊢
          have hF := hFx
          have hFnl : W0.heap.size ≤ Fn := by omega
          have hne : Fn ≠ Nn := by omega
          clear hFx hFn hsz hlt'
          refine hK.out _ _ (fun _ => hS) ?_
          clear hK K hb
          refine anyT_ready [8] (by kernel_rfl) (by simp) ?_
          refine EachT.cons rfl (fun K hK => ?_) EachT.nil
          have e0 := hF.cell 0
          have e1 := hF.cell 1
          have e2 := hF.free
          have e3 := hF.lt
          simp only [List.getElem?_toArray, List.getElem?_cons_zero, List.getElem?_cons_succ] at e0 e1
          simp only [List.getElem_toArray, List.getElem_cons_zero, List.getElem_cons_succ]
          go_simp
          obtain ⟨v4, hu⟩ : ∃ u, u = (v3.setCell ⟨Fn, 0, none⟩ (.string (strB (wordK k)))).setCell ⟨Fn, 1, none⟩ (.int .i64 ((manyK k : Nat) : Int)) := ⟨_, rfl⟩
          have hS4 : Below W0.heap.size W0 v4 := by rw [hu]; exact (hS.setCell (p := ⟨Fn, 0, none⟩) hFnl _).setCell (p := ⟨Fn, 1, none⟩) hFnl _
          have hF4 : Blk v4 Fn #[.string (strB (wordK k)), .int .i64 ((manyK k : Nat) : Int)] 157 := by rw [hu]; exact (hF.set 0 _).set 1 _
          have hN4 : Blk v4 Nn #[.int .i64 0, .int .i64 0, .int .i64 0] 159 := by rw [hu]; exact (hN.other (fun e => hne e) _ _).other (fun e => hne e) _ _
          rw [← hu]
          refine hK.out _ _ (fun _ => hS4) ?_
          clear hK K hu e0 e1 e2 e3 hF hN hS
          refine anyT_ready [9] (by kernel_rfl) (by simp) ?_
          refine EachT.cons rfl (fun K hK => ?_) EachT.nil
          have e0 := hN4.cell 0
          have e1 := hN4.cell 1
          have e4 := hN4.cell 2
          have e2 := hN4.free
          have e3 := hN4.lt
          simp only [List.getElem?_toArray, List.getElem?_cons_zero, List.getElem?_cons_succ] at e0 e1 e4
          simp only [List.getElem_toArray, List.getElem_cons_zero, List.getElem_cons_succ]
          go_simp
          obtain ⟨v5, hu⟩ : ∃ u, u = ((v4.setCell ⟨Nn, 0, none⟩ (.int .i64 x)).setCell ⟨Nn, 1, none⟩ (.int .i64 y)).setCell ⟨Nn, 2, none⟩ (.int .i64 z) := ⟨_, rfl⟩
          have hS5 : Below W0.heap.size W0 v5 := by rw [hu]; exact ((hS4.setCell (p := ⟨Nn, 0, none⟩) hNnl _).setCell (p := ⟨Nn, 1, none⟩) hNnl _).setCell (p := ⟨Nn, 2, none⟩) hNnl _
          have hN5 : Blk v5 Nn #[.int .i64 x, .int .i64 y, .int .i64 z] 159 := by rw [hu]; exact ((hN4.set 0 _).set 1 _).set 2 _
          have hF5 : Blk v5 Fn #[.string (strB (wordK k)), .int .i64 ((manyK k : Nat) : Int)] 157 := by rw [hu]; exact ((hF4.other (fun e => hne e.symm) _ _).other (fun e => hne e.symm) _ _).other (fun e => hne e.symm) _ _
          rw [← hu]
          refine hK.out _ _ (fun _ => hS5) ?_
          clear hK K hu e0 e1 e2 e3 e4 hF4 hN4 hS4
          refine anyT_done (by kernel_rfl) ?_
          (try go_wp2_with fail)
          go_meet
          exact ⟨Fn, Nn, rfl, rfl, hFnl, hNnl, hF5, hN5, hS5⟩
      · simp only [List.getElem_toArray, List.getElem_cons_zero, List.getElem_cons_succ]
        go_simp
        obtain ⟨v2, hu⟩ : ∃ u, u = v1.alloc (.cells #[.string ⟨#[]⟩, .int .i64 0] 157) := ⟨_, rfl⟩
        have hb : Below v1.heap.size v1 v2 := by rw [hu]; exact (Below.refl _ _).alloc (Nat.le_refl _) _
        have hFx : Blk v2 v1.heap.size #[.string ⟨#[]⟩, .int .i64 0] 157 := by rw [hu]; exact blk_new _ _ _
        rw [← hu]
        clear hu
        have hsz := hS.size
        have hlt' := hN.lt
        replace hN := hN.later hb
        replace hS : Below W0.heap.size W0 v2 := hS.trans (hb.mono hS.size)
        obtain ⟨Fn, hFn⟩ : ∃ n, n = v1.heap.size := ⟨_, rfl⟩
        rw [← hFn] at hFx ⊢
        have hF := hFx
        have hFnl : W0.heap.size ≤ Fn := by omega
        have hne : Fn ≠ Nn := by omega
        clear hFx hFn hsz hlt'
        refine hK.out _ _ (fun _ => hS) ?_
        clear hK K hb
        refine anyT_ready [5] (by kernel_rfl) (by simp) ?_
        refine EachT.cons rfl (fun K hK => ?_) (EachT.nil)
        · simp only [List.getElem_toArray, List.getElem_cons_zero, List.getElem_cons_succ]
          go_simp
          refine (hnum v2).mono ?_
          rintro e v3 ⟨rfl, hu⟩
          have hb : Below v2.heap.size v2 v3 := by rw [hu]; exact below_alloc2 _ _ _
          clear hu
          replace hF := hF.later hb
          replace hN := hN.later hb
          replace hS : Below W0.heap.size W0 v3 := hS.trans (hb.mono hS.size)
          (try go_wp2_with fail)
          refine hK.out _ _ (fun _ => hS) ?_
          clear hK K hb
          refine anyT_ready [8] (by kernel_rfl) (by simp) ?_
          refine EachT.cons rfl (fun K hK => ?_) EachT.nil
          have e0 := hF.cell 0
          have e1 := hF.cell 1
          have e2 := hF.free
          have e3 := hF.lt
          simp only [List.getElem?_toArray, List.getElem?_cons_zero, List.getElem?_cons_succ] at e0 e1
          simp only [List.getElem_toArray, List.getElem_cons_zero, List.getElem_cons_succ]
          go_simp
          obtain ⟨v4, hu⟩ : ∃ u, u = (v3.setCell ⟨Fn, 0, none⟩ (.string (strB (wordK k)))).setCell ⟨Fn, 1, none⟩ (.int .i64 ((manyK k : Nat) : Int)) := ⟨_, rfl⟩
          have hS4 : Below W0.heap.size W0 v4 := by rw [hu]; exact (hS.setCell (p := ⟨Fn, 0, none⟩) hFnl _).setCell (p := ⟨Fn, 1, none⟩) hFnl _
          have hF4 : Blk v4 Fn #[.string (strB (wordK k)), .int .i64 ((manyK k : Nat) : Int)] 157 := by rw [hu]; exact (hF.set 0 _).set 1 _
          have hN4 : Blk v4 Nn #[.int .i64 0, .int .i64 0, .int .i64 0] 159 := by rw [hu]; exact (hN.other (fun e => hne e) _ _).other (fun e => hne e) _ _
          rw [← hu]
          refine hK.out _ _ (fun _ => hS4) ?_
          clear hK K hu e0 e1 e2 e3 hF hN hS
          refine anyT_ready [9] (by kernel_rfl) (by simp) ?_
          refine EachT.cons rfl (fun K hK => ?_) EachT.nil
          have e0 := hN4.cell 0
          have e1 := hN4.cell 1
          have e4 := hN4.cell 2
          have e2 := hN4.free
          have e3 := hN4.lt
          simp only [List.getElem?_toArray, List.getElem?_cons_zero, List.getElem?_cons_succ] at e0 e1 e4
          simp only [List.getElem_toArray, List.getElem_cons_zero, List.getElem_cons_succ]
          go_simp
          obtain ⟨v5, hu⟩ : ∃ u, u = ((v4.setCell ⟨Nn, 0, none⟩ (.int .i64 x)).setCell ⟨Nn, 1, none⟩ (.int .i64 y)).setCell ⟨Nn, 2, none⟩ (.int .i64 z) := ⟨_, rfl⟩
          have hS5 : Below W0.heap.size W0 v5 := by rw [hu]; exact ((hS4.setCell (p := ⟨Nn, 0, none⟩) hNnl _).setCell (p := ⟨Nn, 1, none⟩) hNnl _).setCell (p := ⟨Nn, 2, none⟩) hNnl _
          have hN5 : Blk v5 Nn #[.int .i64 x, .int .i64 y, .int .i64 z] 159 := by rw [hu]; exact ((hN4.set 0 _).set 1 _).set 2 _
          have hF5 : Blk v5 Fn #[.string (strB (wordK k)), .int .i64 ((manyK k : Nat) : Int)] 157 := by rw [hu]; exact ((hF4.other (fun e => hne e.symm) _ _).other (fun e => hne e.symm) _ _).other (fun e => hne e.symm) _ _
          rw [← hu]
          refine hK.out _ _ (fun _ => hS5) ?_
          clear hK K hu e0 e1 e2 e3 e4 hF4 hN4 hS4
          refine anyT_done (by kernel_rfl) ?_
          (try go_wp2_with fail)
          go_meet
          exact ⟨Fn, Nn, rfl, rfl, hFnl, hNnl, hF5, hN5, hS5⟩
  case rest =>
    obtain ⟨F, N, rfl, rfl, hFl, hNl, hF, hN, hS⟩ := hcut
    clear b0 b1 b2 b3 b4 f0 f1 hnum ft
    have hwc : Below w.heap.size w wc := hbW.trans (hS.mono (by omega))
    have hBc : Bd b l wc := hB.later hwc
    have hFb : F ≠ b := by omega
    have hNb : N ≠ b := by omega
    have HX : Hid (∀ n ∈ [x, y, z], I64 n) := by
      show ∀ n ∈ [x, y, z], I64 n
      rw [← hxyz]; exact hn64
    have hwk := wordK_length k
    have hm3 := manyK_le k
    have hcc : Below b w wc := hwc.mono (by omega)
    have hkc : Kept9 b w wc := kept_later hwc
    have c0 := hF.cell 0
    have c1 := hF.cell 1
    have c2 := hF.lt
    simp only [List.getElem?_toArray, List.getElem?_cons_zero, List.getElem?_cons_succ] at c0 c1
    clear hbW hS hzW hB hxyz hn64 h64
    go_wp2_with fail
    refine (writeS_any b l (wordK k) wc hBc (by omega)).mono ?_
    rintro e w2 ⟨⟨v, rfl⟩, hB2, hb2, hk2⟩
    have hF2 := hF.kept hk2 hFb (by decide)
    have hN2 := hN.kept hk2 hNb (by decide)
    clear c0 c1 c2 hBc hF hN
    have c1 := hF2.cell 1
    have c2 := hF2.lt
    simp only [List.getElem?_toArray, List.getElem?_cons_zero, List.getElem?_cons_succ] at c1
    have hst : Hid (Bd b (l ++ (wordK k ++ numsB ([x, y, z].take 0))) w2) := by
      show Bd _ _ _
      simpa [numsB] using hB2
    have hbst : Hid (Below b w w2) := hcc.trans hb2
    have hkst : Hid (Kept9 b w w2) := hkc.trans hk2
    clear hB2 hb2 hk2 hcc hkc hF2 hwc
    go_wp2_with fail
    clear c1 c2
    go_loopg [19] (manyK k) (fun g i wr => ∃ j : Nat, j ≤ manyK k ∧ g = manyK k - j ∧ i = .int .i64 j ∧ Hid (Bd b (l ++ (wordK k ++ numsB ([x, y, z].take j))) wr) ∧ Hid (Blk wr N #[.int .i64 x, .int .i64 y, .int .i64 z] 159) ∧ Hid (Below b w wr) ∧ Hid (Kept9 b w wr))
    case atStart => exact ⟨0, by omega, by omega, rfl, hst, hN2, hbst, hkst⟩
    case round =>
      obtain ⟨j, hj, hg, rfl, hBr, hNr, hbr, hkr⟩ := hrel
      by_cases hlt2 : j < manyK k
      · have hj3 : j < 3 := by omega
        obtain ⟨nv, hnv⟩ : ∃ nv, [x, y, z][j]? = some nv := ⟨_, List.getElem?_eq_getElem (by simpa using hj3)⟩
        have hI : I64 nv := HX.out nv (List.mem_of_getElem? hnv)
        have hil := itoa_le hI
        have hnl : (numsB ([x, y, z].take j)).length ≤ 66 := by
          have h1 := numsB_length (l := [x, y, z].take j) (fun n hn => HX.out n (List.mem_of_mem_take hn))
          have h2 : ([x, y, z].take j).length ≤ 3 := by simp; omega
          omega
        have HT : Hid (numsB ([x, y, z].take (j + 1)) = numsB ([x, y, z].take j) ++ (32 :: Lib.itoa nv)) := by
          show _ = _
          rw [List.take_add_one, hnv, numsB_append]
          simp [numsB]
        have hbl : b < wr.heap.size := hBr.out.lt
        go_wp2_with fail
        refine (writeS_any b (l ++ (wordK k ++ numsB ([x, y, z].take j))) [32] wr hBr.out (by simp only [List.length_append, List.length_cons, List.length_nil]; omega)).mono ?_
        rintro e w3 ⟨⟨v3, rfl⟩, hB3, hb3, hk3⟩
        have hN3 := hNr.out.kept hk3 hNb (by decide)
        have nc : w3.cell? ⟨N, j, none⟩ = some (.int .i64 nv) := by
          rw [hN3.cell j]
          have : j = 0 ∨ j = 1 ∨ j = 2 := by omega
          rcases this with rfl | rfl | rfl <;> (simp at hnv; subst hnv; rfl)
        have nlt := hN3.lt
        have hE3 : Env w3 := hE.later ((h0.trans (hbr.out.mono hb0)).trans (hb3.mono hb0))
        have Hb3 : Hid (Below b wr w3) := hb3
        have Hk3 : Hid (Kept9 b wr w3) := hk3
        have HN3 : Hid (Blk w3 N #[.int .i64 x, .int .i64 y, .int .i64 z] 159) := hN3
        clear hb3 hk3 hN3 hnv
        go_wp2_with fail
        refine (fmt_any hI w3 hE3).mono ?_
        rintro e w4 ⟨rfl, hb4⟩
        have hB4 := hB3.later hb4
        have hbl3 := hB3.lt
        clear nc nlt hE3 hB3
        go_wp2_with fail
        refine (writeS_any b _ (Lib.itoa nv) w4 hB4 (by simp only [List.length_append, List.length_cons, List.length_nil]; omega)).mono ?_
        rintro e w5 ⟨⟨v5, rfl⟩, hB5, hb5, hk5⟩
        have hN5 : Hid (Blk w5 N #[.int .i64 x, .int .i64 y, .int .i64 z] 159) := (HN3.out.later hb4).kept hk5 hNb (by decide)
        have hst5 : Hid (Bd b (l ++ (wordK k ++ numsB ([x, y, z].take (j + 1)))) w5) := by
          show Bd _ _ _
          rw [HT.out]
          simpa using hB5
        have hb5' : Hid (Below b w w5) := ((hbr.out.trans Hb3.out).trans (hb4.mono (by omega))).trans hb5
        have hk5' : Hid (Kept9 b w w5) := ((hkr.out.trans Hk3.out).trans (kept_later hb4)).trans hk5
        clear hB5 hb5 hk5 hb4 hB4 Hb3 Hk3 HN3
        go_wp2_with fail
        go_roundg (manyK k - (j + 1))
        case measure => omega
        case rel => exact ⟨j + 1, by omega, rfl, by go_num, hst5, hN5, hb5', hk5'⟩
      · obtain rfl : j = manyK k := by omega
        go_wp2_with fail
        go_end0
        refine ⟨rfl, ?_, hbr.out, hkr.out⟩
        rw [HOB.out]
        exact hBr.out
end Go.Proofs.YtdohockbmphhfacDoor
