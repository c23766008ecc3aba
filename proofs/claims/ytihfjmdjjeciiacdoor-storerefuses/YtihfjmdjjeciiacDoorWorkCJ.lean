/-
  The walks of a worker's load, end and Result.
-/
import Derived.Test.YtihfjmdjjeciiacDoorWorkBJ
import Derived.Test.YtihfjmdjjeciiacDoorJqTb
import Derived.Deep.CutRange
namespace Go.Proofs.YtihfjmdjjeciiacDoor
open Go.RowKit Go.Shelf

theorem RowAt.kept {w w' : World} {B off : Nat} {l : List Slot4} (h : RowAt w B off l) (hb : w'.heap[B]? = w.heap[B]?) : RowAt w' B off l := by
  have hc : ∀ o, w'.cell? ⟨B, o, none⟩ = w.cell? ⟨B, o, none⟩ := fun o => World.cell?_of_block hb
  exact ⟨h.len, by rw [hc]; exact h.many, fun i hi => by rw [hc, hc, hc, hc]; exact h.cell i hi⟩
theorem TabAt.kept {w w' : World} {B : Nat} {T : Nat → List Slot4} (h : TabAt w B T) (hb : w'.heap[B]? = w.heap[B]?) : TabAt w' B T :=
  ⟨fun k hk => (h.row k hk).kept hb, fun o => (World.frozen?_of_block hb).trans (h.free o)⟩
theorem TabAt.grown {w w' : World} {B C : Nat} {T : Nat → List Slot4} (h : TabAt w B T) (hg : w.grownBy w' (some C)) (hn : B ≠ C) : TabAt w' B T := h.kept (hg.block B h.lt (fun e => hn (by cases e; rfl)))

set_option maxHeartbeats 1000000 in
theorem load_own (C B m l : Nat) (k q n : Int) (dv : Value) (b : Nat) (x : Wk) (w : World) (hx : WorkAt w C dv b x) (hm : m < 4) (hl : l < 10) (hn : x.nx < 100) (hi : x.is l = true) :
    Calls Tryd.prog 110 #[.pointer (some ⟨C, 0, none⟩), .pointer (some ⟨B, 0, none⟩), .agg #[.int .i64 k, .int .i64 m, .int .i64 l, .int .i64 q, .int .i64 n]] w fun e w' => e = .returned (.tuple #[.int .i64 1, .int .i64 (-1)]) ∧ WorkAt w' C dv b (loadW ⟨k, m, l, q, n⟩ (x.n l) x) ∧ w.grownBy w' (some C) := by
  have hC := hx.lt
  have h2 := hx.place
  have hm' := hx.reg m hm
  have hs := hx.sto l hl
  have his := hx.is l hl
  rw [hi] at his
  have hf := hx.free
  have p1 : (m : Int) < 4 := by omega
  have p2 : (l : Int) < 10 := by omega
  have hne : ¬ C = w.heap.size := by omega
  clear hi
  go_enter Tryd.func110, Tryd.ntmps110
  go_wp2_with fail
  go_quiet (fail)
  go_wp2_with fail
  go_quiet (fail)
  go_wp2_with fail
  go_region
  go_wp2_with fail
  rw [castN]
  go_ret2
  exact ⟨rfl, (((hx.alloc _).drewN _).setReg hm _).setNext (x.nx + 1), grown_trans (grown_trans (grown_trans (grown_alloc w _ _) (grown_drewN _ _ _)) (grown_setCell _ ⟨C, 24 + m, none⟩ _)) (grown_setCell _ ⟨C, 2, none⟩ _)⟩

set_option maxHeartbeats 1000000 in
theorem load_waits (C B m l : Nat) (k q n v who : Int) (dv : Value) (b : Nat) (x : Wk) (T : Nat → List Slot4) (w : World) (hx : WorkAt w C dv b x) (hT : TabAt w B T) (hl : l < 10) (hi : x.is l = false) (hb : beforeT T (l : Int) (b : Int) = (v, who)) (hw : 0 ≤ who) :
    Calls Tryd.prog 110 #[.pointer (some ⟨C, 0, none⟩), .pointer (some ⟨B, 0, none⟩), .agg #[.int .i64 k, .int .i64 m, .int .i64 l, .int .i64 q, .int .i64 n]] w fun e w' => e = .returned (.tuple #[.int .i64 2, .int .i64 who]) ∧ Below w.heap.size w w' := by
  have hC := hx.lt
  have h1 := hx.num
  have hs := hx.sto l hl
  have his := hx.is l hl
  rw [hi] at his
  have p2 : (l : Int) < 10 := by omega
  have hne : ¬ C = w.heap.size := by omega
  have hT1 : TabAt (w.alloc (.cells #[.int .i64 k, .int .i64 m, .int .i64 l, .int .i64 q, .int .i64 n] 63)) B T := hT.later ((Below.refl _ _).alloc (Nat.le_refl _) _)
  have hbf := fun w' (h : TabAt w' B T) => before_any B (l : Int) (b : Int) T w' h
  rw [hb] at hbf
  have HBF : Hid _ := hbf
  clear hi hb hbf
  go_enter Tryd.func110, Tryd.ntmps110
  go_wp2_with fail
  go_quiet (fail)
  go_wp2_with fail
  go_quiet (fail)
  go_wp2_with fail
  go_region_with (go_at_call 115; refine (HBF.out _ (by exact hT1.kept rfl)).mono ?_; rintro e w1 ⟨rfl, hb1⟩)
  all_goals go_wp2_with fail
  all_goals go_ret2
  all_goals exact ⟨rfl, (drewN_below ((Below.refl _ w).alloc (Nat.le_refl _) _) _).trans (hb1.mono (by simp))⟩

set_option maxHeartbeats 1000000 in
theorem load_ahead (C B m l : Nat) (k q n v who : Int) (dv : Value) (b : Nat) (x : Wk) (T : Nat → List Slot4) (w : World) (hx : WorkAt w C dv b x) (hT : TabAt w B T) (hm : m < 4) (hl : l < 10) (hn : x.nx < 100) (hi : x.is l = false) (hb : beforeT T (l : Int) (b : Int) = (v, who)) (hw : ¬ 0 ≤ who) :
    Calls Tryd.prog 110 #[.pointer (some ⟨C, 0, none⟩), .pointer (some ⟨B, 0, none⟩), .agg #[.int .i64 k, .int .i64 m, .int .i64 l, .int .i64 q, .int .i64 n]] w fun e w' => e = .returned (.tuple #[.int .i64 1, .int .i64 (-1)]) ∧ WorkAt w' C dv b (loadW ⟨k, m, l, q, n⟩ v x) ∧ w.grownBy w' (some C) := by
  have hC := hx.lt
  have h1 := hx.num
  have hs := hx.sto l hl
  have his := hx.is l hl
  rw [hi] at his
  have p1 : (m : Int) < 4 := by omega
  have p2 : (l : Int) < 10 := by omega
  have hne : ¬ C = w.heap.size := by omega
  have hT1 : TabAt (w.alloc (.cells #[.int .i64 k, .int .i64 m, .int .i64 l, .int .i64 q, .int .i64 n] 63)) B T := hT.later ((Below.refl _ _).alloc (Nat.le_refl _) _)
  have hbf := fun w' (h : TabAt w' B T) => before_any B (l : Int) (b : Int) T w' h
  rw [hb] at hbf
  have HBF : Hid _ := hbf
  have g1 : (w.alloc (.cells #[.int .i64 k, .int .i64 m, .int .i64 l, .int .i64 q, .int .i64 n] 63)).cell? ⟨w.heap.size, 1, none⟩ = some (.int .i64 m) := by go_simp
  clear hi hb hbf
  go_enter Tryd.func110, Tryd.ntmps110
  go_wp2_with fail
  go_quiet (fail)
  go_wp2_with fail
  go_quiet (fail)
  go_wp2_with fail
  go_cut [9, 10] from 28 (fun c c' wc => c = .int .i64 v ∧ c' = .int .i64 who ∧ Below (w.alloc (.cells #[.int .i64 k, .int .i64 m, .int .i64 l, .int .i64 q, .int .i64 n] 63)).heap.size (w.alloc (.cells #[.int .i64 k, .int .i64 m, .int .i64 l, .int .i64 q, .int .i64 n] 63)) wc)
  case first =>
    go_region_with (go_at_call 115; refine (HBF.out _ (by exact hT1.kept rfl)).mono ?_; rintro e w1 ⟨rfl, hb1⟩)
    all_goals go_wp2_with fail
    all_goals go_meet
    all_goals exact ⟨rfl, rfl, (drewN_below (Below.refl _ _) _).trans hb1⟩
  case rest =>
    obtain ⟨rfl, rfl, hbc⟩ := hcut
    have hxc : WorkAt wc C dv b x := (hx.alloc _).later hbc
    have h2 := hxc.place
    have hm' := hxc.reg m hm
    have hf := hxc.free
    have gc := cell_later hbc g1
    have hgc : w.grownBy wc (some C) := grown_trans (grown_alloc w _ _) (below_grown hbc _)
    have hz : w.heap.size < wc.heap.size := by have := hbc.size; simp at this; omega
    clear hbc g1 hT1
    go_wp2_with fail
    go_region
    go_wp2_with fail
    rw [castN]
    go_ret2
    exact ⟨rfl, ((hxc.drew).setReg hm _).setNext (x.nx + 1), grown_trans (grown_trans (grown_trans hgc (grown_drew _ _)) (grown_setCell _ ⟨C, 24 + m, none⟩ _)) (grown_setCell _ ⟨C, 2, none⟩ _)⟩

theorem endTo_take (T : Nat → List Slot4) (x : Wk) (b : Int) {ks : List Nat} {m : Nat} (hm : m < ks.length) : endTo T x b (ks.take (m + 1)) = settleT (endTo T x b (ks.take m)) (ks[m] : Int) (endOf x b ks[m]) := by
  unfold endTo
  rw [List.take_succ_eq_append_getElem hm, List.foldl_append]
  rfl

set_option maxHeartbeats 1000000 in
theorem end_any (C B b : Nat) (c : Int) (dv : Value) (d : List Op5) (x : Wk) (T : Nat → List Slot4) (w : World) (hx : WorkAt w C dv b x) (hT : TabAt w B T) (hne : C ≠ B) (hd : DeedAt w dv d) (hlen : d.length ≤ 14) :
    Calls Tryd.prog 109 #[.pointer (some ⟨C, 0, none⟩), .pointer (some ⟨B, 0, none⟩), .int .i64 c] w fun e w' => e = .returned (.tuple #[.int .i64 3, .int .i64 (-1)]) ∧ WorkAt w' C dv b (overW x c) ∧ TabAt w' B (endTo T x (b : Int) (keysF d)) ∧ Grew (fun k => k = B ∨ k = C) w w' := by
  have hkeys := keys_any dv d w hd hlen
  obtain ⟨ks, hks⟩ : ∃ ks, ks = keysF d := ⟨_, rfl⟩
  have hk10 : ∀ i (h : i < ks.length), ks[i] < 10 := fun i h => keysF_lt (d := d) (by rw [← hks]; exact List.getElem_mem h)
  have hkl : ks.length ≤ 10 := by
    rw [hks, keysF]
    have := List.length_filter_le (storesF d) (List.range 10)
    simpa using this
  rw [← hks] at hkeys ⊢
  have c0 := hx.deed
  have hBz := hT.lt
  obtain ⟨da, dcap, rfl, -⟩ := hd
  clear hks
  go_enter Tryd.func109, Tryd.ntmps109
  go_wp2_with fail
  refine hkeys.mono ?_
  clear hkeys
  rintro e w2 ⟨⟨u, rfl, hown⟩, hb2⟩
  have hK : KeysAt w2 B u ks := keysAt_of_owns hown hBz
  have hT2 : TabAt w2 B (endTo T x (b : Int) (ks.take 0)) := hT.later hb2
  have hx2 := hx.later hb2
  clear hT hx hown c0
  obtain ⟨ua, ucap, rfl, hcell⟩ := hK
  have hK : KeysAt w2 B (.slice ua ks.length ucap) ks := ⟨ua, ucap, rfl, hcell⟩
  clear hcell
  go_wp2_with fail
  go_loopg [17] ks.length (fun g i wr => ∃ m : Nat, m ≤ ks.length ∧ g = ks.length - m ∧ i = .int .i64 m ∧ KeysAt wr B (.slice ua ks.length ucap) ks ∧ TabAt wr B (endTo T x (b : Int) (ks.take m)) ∧ w2.grownBy wr (some B))
  case atStart => exact ⟨0, by omega, by omega, rfl, hK, hT2, ⟨rfl, rfl, rfl, Nat.le_refl _, fun _ _ _ => rfl⟩⟩
  case round =>
    clear hK hT2
    obtain ⟨m, hm, hg', rfl, hK, hT, hg⟩ := hrel
    have hxr := hx2.grown hg hne
    by_cases hml : m < ks.length
    · obtain ⟨ua', ucap', e1, hcell⟩ := hK
      obtain ⟨gg, hgB, e2, hcm⟩ := hcell m hml
      cases e1
      subst e2
      have hK : Hid (KeysAt wr B (.slice (some ⟨gg, 0, none⟩) ks.length ucap) ks) := ⟨_, ucap, rfl, hcell⟩
      have hkm := hk10 m hml
      have hki : (ks[m] : Int) < 10 := by omega
      have s1 := hxr.sto ks[m] hkm
      have s2 := hxr.is ks[m] hkm
      have s3 := hxr.num
      have hC := hxr.lt
      have htk := endTo_take T x (b : Int) hml
      have HT : Hid (endTo T x (b : Int) (ks.take (m + 1)) = settleT (endTo T x (b : Int) (ks.take m)) (ks[m] : Int) (endOf x (b : Int) ks[m])) := htk
      clear hcell htk
      cases hi : x.is ks[m] with
      | true =>
        rw [hi] at s2
        have he : Hid (endOf x (b : Int) ks[m] = ⟨(b : Int), false, false, x.n ks[m]⟩) := by show _ = _; unfold endOf; rw [if_pos hi]
        clear hi
        have hT1 : TabAt (wr.alloc (.cells #[.int .i64 (x.n ks[m]), .bool true] 168)) B (endTo T x (b : Int) (ks.take m)) := hT.later ((Below.refl _ _).alloc (Nat.le_refl _) _)
        go_wp2_with fail
        go_region_with (go_at_call 113; refine (set_any B (ks[m] : Int) (b : Int) (x.n ks[m]) _ _ (by exact hT1.kept rfl)).mono ?_; rintro e w3 ⟨rfl, hT3, hg3⟩)
        all_goals go_wp2_with fail
        all_goals go_roundg (ks.length - (m + 1))
        all_goals first | omega | exact ⟨m + 1, by omega, rfl, by go_num, hK.out.kept (grown_trans (grown_trans (grown_alloc wr _ _) (grown_drew _ _)) hg3), by rw [HT.out, he.out]; exact hT3, grown_trans hg (grown_trans (grown_trans (grown_alloc wr _ _) (grown_drew _ _)) hg3)⟩
      | false =>
        rw [hi] at s2
        have he : Hid (endOf x (b : Int) ks[m] = ⟨(b : Int), false, true, 0⟩) := by show _ = _; unfold endOf; rw [if_neg (by simp [hi])]
        clear hi
        have hT1 : TabAt (wr.alloc (.cells #[.int .i64 (x.n ks[m]), .bool false] 168)) B (endTo T x (b : Int) (ks.take m)) := hT.later ((Below.refl _ _).alloc (Nat.le_refl _) _)
        go_wp2_with fail
        refine (void_any B (ks[m] : Int) (b : Int) _ _ hT1).mono ?_
        rintro e w3 ⟨rfl, hT3, hg3⟩
        clear s1 s2 s3 hcm
        go_wp2_with fail
        go_roundg (ks.length - (m + 1))
        case measure => omega
        case rel => exact ⟨m + 1, by omega, rfl, by go_num, hK.out.kept (grown_trans (grown_alloc wr _ _) hg3), by rw [HT.out, he.out]; exact hT3, grown_trans hg (grown_trans (grown_alloc wr _ _) hg3)⟩
    · obtain rfl : m = ks.length := by omega
      rw [List.take_length] at hT
      have q1 := hxr.code
      have q2 := hxr.over
      have q3 := hxr.free
      clear hK
      go_wp2_with fail
      go_ret2
      have hgC : wr.grownBy ((wr.setCell ⟨C, 23, none⟩ (.int .i64 c)).setCell ⟨C, 28, none⟩ (.bool true)) (some C) := grown_trans (grown_setCell wr ⟨C, 23, none⟩ _) (grown_setCell _ ⟨C, 28, none⟩ _)
      exact ⟨rfl, hxr.setOver c, hT.grown hgC (fun e => hne e.symm), ((Grew.of_below hb2).trans (Grew.of_grown hg (Or.inl rfl))).trans (Grew.of_grown hgC (Or.inr rfl))⟩

theorem below_five {B : Nat} {w W : World} (h : Below B w W) {b : Nat} (h1 : B ≤ b) (x0 x1 x2 x3 x4 : Value) : Below B w (((((W.setCell ⟨b, 0, none⟩ x0).setCell ⟨b, 1, none⟩ x1).setCell ⟨b, 2, none⟩ x2).setCell ⟨b, 3, none⟩ x3).setCell ⟨b, 4, none⟩ x4) :=
  ((((h.setCell (p := ⟨b, 0, none⟩) h1 x0).setCell (p := ⟨b, 1, none⟩) h1 x1).setCell (p := ⟨b, 2, none⟩) h1 x2).setCell (p := ⟨b, 3, none⟩) h1 x3).setCell (p := ⟨b, 4, none⟩) h1 x4

set_option maxHeartbeats 400000 in
theorem result_not (C : Nat) (dv : Value) (b : Nat) (x : Wk) (w : World) (hx : WorkAt w C dv b x) (ho : x.over = false) :
    Calls Tryd.prog 98 #[.pointer (some ⟨C, 0, none⟩)] w fun e w' => e = .returned (.tuple #[resV 0 (fun _ => 0), .bool false]) ∧ Below w.heap.size w w' := by
  have h1 := hx.over
  rw [ho] at h1
  have hC := hx.lt
  clear ho
  go_enter Tryd.func98, Tryd.ntmps98
  go_wp2_with fail
  exact bodyPost_ret (v := .tuple #[resV 0 (fun _ => 0), .bool false]) (by simp [results, Tryd.results98, go_sem, resV]) rfl ⟨rfl, (Below.refl _ w).alloc (Nat.le_refl _) _⟩

set_option maxHeartbeats 400000 in
theorem result_over (C : Nat) (dv : Value) (b : Nat) (x : Wk) (w : World) (hx : WorkAt w C dv b x) (ho : x.over = true) :
    Calls Tryd.prog 98 #[.pointer (some ⟨C, 0, none⟩)] w fun e w' => e = .returned (.tuple #[resV x.code x.regs, .bool true]) ∧ Below w.heap.size w w' := by
  have h1 := hx.over
  rw [ho] at h1
  have hC := hx.lt
  have q0 := hx.code
  have q1 : w.cell? ⟨C, 24, none⟩ = some (.int .i64 (x.regs 0)) := hx.reg 0 (by omega)
  have q2 : w.cell? ⟨C, 25, none⟩ = some (.int .i64 (x.regs 1)) := hx.reg 1 (by omega)
  have q3 : w.cell? ⟨C, 26, none⟩ = some (.int .i64 (x.regs 2)) := hx.reg 2 (by omega)
  have q4 : w.cell? ⟨C, 27, none⟩ = some (.int .i64 (x.regs 3)) := hx.reg 3 (by omega)
  clear ho
  go_enter Tryd.func98, Tryd.ntmps98
  go_wp2_with fail
  exact bodyPost_ret (v := .tuple #[resV x.code x.regs, .bool true]) (by simp [results, Tryd.results98, go_sem, resV]) rfl ⟨rfl, (Below.refl _ w).alloc (Nat.le_refl _) _⟩
end Go.Proofs.YtihfjmdjjeciiacDoor
