/-
  The walk of a reader's round.
-/
import Derived.Test.YtokjigebjcgdjacDoorRdD
namespace Go.Proofs.YtokjigebjcgdjacDoor
open Go.RowKit

/-- A row of n deeds whose first ones are laid. -/
structure RPart (w : World) (g n : Nat) (ds : List (List Op5)) : Prop where
  have_ : ∀ i, i < n → ∃ u, w.cell? ⟨g, i, none⟩ = some u
  fr : ∀ o, w.frozen? ⟨g, o, none⟩ = false
  lt : g < w.heap.size
  cell : ∀ i (h : i < ds.length), ∃ dv, w.cell? ⟨g, i, none⟩ = some dv ∧ DeedIn (fun b => g < b) w dv ds[i]
theorem RPart.grew {C : Nat} {w w' : World} {g n : Nat} {ds : List (List Op5)} (h : RPart w g n ds) (hg : Grew (fun b => b = C) w w') (hn : C < g) : RPart w' g n ds :=
  ⟨fun i hi => by obtain ⟨u, hu⟩ := h.have_ i hi; exact ⟨u, hg.cell hu (fun e => by have e' : g = C := e; omega)⟩, fun o => by rw [hg.frozen (p := ⟨g, o, none⟩) h.lt (fun e => by have e' : g = C := e; omega)]; exact h.fr o, Nat.lt_of_lt_of_le h.lt hg.size, fun i hi => by
    obtain ⟨dv, h0, h1⟩ := h.cell i hi
    exact ⟨dv, hg.cell h0 (fun e => by have e' : g = C := e; omega), h1.grew hg (fun b hb e => by omega)⟩⟩
theorem RPart.put {w : World} {g n : Nat} {ds : List (List Op5)} (h : RPart w g n ds) (hlt : ds.length < n) {dv : Value} {d : List Op5} (hd : DeedIn (fun b => g < b) w dv d) : RPart (w.setCell ⟨g, ds.length, none⟩ dv) g n (ds ++ [d]) := by
  obtain ⟨u0, h0⟩ := h.have_ ds.length hlt
  refine ⟨fun i hi => ?_, fun o => by simp only [World.frozen?_setCell]; exact h.fr o, ?_, fun i hi => ?_⟩
  · obtain ⟨u, hu⟩ := h.have_ i hi
    exact set_have _ hu
  · simp only [World.setCell, Array.size_modify]; exact h.lt
  · by_cases hi' : i < ds.length
    · rw [List.getElem_append_left hi']
      obtain ⟨dv', h1, h2⟩ := h.cell i hi'
      exact ⟨dv', by rw [cell_apart' _ (by omega)]; exact h1, h2.grew (grew_cellC _ _ _ _) (fun b hb e => by omega)⟩
    · obtain rfl : i = ds.length := by simp at hi; omega
      rw [List.getElem_append_right (Nat.le_refl _)]
      simp only [Nat.sub_self, List.getElem_cons_zero]
      exact ⟨dv, World.cell?_setCell_same _ _ _ h0, hd.grew (grew_cellC _ _ _ _) (fun b hb e => by omega)⟩
theorem rpart_new (w : World) (cs : Array Value) (n : Nat) (t : TypeId) (hcs : cs.size = n) : RPart (w.alloc (.cells cs t)) w.heap.size n [] := by
  have hg := heap_alloc_new w (.cells cs t)
  refine ⟨fun i hi => ⟨cs[i]'(by omega), ?_⟩, fun o => by go_simp, by simp, fun i hi => by simp at hi⟩
  rw [cell_of_row _ _ i cs t (0, 0) hg]
  simp [show i < cs.size by omega]
/-- A round in blocks of which something is known. -/
def RoundIn (P : Nat → Prop) (w : World) (v : Value) (r : List (List Op5)) : Prop :=
  ∃ a cap, v = .slice a r.length cap ∧ ∀ i (h : i < r.length), ∃ b off, P b ∧ a = some ⟨b, off, none⟩ ∧ ∃ dv, w.cell? ⟨b, off + i, none⟩ = some dv ∧ DeedIn P w dv r[i]
theorem RoundIn.at {P : Nat → Prop} {w : World} {v : Value} {r : List (List Op5)} (h : RoundIn P w v r) : RoundAt w v r := by
  obtain ⟨a, cap, rfl, h⟩ := h
  refine ⟨a, cap, rfl, fun i hi => ?_⟩
  obtain ⟨b, off, -, e, dv, h0, h1⟩ := h i hi
  exact ⟨b, off, e, dv, h0, h1.at⟩
theorem RoundIn.grew {P S : Nat → Prop} {w w' : World} {v : Value} {r : List (List Op5)} (h : RoundIn P w v r) (hg : Grew S w w') (hPS : ∀ b, P b → ¬ S b) : RoundIn P w' v r := by
  obtain ⟨a, cap, rfl, h⟩ := h
  refine ⟨a, cap, rfl, fun i hi => ?_⟩
  obtain ⟨b, off, hp, e, dv, h0, h1⟩ := h i hi
  exact ⟨b, off, hp, e, dv, hg.cell h0 (hPS b hp), h1.grew hg hPS⟩
theorem RPart.round {w : World} {g : Nat} {ds : List (List Op5)} (h : RPart w g ds.length ds) : RoundIn (fun b => g ≤ b) w (.slice (some ⟨g, 0, none⟩) ds.length ds.length) ds :=
  ⟨_, _, rfl, fun i hi => ⟨g, 0, Nat.le_refl _, rfl, by obtain ⟨dv, h0, h1⟩ := h.cell i hi; exact ⟨dv, by simpa using h0, h1.mono fun b _ hb => Nat.le_of_lt hb⟩⟩⟩

set_option maxRecDepth 100000 in
set_option maxHeartbeats 1000000 in
theorem round_some {N C : Nat} {l l' : List Int} {d : List (List Op5)} {w : World} (h : ReadAt w N C l) (e : readRound l = some (d, l')) :
    Calls Tryd.prog 46 #[.pointer (some ⟨C, 0, none⟩)] w fun e w' => (∃ dv, e = .returned dv ∧ RoundIn (fun b => w.heap.size ≤ b) w' dv d) ∧ ReadAt w' N C l' ∧ Grew (fun b => b = C) w w' := by
  cases l with
  | nil => simp [readRound] at e
  | cons x l =>
    have hx := h.all.head
    unfold IsB at hx
    obtain ⟨n, rfl⟩ := Int.eq_ofNat_of_zero_le hx.1
    simp only [readRound, Int.toNat_natCast] at e
    obtain ⟨cs, hcs, hm⟩ := makeRound n (by omega)
    have hlt := h.lt
    have hd : d.length = n := (deedsB_readDeeds h.all.tail e).1
    go_enter Tryd.func46, Tryd.ntmps46
    go_wp2_with fail
    refine (next_some h).mono ?_
    rintro e w1 ⟨rfl, hR1, hG1, hS1⟩
    go_wp2_with fail
    have hP0 := rpart_new w1 cs n 61 hcs
    have hG0 : Grew (fun b => b = C) w (w1.alloc (.cells cs 61)) := hG1.trans (grew_new _ _ _)
    have hR0 := hR1.alloc (.cells cs 61)
    rw [hS1] at hP0
    generalize w1.alloc (.cells cs 61) = W0 at *
    clear hR1 hG1 hS1 w1 hm hcs h
    go_loopg [10] n (fun g i wr => ∃ os d' rest, d = os ++ d' ∧ g = n - os.length ∧ i = .int .i64 (os.length : Int) ∧ Hid (readDeeds d'.length rest = some (d', l')) ∧ ReadAt wr N C rest ∧ Grew (fun b => b = C) w wr ∧ RPart wr w.heap.size n os)
    case atStart => exact ⟨[], d, l, rfl, by simp, rfl, by rw [hd]; exact e, hR0, hG0, hP0⟩
    case round =>
      obtain ⟨os, d', rest, hdd, hg, rfl, hr, hR, hG, hP⟩ := hrel
      clear hR0 hG0 hP0 e
      have hlen : os.length + d'.length = n := by rw [← hd, hdd, List.length_append]
      cases d' with
      | nil =>
        have hr' := hr.out
        simp only [List.length_nil, readDeeds, Option.some.injEq, Prod.mk.injEq, true_and] at hr'
        subst hr'
        simp only [List.append_nil] at hdd
        simp only [List.length_nil, Nat.add_zero] at hlen
        subst hdd
        have hlt' : ¬ ((d.length : Int) < (n : Int)) := by omega
        clear hr
        go_wp2_with fail
        go_ret
        refine ⟨⟨_, rfl, ?_⟩, hR, hG⟩
        rw [← hlen] at hP ⊢
        exact hP.round
      | cons o d' =>
        have hr' := hr.out
        simp only [List.length_cons, readDeeds] at hr' hlen
        clear hr
        cases h1 : readDeed rest with
        | none => rw [h1] at hr'; simp at hr'
        | some y =>
          obtain ⟨o1, rest1⟩ := y
          rw [h1] at hr'
          simp only at hr'
          cases h2 : readDeeds d'.length rest1 with
          | none => rw [h2] at hr'; simp at hr'
          | some z =>
            obtain ⟨d2, l2⟩ := z
            rw [h2] at hr'
            simp only [Option.some.injEq, Prod.mk.injEq, List.cons.injEq] at hr'
            obtain ⟨⟨rfl, rfl⟩, rfl⟩ := hr'
            have hlt' : ((os.length : Int) < (n : Int)) := by omega
            have H2 : Hid (readDeeds d2.length rest1 = some (d2, l2)) := h2
            clear h2
            go_wp2_with fail
            refine (deed_some hR h1).mono ?_
            rintro e w2 ⟨⟨dv, rfl, hD2⟩, hR2, hG2⟩
            have hP2 := hP.grew hG2 (by omega)
            have hG0' := hP.lt
            have hG' := hG.trans hG2
            clear hR hG hP hG2 h1
            have hPP := hP2.put (by omega) (hD2.mono fun b _ hb => by have := hG0'; omega)
            obtain ⟨u0, q0⟩ := hP2.have_ os.length (by omega)
            have q5 := hP2.fr
            clear hP2
            obtain ⟨da, dcap, rfl, -⟩ := hD2
            go_wp2_with fail
            go_roundg (n - (os.length + 1))
            case measure => omega
            case rel => exact ⟨os ++ [o1], d2, rest1, by rw [hdd, List.append_assoc]; rfl, by simp, by simp, H2, hR2.apart (by omega) _ _, grew_one hG' (Nat.le_refl _) _ _, hPP⟩

set_option maxRecDepth 100000 in
set_option maxHeartbeats 1000000 in
theorem round_none {N C : Nat} {l : List Int} {w : World} (h : ReadAt w N C l) (e : readRound l = none) :
    Calls Tryd.prog 46 #[.pointer (some ⟨C, 0, none⟩)] w fun e w' => e = .panicked gave ∧ Grew (fun b => b = C) w w' := by
  cases l with
  | nil =>
    go_enter Tryd.func46, Tryd.ntmps46
    go_wp2_with fail
    refine (next_none h).mono ?_
    rintro e w1 ⟨rfl, rfl⟩
    exact ⟨rfl, rfl, Grew.refl _ _⟩
  | cons x l =>
    have hx := h.all.head
    unfold IsB at hx
    obtain ⟨n, rfl⟩ := Int.eq_ofNat_of_zero_le hx.1
    simp only [readRound, Int.toNat_natCast] at e
    obtain ⟨cs, hcs, hm⟩ := makeRound n (by omega)
    have hlt := h.lt
    go_enter Tryd.func46, Tryd.ntmps46
    go_wp2_with fail
    refine (next_some h).mono ?_
    rintro e w1 ⟨rfl, hR1, hG1, hS1⟩
    go_wp2_with fail
    have hP0 := rpart_new w1 cs n 61 hcs
    have hG0 : Grew (fun b => b = C) w (w1.alloc (.cells cs 61)) := hG1.trans (grew_new _ _ _)
    have hR0 := hR1.alloc (.cells cs 61)
    rw [hS1] at hP0
    generalize w1.alloc (.cells cs 61) = W0 at *
    clear hR1 hG1 hS1 w1 hm hcs h
    go_loopg [10] n (fun g i wr => ∃ os rest, os.length ≤ n ∧ g = n - os.length ∧ i = .int .i64 (os.length : Int) ∧ Hid (readDeeds (n - os.length) rest = none) ∧ ReadAt wr N C rest ∧ Grew (fun b => b = C) w wr ∧ RPart wr w.heap.size n os)
    case atStart => exact ⟨[], l, by simp, by simp, rfl, e, hR0, hG0, hP0⟩
    case round =>
      obtain ⟨os, rest, hlen, hg, rfl, hr, hR, hG, hP⟩ := hrel
      clear hR0 hG0 hP0 e
      have hr' := hr.out
      clear hr
      obtain ⟨m, hm⟩ : ∃ m, n - os.length = m := ⟨_, rfl⟩
      rw [hm] at hr'
      cases m with
      | zero => simp [readDeeds] at hr'
      | succ m =>
        simp only [readDeeds] at hr'
        have hlt' : ((os.length : Int) < (n : Int)) := by omega
        cases h1 : readDeed rest with
        | none =>
          go_wp2_with fail
          refine (deed_none hR h1).mono ?_
          rintro e w2 ⟨rfl, hG2⟩
          exact ⟨rfl, rfl, hG.trans hG2⟩
        | some y =>
          obtain ⟨o1, rest1⟩ := y
          rw [h1] at hr'
          simp only at hr'
          cases h2 : readDeeds m rest1 with
          | some z => rw [h2] at hr'; simp at hr'
          | none =>
            have H2 : Hid (readDeeds m rest1 = none) := h2
            clear h2 hr'
            go_wp2_with fail
            refine (deed_some hR h1).mono ?_
            rintro e w2 ⟨⟨dv, rfl, hD2⟩, hR2, hG2⟩
            have hP2 := hP.grew hG2 (by omega)
            have hG0' := hP.lt
            have hG' := hG.trans hG2
            clear hR hG hP hG2 h1
            have hPP := hP2.put (by omega) (hD2.mono fun b _ hb => by have := hG0'; omega)
            obtain ⟨u0, q0⟩ := hP2.have_ os.length (by omega)
            have q5 := hP2.fr
            clear hP2
            obtain ⟨da, dcap, rfl, -⟩ := hD2
            go_wp2_with fail
            go_roundg (n - (os.length + 1))
            case measure => omega
            case rel => exact ⟨os ++ [o1], rest1, by simp; omega, by simp, by simp, by rw [List.length_append, show n - (os.length + [o1].length) = m by simp; omega]; exact H2, hR2.apart (by omega) _ _, grew_one hG' (Nat.le_refl _) _ _, hPP⟩
end Go.Proofs.YtokjigebjcgdjacDoor
