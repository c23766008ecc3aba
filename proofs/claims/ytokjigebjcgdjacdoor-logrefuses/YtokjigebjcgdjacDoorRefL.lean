/-
  The walk of Great, with what it tells of a round's size; a round of the call's own that may be written.
-/
import Derived.Test.YtokjigebjcgdjacDoorStpL
namespace Go.Proofs.YtokjigebjcgdjacDoor
open Go.RowKit

/-- How many operations the first deeds have. -/
def sumL (r : List (List Op5)) (j : Nat) : Nat := ((r.take j).map List.length).sum
theorem sumL_succ {r : List (List Op5)} {j : Nat} (h : j < r.length) : sumL r (j + 1) = sumL r j + r[j].length := by
  unfold sumL
  rw [List.take_succ_eq_append_getElem h, List.map_append, List.sum_append]; simp
theorem sumL_le {r : List (List Op5)} {m : Nat} (h : ∀ i (hi : i < r.length), r[i].length ≤ m) : ∀ j, j ≤ r.length → sumL r j ≤ j * m
  | 0, _ => by simp [sumL]
  | j + 1, hj => by
    have := sumL_le h j (by omega)
    have := h j (by omega)
    rw [sumL_succ (by omega), Nat.add_mul]; omega
theorem le_sumL {r : List (List Op5)} (j : Nat) (hj : j ≤ r.length) (i : Nat) (hi : i < r.length) (hij : i < j) : r[i].length ≤ sumL r j := by
  induction j with
  | zero => omega
  | succ j ih =>
    rw [sumL_succ (by omega)]
    by_cases e : i = j
    · subst e; omega
    · have := ih (by omega) (by omega)
      omega

/-- It tells a bool; with false the round is small. -/
def GreatOut (r : List (List Op5)) (e : Ending) : Prop := ∃ g : Bool, e = .returned (.bool g) ∧ (g = false → r.length ≤ 60 ∧ ∀ i (h : i < r.length), r[i].length ≤ 500)

set_option maxHeartbeats 1000000 in
theorem greatL_any (v : Value) (r : List (List Op5)) (w : World) (hr : RoundAt w v r) (hf : Fits r) (hb : ∀ i (h : i < r.length), r[i].length ≤ 140737488355328) :
    Calls Tryd.prog 9 #[v] w fun e w' => GreatOut r e ∧ w' = w := by
  have hm := hf.1
  have HS : Hid (∀ j, j ≤ r.length → sumL r j ≤ j * 140737488355328) := sumL_le hb
  obtain ⟨a, cap, rfl, hr⟩ := hr
  go_enter Tryd.func9, Tryd.ntmps9
  go_wp2_with fail
  go_loopg [3, 4] r.length (fun g n i wr => ∃ j : Nat, j ≤ r.length ∧ j ≤ 100 ∧ g = r.length - j ∧ i = .int .i64 (j : Int) ∧ n = .int .i64 (sumL r j : Int) ∧ wr = w)
  case atStart => exact ⟨0, by omega, by omega, by omega, rfl, rfl, rfl⟩
  case round =>
    obtain ⟨j, hj, h100, hg, rfl, rfl, rfl⟩ := hrel
    have hs := HS.out j hj
    by_cases hlt : j < r.length
    · by_cases hlt' : j < 100
      · obtain ⟨b, off, rfl, dv, c0, hD⟩ := hr j hlt
        obtain ⟨a', cap', rfl, -⟩ := hD
        have hm' := hb j hlt
        have hsu : Hid (sumL r (j + 1) = sumL r j + r[j].length) := sumL_succ hlt
        have hj' : sumL r j ≤ 14073748835532800 := by omega
        clear hr HS hs
        generalize r[j].length = d at *
        generalize sumL r j = s at *
        go_wp2_with fail
        go_roundg (r.length - (j + 1))
        case measure => omega
        case rel => exact ⟨j + 1, by omega, by omega, rfl, by go_num, by rw [hsu.out]; simp, rfl⟩
      · have h60 : 60 < r.length := by omega
        clear hr HS
        go_wp2_with fail
        all_goals go_ret
        all_goals exact ⟨⟨_, rfl, fun h => by first | (simp at h; omega) | simp at h⟩, rfl⟩
    · obtain rfl : j = r.length := by omega
      have hle : Hid (∀ i (hi : i < r.length), r[i].length ≤ sumL r r.length) := fun i hi => le_sumL r.length (Nat.le_refl _) i hi hi
      clear hr HS
      generalize sumL r r.length = s at *
      go_wp2_with fail
      all_goals go_ret
      all_goals exact ⟨⟨_, rfl, fun h => by
        first
        | (simp at h
           refine ⟨by omega, fun i hi => ?_⟩
           have := hle.out i hi
           omega)
        | simp at h⟩, rfl⟩

/-- A round of the call's own: its row beside S, its deeds in S, and to be written. -/
def OwnW (S : Nat → Prop) (w : World) (u : Value) (r : List (List Op5)) : Prop :=
  ∃ a cap, u = .slice a r.length cap ∧ ∀ i (h : i < r.length), ∃ b off, a = some ⟨b, off, none⟩ ∧ ¬ S b ∧ ∃ da dcap, w.cell? ⟨b, off + i, none⟩ = some (.slice da r[i].length dcap) ∧
    ∀ k, k < r[i].length → ∃ db doff, da = some ⟨db, doff, none⟩ ∧ S db ∧ (∃ x, w.cell? ⟨db, doff + k * 5 + 4, none⟩ = some x) ∧ ∀ o, w.frozen? ⟨db, o, none⟩ = false
theorem OwnLAt.ownW {w : World} {N : Nat} {u : Value} {Dd : Nat → Value} {r : List (List Op5)} (h : OwnLAt w N u r.length Dd r) : OwnW (fun b => (N ≤ b ∧ b < w.heap.size) ∧ u.ownBlock ≠ some b) w u r := by
  obtain ⟨a, cap, hu, -⟩ := owns_slice h.row
  refine ⟨a, cap, hu, fun i hi => ?_⟩
  obtain ⟨g, cap', e, hc⟩ := owns_cells h.row (by omega)
  rw [hu] at e
  cases e
  obtain ⟨⟨da, dcap, e1, hk⟩, hz⟩ := h.dd i hi hi
  refine ⟨g, 0, rfl, fun hS => hS.2 (by rw [hu]; rfl), da, dcap, by rw [Nat.zero_add, ← e1]; exact hc i _ (by simp [hi]), fun k hk' => ?_⟩
  obtain ⟨db, doff, hp, rfl, q0, q1, q2, q3, q4⟩ := hk k hk'
  exact ⟨db, doff, rfl, ⟨⟨hp.1, World.block_lt_of_cell? w _ q4⟩, hp.2⟩, ⟨_, q4⟩, (hz db doff _ _ e1).2.2⟩
theorem OwnW.grew {S T : Nat → Prop} {w w' : World} {u : Value} {r : List (List Op5)} (h : OwnW S w u r) (hg : Grew T w w') (hT : ∀ b, S b → ¬ T b) (hT' : ∀ b off n c, u = .slice (some ⟨b, off, none⟩) n c → 0 < n → ¬ T b) : OwnW S w' u r := by
  obtain ⟨a, cap, rfl, h⟩ := h
  refine ⟨a, cap, rfl, fun i hi => ?_⟩
  obtain ⟨b, off, rfl, hS, da, dcap, hc, hk⟩ := h i hi
  refine ⟨b, off, rfl, hS, da, dcap, hg.cell hc (hT' b off _ _ rfl (by omega)), fun k hk' => ?_⟩
  obtain ⟨db, doff, rfl, hS', ⟨x, hx⟩, hf⟩ := hk k hk'
  have hlt : db < w.heap.size := World.block_lt_of_cell? w _ hx
  exact ⟨db, doff, rfl, hS', ⟨x, hg.cell hx (hT db hS')⟩, fun o => by rw [hg.frozen (p := ⟨db, o, none⟩) hlt (hT db hS')]; exact hf o⟩
theorem OwnW.later {S : Nat → Prop} {w w' : World} {u : Value} {r : List (List Op5)} (h : OwnW S w u r) (hb : Below w.heap.size w w') : OwnW S w' u r := h.grew (T := fun _ => False) (Grew.of_below hb) (fun _ _ h => h) (fun _ _ _ _ _ _ h => h)
/-- One of its cells is written. -/
theorem OwnW.set {S : Nat → Prop} {w : World} {u : Value} {r : List (List Op5)} (h : OwnW S w u r) {g : Nat} (hg : S g) (o : Nat) (v : Value) : OwnW S (w.setCell ⟨g, o, none⟩ v) u r := by
  obtain ⟨a, cap, rfl, h⟩ := h
  refine ⟨a, cap, rfl, fun i hi => ?_⟩
  obtain ⟨b, off, rfl, hS, da, dcap, hc, hk⟩ := h i hi
  refine ⟨b, off, rfl, hS, da, dcap, by rw [World.cell?_setCell_other _ _ _ _ (fun e => by simp only [Addr.mk.injEq] at e; have e' := e.1; subst e'; exact hS hg)]; exact hc, fun k hk' => ?_⟩
  obtain ⟨db, doff, rfl, hS', ⟨x, hx⟩, hf⟩ := hk k hk'
  refine ⟨db, doff, rfl, hS', ?_, fun o' => by rw [World.frozen?_setCell]; exact hf o'⟩
  by_cases e : db = g
  · subst e; exact set_have v hx
  · exact ⟨x, by rw [World.cell?_setCell_other _ _ _ _ (fun h => by simp only [Addr.mk.injEq] at h; omega)]; exact hx⟩
end Go.Proofs.YtokjigebjcgdjacDoor
