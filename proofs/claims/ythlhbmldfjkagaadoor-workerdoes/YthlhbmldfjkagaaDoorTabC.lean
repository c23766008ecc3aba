/-
  The walk of last: the last slot of a key that is as asked for.
-/
import Derived.Test.YthlhbmldfjkagaaDoorTabB
import Derived.Deep.RegionWith
import Derived.Sort.QuietIn
namespace Go.Proofs.YthlhbmldfjkagaaDoor
open Go.RowKit Go.Shelf

attribute [local go_sem] Oper.semAt_some

/-- What a body must achieve that does not panic. -/
def noPanic (Q : Exit → Act → World → Prop) : Exit → Act → World → Prop
  | .panic _, _, _ => False
  | e, a, w => Q e a w
theorem wpIn_noPanic {F : Fence} {n : Nat} {P : Program} {c : Code} {Q : Exit → Act → World → Prop} {a : Act} {w : World} (h : c.wpIn F n P (noPanic Q) a w) : c.wpIn F n P Q a w :=
  Code.wpIn_mono (fun e a w h => by cases e <;> first | exact h | exact False.elim h) h

theorem KeepsFrom.of_below {B : Nat} {W W' : World} (h : Below W.heap.size W W') : KeepsFrom B W W' := ⟨h.size, fun k _ _ hk _ => (h.block k (Array.getElem?_eq_some_iff.1 hk).1).trans hk⟩

theorem lastF_back_none {p : Slot4 → Bool} {l : List Slot4} {ys : List (Num l)} (hy : ys.map (·.1) = backN l l.length) (hp : ∀ q ∈ ys, p (slotAt l q.1) = false) : lastF p l = none := by
  rw [lastF_none]
  intro s hs
  obtain ⟨j, hj, rfl⟩ := List.mem_iff_getElem.1 hs
  have hm : j ∈ ys.map (·.1) := by
    rw [hy, backN, upto]
    exact List.mem_map.2 ⟨l.length - 1 - j, by simp; omega, by omega⟩
  obtain ⟨q, hq, e⟩ := List.mem_map.1 hm
  have := hp q hq
  rw [e, slotAt_get hj] at this
  exact this
theorem lastF_back_some {p : Slot4 → Bool} {l : List Slot4} {ini : List (Num l)} {last : Num l} {k : Nat} (hy : (ini ++ [last]).map (·.1) = backN l k) (hp : ∀ q ∈ ini, p (slotAt l q.1) = false) (hl : p (slotAt l last.1) = true) : lastF p l = some last.1 := by
  cases k with
  | zero => simp [backN, upto] at hy
  | succ k =>
    rw [backN, upto_succ, List.map_append] at hy
    obtain ⟨h1, h2⟩ := List.append_inj' hy rfl
    have h3 : last.1 = l.length - 1 - k := by simpa using h2
    have hlt := last.2
    rw [lastF_some]
    refine ⟨last.2, hl, fun j hj hjl => ?_⟩
    have hm : j ∈ ini.map (·.1) := by
      rw [h1, upto]
      exact List.mem_map.2 ⟨l.length - 1 - j, by simp; omega, by omega⟩
    obtain ⟨q, hq, e⟩ := List.mem_map.1 hm
    have := hp q hq
    rw [e] at this
    exact this

def lastPtr (B k : Nat) (p : Slot4 → Bool) (l : List Slot4) : Option Addr := (lastF p l).map fun i => ⟨B, k * 37 + i * 4, none⟩

set_option maxRecDepth 100000 in
set_option maxHeartbeats 2000000 in
theorem last_any (B k : Nat) (hk : k < 10) (l : List Slot4) (f : Nat) (cap : Array Value) (p : Slot4 → Bool) (w : World) (hrow : RowAt w B (k * 37) l) (hask : Asks f cap p w)
    (ef : ∀ args w, (callFunc f args).run Tryd.prog w = .ok (.enter f args) w) :
    Calls Tryd.prog 61 #[.pointer (some ⟨B, 0, none⟩), .int .i64 (k : Int), .func (.func f) #[] cap] w fun e w' => e = .returned (.pointer (lastPtr B k p l)) ∧ Below w.heap.size w w' := by
  have hB : B < w.heap.size := World.block_lt_of_cell? w _ hrow.many
  have hk' : (k : Int) < 10 := by omega
  have hmx : Tryd.prog.follows .mixedOrders = true := by kernel_rfl
  refine (callsIn_wide (n := 5)).1 ?_
  refine callsIn_of_wp_marks Tryd.func61 rfl trivial (wpIn_noPanic ?_) rfl
  simp only [Tryd.ntmps61, List.size_toArray, List.length_cons, List.length_nil, Nat.reduceAdd, Nat.reduceSub, Array.replicate_succ, Array.replicate_zero, List.push_toArray, List.append_toArray, List.nil_append, List.cons_append]
  gi_wp2_with (refine ⟨trivial, ?_⟩; gi_at_call 39; refine (callsIn_wide.2 (key_in k hk _)).mono ?_; rintro e w' ⟨rfl, rfl⟩)
  have hB0 : Below w.heap.size w ((((w.alloc (.cells #[.pointer (some ⟨B, 0, none⟩)] 61)).alloc (.cells #[.int .i64 (k : Int)] 3)).alloc (.cells #[.func (.func f) #[] cap] 115)).alloc (.cells #[.pointer none] 113)) :=
    ((((Below.refl _ w).alloc (Nat.le_refl _) _).alloc (by simp) _).alloc (by simp; omega) _).alloc (by simp; omega) _
  obtain ⟨W0, e0⟩ : ∃ W0, W0 = ((((w.alloc (.cells #[.pointer (some ⟨B, 0, none⟩)] 61)).alloc (.cells #[.int .i64 (k : Int)] 3)).alloc (.cells #[.func (.func f) #[] cap] 115)).alloc (.cells #[.pointer none] 113)) := ⟨_, rfl⟩
  rw [← e0] at hB0 ⊢
  have hsz : W0.heap.size = w.heap.size + 4 := by rw [e0]; simp
  have b0 : W0.cell? ⟨w.heap.size, 0, none⟩ = some (.pointer (some ⟨B, 0, none⟩)) := by rw [e0]; go_simp
  have b1 : W0.cell? ⟨w.heap.size + 1, 0, none⟩ = some (.int .i64 (k : Int)) := by rw [e0]; go_simp
  have b2 : W0.cell? ⟨w.heap.size + 1 + 1, 0, none⟩ = some (.func (.func f) #[] cap) := by rw [e0]; go_simp
  have b3 : W0.cell? ⟨w.heap.size + 1 + 1 + 1, 0, none⟩ = some (.pointer none) := by rw [e0]; go_simp
  have b4 : W0.frozen? ⟨w.heap.size + 1 + 1 + 1, 0, none⟩ = false := by rw [e0]; go_simp
  clear e0
  have hrow0 := hrow.later hB0
  rename_i K hK
  refine (?_ : _ → _) (hK { tmps := #[.pointer (some ⟨B, 0, none⟩), .int .i64 (k : Int), .func (.func f) #[] cap, .pointer (some ⟨w.heap.size, 0, none⟩), .pointer (some ⟨w.heap.size + 1, 0, none⟩), .pointer (some ⟨w.heap.size + 1 + 1, 0, none⟩), .pointer (some ⟨w.heap.size + 1 + 1 + 1, 0, none⟩), undef, undef, .int .i64 (k : Int), .bool true, .bool false, .pointer (some ⟨B, 0, none⟩), .int .i64 (k : Int), .pointer (some ⟨B, 0, none⟩), .pointer (some ⟨B, 0, none⟩), .pointer (some ⟨B, k * 37, none⟩), .slice (some ⟨B, k * 37, none⟩) l.length 9, .func (.func 81) #[] #[.pointer (some ⟨w.heap.size + 4, 0, none⟩)], undef, undef, undef, undef, undef, undef, undef, undef, undef, undef, undef, undef, undef, undef, undef, undef], defers := [] } (W0.alloc (.cells #[.slice (some ⟨B, k * 37, none⟩) l.length 9] 73)).drew.drew ?_)
  · intro key
    refine wpIn_wide.2 ?_
    go_region_with (first | (go_at_call 68; refine (all_row B (k * 37) l _ (hrow0.later (Below.refl _ _).drew)).mono ?_; rintro e w' ⟨rfl, rfl⟩) | (go_at_call 79; refine (backward_any _ _ _ _ rfl _).mono ?_; rintro e w' ⟨rfl, rfl⟩))
    all_goals exact key
  · clear hK
    gi_wp2
    obtain ⟨W1, e1⟩ : ∃ W1, W1 = (W0.alloc (.cells #[.slice (some ⟨B, k * 37, none⟩) l.length 9] 73)).drew.drew := ⟨_, rfl⟩
    rw [← e1]
    have hB1 : Below w.heap.size w W1 := by rw [e1]; exact (hB0.alloc hB0.size _).drew.drew
    have hB01 : Below W0.heap.size W0 W1 := by rw [e1]; exact ((Below.refl _ _).alloc (Nat.le_refl _) _).drew.drew
    have hsz1 : W1.heap.size = w.heap.size + 5 := by rw [e1]; simp [hsz]
    have b5 : W1.cell? ⟨w.heap.size + 4, 0, none⟩ = some (.slice (some ⟨B, k * 37, none⟩) l.length 9) := by rw [e1, ← hsz]; go_simp
    clear e1
    replace b0 := cell_later hB01 b0
    replace b1 := cell_later hB01 b1
    replace b2 := cell_later hB01 b2
    replace b3 := cell_later hB01 b3
    replace b4 : W1.frozen? ⟨w.heap.size + 1 + 1 + 1, 0, none⟩ = false := (hB01.frozen (p := ⟨w.heap.size + 1 + 1 + 1, 0, none⟩) (by simp; omega)).trans b4
    have hrow1 := hrow.later hB1
    clear hB01 hrow0 hB0 hsz
    refine wpIn_rangeFunc_ownG rfl (by omega) (gf := 81) (lb := #[.pointer (some ⟨w.heap.size + 4, 0, none⟩)]) rfl trivial (enters_of Tryd.func81 (by kernel_rfl) rfl)
      (back_stops Fence.wide _ trivial rfl (by omega) (w.heap.size + 4) B (k * 37) l W1 b5 hrow1) belowK_t (belowK_b (Nat.le_refl _)) (Below.refl _ _) (fun _ => rfl)
      (fun pre W => (∀ q ∈ pre, p (slotAt l q.1) = false) ∧ Below W1.heap.size W1 W)
      (fun c pre W => (c = .ret ∧ ∃ ini last, pre = ini ++ [last] ∧ (∀ q ∈ ini, p (slotAt l q.1) = false) ∧ p (slotAt l last.1) = true ∧ W.cell? ⟨w.heap.size + 1 + 1 + 1, 0, none⟩ = some (.pointer (some ⟨B, k * 37 + last.1 * 4, none⟩))) ∧ Below w.heap.size w W)
      (OwnFrom.and (fun _ _ _ _ hs _ _ => hs) (ownFrom_below (Nat.le_refl _) (Nat.le_refl _)))
      (fun c => OwnFrom.and (Own.from (fun s A B row hs hg hr => by obtain ⟨hc, ini, last, e1, e2, e3, e4⟩ := hs; exact ⟨hc, ini, last, e1, e2, e3, cell_kept e4 hg hr⟩) _) (ownFrom_below (Nat.le_refl _) (by omega)))
      ⟨by simp, Below.refl _ _⟩
      (fun x => { tmps := #[.pointer (some ⟨B, 0, none⟩), .int .i64 (k : Int), .func (.func f) #[] cap, .pointer (some ⟨w.heap.size, 0, none⟩), .pointer (some ⟨w.heap.size + 1, 0, none⟩), .pointer (some ⟨w.heap.size + 1 + 1, 0, none⟩), .pointer (some ⟨w.heap.size + 1 + 1 + 1, 0, none⟩), .int .i64 (x.1 : Int), undef, .int .i64 (k : Int), .bool true, .bool false, .pointer (some ⟨B, 0, none⟩), .int .i64 (k : Int), .pointer (some ⟨B, 0, none⟩), .pointer (some ⟨B, 0, none⟩), .pointer (some ⟨B, k * 37, none⟩), .slice (some ⟨B, k * 37, none⟩) l.length 9, .func (.func 81) #[] #[.pointer (some ⟨w.heap.size + 4, 0, none⟩)], .int .i64 (x.1 : Int), .agg #[.int .i64 (slotAt l x.1).b, .bool (slotAt l x.1).op, .bool (slotAt l x.1).vo, .int .i64 (slotAt l x.1).n], undef, undef, undef, undef, undef, undef, undef, undef, undef, undef, undef, undef, undef, undef], defers := [] }) ?assign ?body ?done ?stop
    case assign =>
      intro l x W K hK
      gi_wp2
      exact hK
    case body =>
      rintro L pre ⟨x, hx⟩ W ⟨hp, hB⟩ _
      have hl9 := hrow1.len
      have hx9 : (x : Int) < 9 := by omega
      replace b0 := cell_later hB b0
      replace b1 := cell_later hB b1
      replace b2 := cell_later hB b2
      replace b3 := cell_later hB b3
      replace b4 : W.frozen? ⟨w.heap.size + 1 + 1 + 1, 0, none⟩ = false := (hB.frozen (p := ⟨w.heap.size + 1 + 1 + 1, 0, none⟩) (by simp; omega)).trans b4
      obtain ⟨c0, c1, c2, c3⟩ := (hrow1.later hB).cell x hx
      gi_wp2
      rename_i K2 hK2
      refine (?_ : _ → _) (hK2 { tmps := #[.pointer (some ⟨B, 0, none⟩), .int .i64 (k : Int), .func (.func f) #[] cap, .pointer (some ⟨w.heap.size, 0, none⟩), .pointer (some ⟨w.heap.size + 1, 0, none⟩), .pointer (some ⟨w.heap.size + 1 + 1, 0, none⟩), .pointer (some ⟨w.heap.size + 1 + 1 + 1, 0, none⟩), .int .i64 (x : Int), .pointer (some ⟨B, k * 37 + x * 4, none⟩), .int .i64 (k : Int), .bool true, .bool false, .pointer (some ⟨B, 0, none⟩), .int .i64 (k : Int), .pointer (some ⟨B, 0, none⟩), .pointer (some ⟨B, 0, none⟩), .pointer (some ⟨B, k * 37, none⟩), .slice (some ⟨B, k * 37, none⟩) l.length 9, .func (.func 81) #[] #[.pointer (some ⟨w.heap.size + 4, 0, none⟩)], .int .i64 (x : Int), .agg #[.int .i64 (slotAt l x).b, .bool (slotAt l x).op, .bool (slotAt l x).vo, .int .i64 (slotAt l x).n], .pointer (some ⟨B, 0, none⟩), .int .i64 (k : Int), .int .i64 (x : Int), .pointer (some ⟨B, 0, none⟩), .pointer (some ⟨B, 0, none⟩), .pointer (some ⟨B, k * 37, none⟩), .pointer (some ⟨B, k * 37, none⟩), .pointer (some ⟨B, k * 37 + x * 4, none⟩), undef, undef, undef, undef, undef, undef], defers := [] } W.drew ?_)
      · intro key
        gi_region_with_o (fail)
        all_goals exact key
      clear hK2
      gi_wp2
      rename_i K3 hK3
      refine (?_ : _ → _) (fun (w'' : World) (hb : Below W.heap.size W w'') => hK3 { tmps := #[.pointer (some ⟨B, 0, none⟩), .int .i64 (k : Int), .func (.func f) #[] cap, .pointer (some ⟨w.heap.size, 0, none⟩), .pointer (some ⟨w.heap.size + 1, 0, none⟩), .pointer (some ⟨w.heap.size + 1 + 1, 0, none⟩), .pointer (some ⟨w.heap.size + 1 + 1 + 1, 0, none⟩), .int .i64 (x : Int), .pointer (some ⟨B, k * 37 + x * 4, none⟩), .int .i64 (k : Int), .bool true, .bool false, .pointer (some ⟨B, 0, none⟩), .int .i64 (k : Int), .pointer (some ⟨B, 0, none⟩), .pointer (some ⟨B, 0, none⟩), .pointer (some ⟨B, k * 37, none⟩), .slice (some ⟨B, k * 37, none⟩) l.length 9, .func (.func 81) #[] #[.pointer (some ⟨w.heap.size + 4, 0, none⟩)], .int .i64 (x : Int), .agg #[.int .i64 (slotAt l x).b, .bool (slotAt l x).op, .bool (slotAt l x).vo, .int .i64 (slotAt l x).n], .pointer (some ⟨B, 0, none⟩), .int .i64 (k : Int), .int .i64 (x : Int), .pointer (some ⟨B, 0, none⟩), .pointer (some ⟨B, 0, none⟩), .pointer (some ⟨B, k * 37, none⟩), .pointer (some ⟨B, k * 37, none⟩), .pointer (some ⟨B, k * 37 + x * 4, none⟩), .func (.func f) #[] cap, .pointer (some ⟨B, k * 37 + x * 4, none⟩), .pointer (some ⟨B, k * 37 + x * 4, none⟩), .agg #[.int .i64 (slotAt l x).b, .bool (slotAt l x).op, .bool (slotAt l x).vo, .int .i64 (slotAt l x).n], .bool (p (slotAt l x)), undef], defers := [] } w'' ?_)
      · intro key
        gi_region_with_o (refine ⟨trivial, ?_⟩; gi_at_fn f; refine (CallsIn.inRound L (callsIn_wide.2 (hask (slotAt l x) _ (hB1.trans ((hB.drew.drew).mono hB1.size))))).mono ?_; rintro e w' ⟨rfl, hbw⟩)
        all_goals exact key _ ((Below.refl _ _).drew.drew.trans hbw)
      clear hK3
      have hBx : Below W1.heap.size W1 w'' := hB.trans (hb.mono hB.size)
      have hBw : Below w.heap.size w w'' := hB1.trans (hBx.mono hB1.size)
      replace b3 := cell_later hb b3
      replace b4 : w''.frozen? ⟨w.heap.size + 1 + 1 + 1, 0, none⟩ = false := (hb.frozen (p := ⟨w.heap.size + 1 + 1 + 1, 0, none⟩) (by have := hB.size; simp; omega)).trans b4
      clear b0 b1 b2 c0 c1 c2 c3
      cases hpx : p (slotAt l x)
      · gi_wp2
        exact ⟨KeepsFrom.of_below hb, hb.mono hB.size, fun q hq => by
          rcases List.mem_append.1 hq with hq | hq
          · exact hp q hq
          · simp at hq; subst hq; exact hpx, hBx⟩
      · gi_wp2
        exact ⟨(KeepsFrom.of_below hb).trans ((KeepsOthers.setCell _ _ _).from _), ⟨rfl, pre, ⟨x, hx⟩, rfl, hp, hpx, World.cell?_setCell_same' _ _ _ (by rw [b3]; rfl)⟩, hBw.setCell (p := ⟨w.heap.size + 1 + 1 + 1, 0, none⟩) (by simp; omega) _⟩
    case done =>
      rintro D ys W hD hS ⟨hp, hB⟩ hK'
      have hBw : Below w.heap.size w W := hB1.trans (hB.mono hB1.size)
      replace b3 := cell_later hB b3
      replace b4 : W.frozen? ⟨w.heap.size + 1 + 1 + 1, 0, none⟩ = false := (hB.frozen (p := ⟨w.heap.size + 1 + 1 + 1, 0, none⟩) (by simp; omega)).trans b4
      have hlast := lastF_back_none hS hp
      clear b0 b1 b2 b5
      gi_wp2
      have hK5 := (KeepsOthers.setCell W ⟨w.heap.size + 1 + 1 + 1, 0, none⟩ (.pointer none)).same D _ hK' rfl
      have hc5 := cell_kept (World.cell?_setCell_same' W ⟨w.heap.size + 1 + 1 + 1, 0, none⟩ (.pointer none) (by rw [b3]; rfl)) (grownBy_putObj' _ D (.deferred none)) (fun r e => by cases e; exact ⟨_, hK5, rfl⟩)
      simp only [noPanic, bodyPostM]
      refine ⟨by simp, .inl ⟨_, _, rfl, run_takeDeferred hK5, ?_⟩⟩
      refine ⟨.pointer none, ?_, by rw [lastPtr, hlast]; rfl, (hBw.setCell (p := ⟨w.heap.size + 1 + 1 + 1, 0, none⟩) (by simp; omega) _).trans (belowK_b (w := w) (Nat.le_refl _) _ D _ _ (by omega) hK5 rfl rfl)⟩
      simp [results, Tryd.results61, go_sem, hc5]
    case stop =>
      rintro D c pre W hD ⟨k', hk', hS⟩ ⟨⟨rfl, ini, last, rfl, hp, hl, hcr⟩, hBw⟩ hK'
      have hlast := lastF_back_some hS hp hl
      gi_wp2
      have hc5 := cell_kept hcr (grownBy_putObj' _ D (.deferred none)) (fun r e => by cases e; exact ⟨_, hK', rfl⟩)
      simp only [noPanic, bodyPostM]
      refine ⟨by simp, .inl ⟨_, _, rfl, run_takeDeferred hK', ?_⟩⟩
      refine ⟨.pointer (some ⟨B, k * 37 + last.1 * 4, none⟩), ?_, by rw [lastPtr, hlast]; rfl, hBw.trans (belowK_b (w := w) (Nat.le_refl _) W D _ _ (by omega) hK' rfl rfl)⟩
      simp [results, Tryd.results61, go_sem, hc5]
end Go.Proofs.YthlhbmldfjkagaaDoor
