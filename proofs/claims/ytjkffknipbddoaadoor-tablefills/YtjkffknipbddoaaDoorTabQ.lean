/-
  A deed's slots are filled, whatever it came to; a table that is filled is over, and tells the state.
-/
import Derived.Test.YtjkffknipbddoaaDoorTabP
import Derived.Deep.RegionHeld3
namespace Go.Proofs.YtjkffknipbddoaaDoor
open Go.RowKit Go.Shelf

theorem index_in (i : Int) (n : Nat) (h : 0 < n) (h8 : n ≤ 8) : ∃ m : Nat, m < n ∧ wrap64 ((IntKind.u64.wrap i).tmod (n : Int)) = (m : Int) := by
  rw [IntKind.wrap_u64]
  have h0 : 0 ≤ i % 18446744073709551616 := Int.emod_nonneg _ (by decide)
  generalize i % 18446744073709551616 = x at h0
  rw [Int.tmod_eq_emod_of_nonneg h0]
  have h1 : 0 ≤ x % (n : Int) := Int.emod_nonneg _ (by omega)
  have h2 : x % (n : Int) < n := Int.emod_lt_of_pos _ (by omega)
  generalize x % (n : Int) = y at h1 h2
  refine ⟨y.toNat, by omega, ?_⟩
  rw [IntWalk.wrap64_in y ⟨by omega, by omega⟩]
  omega

/-- Numbers as they lie in memory. -/
def NumsOf (w : World) (v : Value) (l : List Int) : Prop :=
  ∃ a cap, v = .slice a l.length cap ∧ ∀ i (h : i < l.length), ∃ b off, a = some ⟨b, off, none⟩ ∧ w.cell? ⟨b, off + i, none⟩ = some (.int .i64 l[i])

theorem fill_any {V : World} {Q B : Nat} {s : Nat → Int} {r : List (List Op5)} {vS vR : Value} (hF : FillAt V Q B r.length s r vS vR) (hBQ : B < Q) (h8 : r.length ≤ 8) (i : Nat) (hi : i < r.length) (F : Nat → Nat → Bool) (w : World) (hT : TabAt w B (fillF s r F)) (hg : V.grownBy w (some B)) :
    Calls Tryd.prog 46 #[.int .i64 (i : Int), .pointer (some ⟨Q + 1 + 1, 0, none⟩), .pointer (some ⟨Q, 0, none⟩), .pointer (some ⟨Q + 1, 0, none⟩)] w fun e w' => (∃ v, e = .returned v) ∧ TabAt w' B (fillF s r (markTo F i 10)) ∧ V.grownBy w' (some B) := by
  obtain ⟨gS, capS, eS, cS⟩ := owns_cells hF.so (by omega)
  obtain ⟨gR, capR, eR, cR⟩ := owns_cells hF.ro (by omega)
  have hl : (allOut s r).take r.length = allOut s r := by rw [← allOut_length s r, List.take_length]
  rw [hl] at cS cR
  have hlt : i < (allOut s r).length := by rw [allOut_length]; exact hi
  have ho : outAt s r i = (allOut s r)[i] := by unfold outAt; rw [List.getElem?_eq_getElem hlt]; rfl
  have nS : gS ≠ B := by have := (owns_lt hF.so (g := gS) (by rw [eS]; rfl)).1; omega
  have nR : gR ≠ B := by have := (owns_lt hF.ro (g := gR) (by rw [eR]; rfl)).1; omega
  have c1 := cell_grown' hg hF.rp (show Q + 1 + 1 ≠ B by omega)
  have c3 := cell_grown' hg hF.tp (show Q ≠ B by omega)
  have c4 := cell_grown' hg hF.sp (show Q + 1 ≠ B by omega)
  rw [eR] at c1
  rw [eS] at c4
  have c2 : w.cell? ⟨gR, i * 5, none⟩ = some (.int .i64 (outAt s r i).code) := by rw [ho]; exact cell_grown' hg (cR _ _ (resCells_at _ i hlt)) nR
  have c5 : ∀ j, j < 10 → w.cell? ⟨gS, i * 10 + j, none⟩ = some (.int .i64 ((outAt s r i).st j)) := fun j hj => by rw [ho]; exact cell_grown' hg (cS _ _ (stCells_at _ i hlt j hj)) nS
  by_cases hc : (outAt s r i).code = 0
  · refine (fill_set (Q + 1 + 1) Q (Q + 1) gR gS B i r.length capR capS s r F w hi h8 (by omega) (by omega) (by omega) nR nS c1 c2 c3 c4 c5 hc hT).mono ?_
    rintro e w' ⟨he, hT', hg'⟩
    exact ⟨he, hT', grown_trans hg hg'⟩
  · refine (fill_void (Q + 1 + 1) Q (Q + 1) gR B i r.length capR s r F w hi h8 (by omega) (by omega) nR c1 c2 c3 hc hT).mono ?_
    rintro e w' ⟨he, hT', hg'⟩
    exact ⟨he, hT', grown_trans hg hg'⟩

theorem box_range {w : World} {A : Nat} {s : Nat → Int} (h : Box w A s) : w.rangeAt A 0 [.int .i64 (s 0), .int .i64 (s 1), .int .i64 (s 2), .int .i64 (s 3), .int .i64 (s 4), .int .i64 (s 5), .int .i64 (s 6), .int .i64 (s 7), .int .i64 (s 8), .int .i64 (s 9)] := fun j v hv => by
  have hj : j < 10 := by have := (List.getElem?_eq_some_iff.1 hv).1; simpa using this
  rw [Nat.zero_add, h j hj]
  exact (lt10 (P := fun j => [Value.int .i64 (s 0), .int .i64 (s 1), .int .i64 (s 2), .int .i64 (s 3), .int .i64 (s 4), .int .i64 (s 5), .int .i64 (s 6), .int .i64 (s 7), .int .i64 (s 8), .int .i64 (s 9)][j]? = some (.int .i64 (s j))) rfl rfl rfl rfl rfl rfl rfl rfl rfl rfl j hj).symm.trans hv
theorem store_key {r : List (List Op5)} (hck : ∀ d ∈ r, (checkF d).1 = 0) : ∀ d ∈ r, ∀ o ∈ d, o.k = 7 → 0 ≤ o.a := fun d hd o ho h7 => by
  have := alone_parts (checkF_alone (hck d hd) o ho)
  omega
theorem full_over {s : Nat → Int} {r : List (List Op5)} {F : Nat → Nat → Bool} (hF : ∀ k, k < 10 → ∀ i, i < r.length → F i k = true) : overF (fillF s r F) = true := by
  unfold overF
  rw [List.all_eq_true]
  intro k hk
  have hk' : k < 10 := by simpa using hk
  rw [fill_full (hF k hk'), List.all_eq_true]
  intro t ht
  rcases List.mem_cons.1 ht with rfl | ht
  · rfl
  · obtain ⟨i, -, rfl⟩ := List.mem_map.1 ht
    rw [(endSlot_b s r i k).2]; rfl
theorem full_known {s : Nat → Int} {r : List (List Op5)} {F : Nat → Nat → Bool} (k : Nat) : lastF knownP (fillF s r F k) ≠ none := fun h => by
  have := lastF_none.1 h ⟨-1, false, false, s k⟩ (by simp [fillF])
  simp [knownP] at this
theorem full_val {s : Nat → Int} {r : List (List Op5)} {F : Nat → Nat → Bool} (hck : ∀ d ∈ r, (checkF d).1 = 0) (hF : ∀ k, k < 10 → ∀ i, i < r.length → F i k = true) (k : Nat) (hk : k < 10) : valF (fillF s r F k) = allSt s r k :=
  (last_fold knownP _ 0).trans (fill_state (store_key hck) (hF k hk))
theorem markTo_full {F : Nat → Nat → Bool} {m : Nat} (h : ∀ k, k < 10 → ∀ i, i < m → F i k = true) : ∀ k, k < 10 → ∀ i, i < m + 1 → markTo F m 10 i k = true := fun k hk i hi => by
  unfold markTo
  by_cases e : i = m
  · simp [e, hk]
  · rw [if_neg (by simp [e])]; exact h k hk i (by omega)
end Go.Proofs.YtjkffknipbddoaaDoor
