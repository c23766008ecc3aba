/-
  What the form's reach tells of a round's size when the call begins.
-/
import Derived.Test.YtokjigebjcgdjacDoorOpenL
import Derived.SizedLaws
namespace Go.Proofs.YtokjigebjcgdjacDoor
open Go.ChangeShapes Go.WideShapes Go.ChangeAt Go.RowKit

set_option maxRecDepth 100000

theorem bytesOpZ : Tryd.prog.bytesOf 63 = 40 := by kernel_rfl
theorem weightsAll_mem {H : Type} {P : Program} {e : TypeId} {l : List (DataW H)} {d : DataW H} (hd : d ∈ l) {n : Nat} (hn : n ∈ d.weights P e) : n ∈ DataW.weightsAll P e l := by
  induction l with
  | nil => cases hd
  | cons x l ih =>
    rw [DataW.weightsAll]
    rcases List.mem_cons.1 hd with rfl | hd
    · exact List.mem_append_left _ hn
    · exact List.mem_append_right _ (ih hd)

section
variable {H : Type} {enc : TypeId × Value → H} {w : World} {base : Nat} {sp : Nat → Bool} {held : Bool}

theorem deed_len {fuel : Nat} {u : Value} {x : DataW H × List MemPlace} (h : DataW.trod enc Tryd.prog w base sp held fuel 61 [u] = some x) (hw : ∀ n ∈ x.1.weights Tryd.prog 61, n ≤ reachBytes) {d : List Op5} (hd : DeedAt w u d) : d.length ≤ 140737488355328 := by
  obtain ⟨a', cap', rfl, -⟩ := hd
  rcases Go.Deep.open_slice Tryd.underlying61 h with ⟨hc, -⟩ | ⟨a, len, cap, m, n, D, Pl, hc, hb, hl, hm, hmm, rfl, -⟩
  · simp only [List.cons.injEq, and_true, Value.slice.injEq] at hc
    omega
  · simp only [List.cons.injEq, and_true, Value.slice.injEq] at hc
    have := hw _ (by rw [DataW.weights, Tryd.underlying61]; exact List.mem_cons_self)
    rw [bytesOpZ] at this
    simp only [List.length_map, List.length_range, reachBytes] at this
    omega
theorem round_len {v : Value} {d : DataW H} {ps : List MemPlace} (h : DataW.Trod enc Tryd.prog w base sp held 23 v d ps) (hw : ∀ n ∈ d.weights Tryd.prog 23, n ≤ reachBytes) {r : List (List Op5)} (hr : RoundAt w v r) : ∀ i (hi : i < r.length), r[i].length ≤ 140737488355328 := by
  intro i hi
  obtain ⟨a', cap', rfl, hr⟩ := hr
  obtain ⟨b, off, rfl, dv, hdv, hD⟩ := hr i hi
  obtain ⟨fuel, hf⟩ := h
  rcases Go.Deep.open_slice1 Tryd.underlying23 cells32C hf with ⟨hc, -⟩ | ⟨a, len, cap, m, n, V, D, Pl, hc, hb, hl, hm, hmm, hx, hV⟩
  · simp [Value.cells] at hc
  · simp [Value.cells] at hc
    obtain ⟨rfl, rfl, rfl⟩ := hc
    have hlm : i < m := by
      have : r.length ≤ m := by rw [hmm]; split <;> omega
      omega
    obtain ⟨h1, h2⟩ := hV i hlm
    rw [add_offC, hdv] at h1
    obtain rfl := Option.some.inj h1
    refine deed_len h2 (fun k hk => hw k ?_) hD
    have hd : d = _ := congrArg Prod.fst hx
    rw [hd]
    simp only [DataW.weights, Tryd.underlying23]
    exact List.mem_cons_of_mem _ (List.mem_append_left _ (weightsAll_mem (List.mem_map.2 ⟨i, List.mem_range.2 hi, rfl⟩) hk))
end
end Go.Proofs.YtokjigebjcgdjacDoor
