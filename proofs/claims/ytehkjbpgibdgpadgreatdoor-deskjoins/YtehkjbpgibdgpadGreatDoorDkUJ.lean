/-
  What is known of lines when the call begins; the law DeskJoins, whatever they are.
-/
import Derived.Test.YtehkjbpgibdgpadGreatDoorDkTJ
import Derived.Test.YtehkjbpgibdgpadGreatDoorJqXd
import Derived.SliceStrings
import Derived.SizedLaws
namespace Go.Proofs.YtehkjbpgibdgpadGreatDoor
open Go.ChangeShapes Go.WideShapes Go.ChangeAt Go.RowKit

theorem weightsAll_memD {H : Type} {P : Program} {e : TypeId} {l : List (DataW H)} {d : DataW H} (hd : d ∈ l) {n : Nat} (hn : n ∈ d.weights P e) : n ∈ DataW.weightsAll P e l := by
  induction l with
  | nil => cases hd
  | cons x l ih =>
    rw [DataW.weightsAll]
    rcases List.mem_cons.1 hd with rfl | hd
    · exact List.mem_append_left _ hn
    · exact List.mem_append_right _ (ih hd)

section
variable {H : Type} {enc : TypeId × Value → H} {w : World} {base : Nat} {sp : Nat → Bool} {held : Bool}
theorem strs_open {u : Value} {x : DataW H} {ps : List MemPlace} (h : DataW.Trod enc Tryz.prog w base sp held 22 u x ps) {a0 : Option Addr} {len cap : Nat} (hv : u = .slice a0 len cap) (hw : ∀ n ∈ x.weights Tryz.prog 22, n ≤ reachBytes) :
    ∃ ls : List (List UInt8), StrsIn (fun _ => True) w u ls ∧ ls.length ≤ 9223372036854775807 ∧ ∀ s ∈ ls, s.length ≤ 140737488355328 := by
  subst hv
  obtain ⟨fuel, hf⟩ := h
  rcases open_strings Tryz.underlying22 Tryz.underlying9 (by kernel_rfl) hf with ⟨hc, -⟩ | ⟨a, len', cap', ss, hc, -, hl, hm, hlen, hx, hcell, -⟩
  · simp [Value.cells] at hc
    obtain ⟨rfl, rfl, rfl⟩ := hc
    exact ⟨[], ⟨none, 0, rfl, Nat.le_refl _, fun i hi => absurd hi (Nat.not_lt_zero _)⟩, by simp, fun s hs => (List.not_mem_nil hs).elim⟩
  · simp [Value.cells] at hc
    obtain ⟨rfl, rfl, rfl⟩ := hc
    have hls : len ≤ ss.length := by rw [hlen]; split <;> omega
    refine ⟨(ss.take len).map fun s => s.data.toList, ?_, by simp; unfold maxLen at hm; omega, fun l hl' => ?_⟩
    · have e : ((ss.take len).map fun s => s.data.toList).length = len := by simp; omega
      refine ⟨some a, cap, by rw [e], by rw [e]; exact hl, fun i hi => ?_⟩
      rw [e] at hi
      have h0 := hcell 0 (by omega)
      have ha : a = ⟨a.block, a.off, none⟩ := spot_none9 (n := 0) (w := w) h0 rfl
      refine ⟨a.block, a.off, trivial, by rw [← ha], ?_⟩
      have h1 := hcell i (by omega)
      rw [ha] at h1
      rw [addr_add] at h1
      rw [h1, List.getD_eq_getElem?_getD, List.getElem?_eq_getElem (by omega)]
      simp only [Option.getD_some, List.getElem_map, List.getElem_take]
      rw [show strB ss[i].data.toList = ss[i] from Lib.mk_data ss[i]]
    · obtain ⟨s, hs, rfl⟩ := List.mem_map.1 hl'
      have hd : x = .slice (strs (ss.take len)) (strs (ss.drop len)) := congrArg Prod.fst hx
      have h1 := hw s.data.toList.length (by
        rw [hd]
        simp only [DataW.weights, Tryz.underlying22]
        refine List.mem_cons_of_mem _ (List.mem_append_left _ (weightsAll_memD (List.mem_map.2 ⟨s, hs, rfl⟩) ?_))
        simp only [DataW.weights]
        exact List.mem_cons_self)
      unfold reachBytes at h1
      omega
end

/-- THE LAW, whatever the lines are. -/
theorem deskJoinsLaw_any {w : World} {v : Value} {ls : List (List UInt8)} (cut : Int) (hs : StrsIn (fun _ => True) w v ls) (hm : ls.length ≤ 9223372036854775807) (hl : ∀ s ∈ ls, s.length ≤ 140737488355328) (hE : Env w) :
    Calls Tryz.prog 4 #[v, .int .i64 cut] w fun e w' => e = .returned (.bool true) ∧ Below w.heap.size w w' := by
  by_cases hn : ls.length ≤ 150
  · exact joins_few cut hs hl hE hn
  · exact joins_many cut hs hm hE (by omega)
end Go.Proofs.YtehkjbpgibdgpadGreatDoor
