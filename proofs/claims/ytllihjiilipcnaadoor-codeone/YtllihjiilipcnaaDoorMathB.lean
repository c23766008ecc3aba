/-
  What code.Keys reckons, as plain functions.
-/
import Derived.Test.YtllihjiilipcnaaDoorMath
namespace Go.Proofs.YtllihjiilipcnaaDoor

/-- Has it an OStore to c? -/
def storesB (d : List Op5) (c : Nat) : Bool := d.any fun o => o.k == 7 && o.a == (c : Int)
theorem storesB_next {d : List Op5} {j : Nat} (h : j < d.length) (c : Nat) : storesB (d.take (j + 1)) c = (storesB (d.take j) c || (d[j].k == 7 && d[j].a == (c : Int))) := by
  unfold storesB; rw [List.take_succ_eq_append_getElem h]; rw [List.any_append]; simp only [List.any_cons, List.any_nil, Bool.or_false]
theorem storesB_skip {d : List Op5} {j : Nat} (h : j < d.length) {c : Nat} (hc : c < 10) (hn : ¬ (d[j].k = 7 ∧ 0 ≤ d[j].a ∧ d[j].a < 10)) : storesB (d.take (j + 1)) c = storesB (d.take j) c := by
  rw [storesB_next h]
  have : (d[j].k == 7 && d[j].a == (c : Int)) = false := by
    rw [Bool.eq_false_iff]; intro hh; simp at hh; omega
  rw [this, Bool.or_false]
/-- The keys below j that it stores to, rising. -/
def keysTo (d : List Op5) (j : Nat) : List Int := ((List.range j).filter fun k => storesB d k).map fun (k : Nat) => (k : Int)
theorem keysTo_hit {d : List Op5} {j : Nat} (h : storesB d j = true) : keysTo d (j + 1) = keysTo d j ++ [(j : Int)] := by
  unfold keysTo; rw [List.range_succ]; simp [h]
theorem keysTo_miss {d : List Op5} {j : Nat} (h : storesB d j = false) : keysTo d (j + 1) = keysTo d j := by
  unfold keysTo; rw [List.range_succ]; simp [h]
theorem keysTo_le (d : List Op5) (j : Nat) : (keysTo d j).length ≤ j := by
  unfold keysTo; rw [List.length_map]; exact Nat.le_trans (List.length_filter_le _ _) (by simp)

end Go.Proofs.YtllihjiilipcnaaDoor
