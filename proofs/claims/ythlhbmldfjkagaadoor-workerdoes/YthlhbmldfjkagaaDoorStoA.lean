/-
  The walk of the reference's Stores.
-/
import Derived.Test.YthlhbmldfjkagaaDoorBase
import Derived.Test.YthlhbmldfjkagaaDoorMathT
namespace Go.Proofs.YthlhbmldfjkagaaDoor
open Go.RowKit


/-- May a deed store to a key? -/
def storesI (d : List Op5) (k : Int) : Bool := d.any fun o => o.k == 7 && o.a == k

theorem storesI_next {d : List Op5} {k : Int} {j : Nat} (h : j < d.length) (hn : (d[j].k == 7 && d[j].a == k) = false) : storesI (d.drop (j + 1)) k = storesI (d.drop j) k := by
  rw [List.drop_eq_getElem_cons h]; simp only [storesI, List.any_cons, hn, Bool.false_or]
theorem storesI_hit {d : List Op5} {k : Int} {j : Nat} (h : j < d.length) (h7 : d[j].k = 7) (ha : d[j].a = k) : storesI d k = true := by
  simp only [storesI, List.any_eq_true]
  exact ⟨d[j], List.getElem_mem h, by simp [h7, ha]⟩

set_option maxHeartbeats 400000 in
theorem stores_any (v : Value) (d : List Op5) (k : Int) (w : World) (hd : DeedAt w v d) (hmax : d.length ≤ 200) :
    Calls Tryd.prog 28 #[v, .int .i64 k] w fun e w' => e = .returned (.bool (storesI d k)) ∧ w' = w := by
  obtain ⟨a, cap, rfl, hd⟩ := hd
  go_enter Tryd.func28, Tryd.ntmps28
  go_wp2_with fail
  go_loopg [5] d.length (fun g i wr => ∃ j : Nat, j ≤ d.length ∧ g = d.length - j ∧ i = .int .i64 j ∧ Hid (storesI (d.drop j) k = storesI d k) ∧ wr = w)
  case atStart => exact ⟨0, by omega, by omega, rfl, rfl, rfl⟩
  case round =>
    obtain ⟨j, hj, hg, rfl, hF, rfl⟩ := hrel
    by_cases hlt : j < d.length
    · obtain ⟨b, off, rfl, c0, c1, c2, c3, c4⟩ := hd j hlt
      clear hd
      by_cases h7 : d[j].k = 7
      · have t7 : (d[j].k == 7) = true := by simp [h7]
        by_cases ha : d[j].a = k
        · have ta : (d[j].a == k) = true := by simp [ha]
          have hF' : Hid (true = storesI d k) := (storesI_hit hlt h7 ha).symm
          clear hF h7 ha
          go_wp2_with fail
          go_ret
          exact ⟨ret_bool hF'.out, rfl⟩
        · have ta : (d[j].a == k) = false := by simp [ha]
          have hF' : Hid (storesI (d.drop (j + 1)) k = storesI d k) := (storesI_next hlt (by simp [ta])).trans hF.out
          clear hF h7 ha
          go_wp2_with fail
          go_roundg (d.length - (j + 1))
          case measure => omega
          case rel => exact ⟨j + 1, by omega, rfl, by go_num, hF', rfl⟩
      · have t7 : (d[j].k == 7) = false := by simp [h7]
        have hF' : Hid (storesI (d.drop (j + 1)) k = storesI d k) := (storesI_next hlt (by simp [t7])).trans hF.out
        clear hF h7
        go_wp2_with fail
        go_roundg (d.length - (j + 1))
        case measure => omega
        case rel => exact ⟨j + 1, by omega, rfl, by go_num, hF', rfl⟩
    · obtain rfl : j = d.length := by omega
      have hF' : Hid (false = storesI d k) := by
        have h := hF.out; simp only [List.drop_length, storesI, List.any_nil] at h; exact h
      clear hF hd
      go_wp2_with fail
      go_ret
      exact ⟨ret_bool hF'.out, rfl⟩

theorem storesI_key (d : List Op5) (k : Nat) : storesI d (k : Int) = storesF d k := rfl
end Go.Proofs.YthlhbmldfjkagaaDoor
