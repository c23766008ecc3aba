/-
  The walk of the law's own loads.
-/
import Derived.Test.YthlhbmldfjkagabDoorStoA
import Derived.Test.YthlhbmldfjkagabDoorMathP
namespace Go.Proofs.YthlhbmldfjkagabDoor
open Go.RowKit

/-- Does a deed load a key? -/
def loadsI (d : List Op5) (k : Int) : Bool := d.any fun o => o.k == 2 && o.b == k

theorem loadsI_next {d : List Op5} {k : Int} {j : Nat} (h : j < d.length) (hn : (d[j].k == 2 && d[j].b == k) = false) : loadsI (d.drop (j + 1)) k = loadsI (d.drop j) k := by
  rw [List.drop_eq_getElem_cons h]; simp only [loadsI, List.any_cons, hn, Bool.false_or]
theorem loadsI_hit {d : List Op5} {k : Int} {j : Nat} (h : j < d.length) (h2 : d[j].k = 2) (ha : d[j].b = k) : loadsI d k = true := by
  simp only [loadsI, List.any_eq_true]
  exact ⟨d[j], List.getElem_mem h, by simp [h2, ha]⟩

set_option maxHeartbeats 400000 in
theorem loads_any (v : Value) (d : List Op5) (k : Int) (w : World) (hd : DeedAt w v d) (hmax : d.length ≤ 200) :
    Calls Tryd.prog 44 #[v, .int .i64 k] w fun e w' => e = .returned (.bool (loadsI d k)) ∧ w' = w := by
  obtain ⟨a, cap, rfl, hd⟩ := hd
  go_enter Tryd.func44, Tryd.ntmps44
  go_wp2_with fail
  go_loopg [5] d.length (fun g i wr => ∃ j : Nat, j ≤ d.length ∧ g = d.length - j ∧ i = .int .i64 j ∧ Hid (loadsI (d.drop j) k = loadsI d k) ∧ wr = w)
  case atStart => exact ⟨0, by omega, by omega, rfl, rfl, rfl⟩
  case round =>
    obtain ⟨j, hj, hg, rfl, hF, rfl⟩ := hrel
    by_cases hlt : j < d.length
    · obtain ⟨b, off, rfl, c0, c1, c2, c3, c4⟩ := hd j hlt
      clear hd
      by_cases h2 : d[j].k = 2
      · have t2 : (d[j].k == 2) = true := by simp [h2]
        by_cases ha : d[j].b = k
        · have ta : (d[j].b == k) = true := by simp [ha]
          have hF' : Hid (true = loadsI d k) := (loadsI_hit hlt h2 ha).symm
          clear hF h2 ha
          go_wp2_with fail
          go_ret
          exact ⟨ret_bool hF'.out, rfl⟩
        · have ta : (d[j].b == k) = false := by simp [ha]
          have hF' : Hid (loadsI (d.drop (j + 1)) k = loadsI d k) := (loadsI_next hlt (by simp [ta])).trans hF.out
          clear hF h2 ha
          go_wp2_with fail
          go_roundg (d.length - (j + 1))
          case measure => omega
          case rel => exact ⟨j + 1, by omega, rfl, by go_num, hF', rfl⟩
      · have t2 : (d[j].k == 2) = false := by simp [h2]
        have hF' : Hid (loadsI (d.drop (j + 1)) k = loadsI d k) := (loadsI_next hlt (by simp [t2])).trans hF.out
        clear hF h2
        go_wp2_with fail
        go_roundg (d.length - (j + 1))
        case measure => omega
        case rel => exact ⟨j + 1, by omega, rfl, by go_num, hF', rfl⟩
    · obtain rfl : j = d.length := by omega
      have hF' : Hid (false = loadsI d k) := by
        have h := hF.out; simp only [List.drop_length, loadsI, List.any_nil] at h; exact h
      clear hF hd
      go_wp2_with fail
      go_ret
      exact ⟨ret_bool hF'.out, rfl⟩


/-- Deeds that are apart, key by key. -/
def apartB (d e : List Op5) (k : Int) : Prop := ¬ (storesI d k = true ∧ (storesI e k = true ∨ loadsI e k = true)) ∧ ¬ (storesI e k = true ∧ loadsI d k = true)
theorem storesTo_key {d : List Op5} (hc : (checkF d).1 = 0) {k : Nat} (h : StoresTo d k) : k < 10 ∧ storesI d (k : Int) = true := by
  obtain ⟨o, ho, h7, ha⟩ := h
  have hp := alone_parts (checkF_alone hc o ho)
  refine ⟨by omega, ?_⟩
  unfold storesI
  rw [List.any_eq_true]
  exact ⟨o, ho, by simp [h7]; omega⟩
theorem loadsOf_key {d : List Op5} (hc : (checkF d).1 = 0) {k : Nat} (h : LoadsOf d k) : loadsI d (k : Int) = true := by
  obtain ⟨o, ho, h2, hb⟩ := h
  have hp := alone_parts (checkF_alone hc o ho)
  unfold loadsI
  rw [List.any_eq_true]
  exact ⟨o, ho, by simp [h2]; omega⟩
theorem apart_of {d e : List Op5} (hd : (checkF d).1 = 0) (he : (checkF e).1 = 0) (h : ∀ k : Nat, k < 10 → apartB d e (k : Int)) : Apart d e := by
  refine ⟨fun k h1 h2 => ?_, fun k h1 h2 => ?_, fun k h1 h2 => ?_⟩
  · obtain ⟨hk, e1⟩ := storesTo_key hd h1
    exact (h k hk).1 ⟨e1, .inl (storesTo_key he h2).2⟩
  · obtain ⟨hk, e1⟩ := storesTo_key hd h1
    exact (h k hk).1 ⟨e1, .inr (loadsOf_key he h2)⟩
  · obtain ⟨hk, e1⟩ := storesTo_key he h1
    exact (h k hk).2 ⟨e1, loadsOf_key hd h2⟩

/-- A round with two neighbours changed. -/
def swapR (r : List (List Op5)) (k : Nat) : List (List Op5) := r.take k ++ (r[k + 1]?.getD []) :: (r[k]?.getD []) :: r.drop (k + 2)
theorem round_split {r : List (List Op5)} {k : Nat} (h : k + 1 < r.length) : r = r.take k ++ r[k] :: r[k + 1] :: r.drop (k + 2) := by
  rw [show k + 2 = k + 1 + 1 by omega, List.getElem_cons_drop, List.getElem_cons_drop, List.take_append_drop]
theorem swapR_eq {r : List (List Op5)} {k : Nat} (h : k + 1 < r.length) : swapR r k = r.take k ++ r[k + 1] :: r[k] :: r.drop (k + 2) := by
  unfold swapR; rw [List.getElem?_eq_getElem h, List.getElem?_eq_getElem (by omega)]; rfl
theorem swapR_length {r : List (List Op5)} {k : Nat} (h : k + 1 < r.length) : (swapR r k).length = r.length := by
  rw [swapR_eq h]
  simp only [List.length_append, List.length_take, List.length_cons, List.length_drop]; omega
theorem swapI_lt {n k i : Nat} (h : k + 1 < n) (hi : i < n) : swapI k i < n := by unfold swapI; split <;> (try split) <;> omega
theorem swapR_at {r : List (List Op5)} {k : Nat} (h : k + 1 < r.length) {i : Nat} (hi : i < (swapR r k).length) : (swapR r k)[i] = r[swapI k i]'(swapI_lt h (by rw [← swapR_length h]; exact hi)) := by
  have hl : (r.take k).length = k := by rw [List.length_take]; omega
  have hi' : i < r.length := by rw [← swapR_length h]; exact hi
  have key : (swapR r k)[i]? = r[swapI k i]? := by
    rw [swapR_eq h]
    unfold swapI
    by_cases h1 : i = k
    · rw [if_pos h1, List.getElem?_append_right (by omega), hl, h1, Nat.sub_self, List.getElem?_eq_getElem h]; rfl
    · rw [if_neg h1]
      by_cases h2 : i = k + 1
      · rw [if_pos h2, List.getElem?_append_right (by omega), hl, h2, show k + 1 - k = 1 by omega, List.getElem?_eq_getElem (show k < r.length by omega)]; rfl
      · rw [if_neg h2]
        by_cases h3 : i < k
        · rw [List.getElem?_append_left (by omega), List.getElem?_take_of_lt h3]
        · obtain ⟨j, rfl⟩ : ∃ j, i = k + 2 + j := ⟨i - k - 2, by omega⟩
          rw [List.getElem?_append_right (by omega), hl, show k + 2 + j - k = j + 2 by omega]
          show (r.drop (k + 2))[j]? = _
          rw [List.getElem?_drop]
  rw [List.getElem?_eq_getElem hi, List.getElem?_eq_getElem (swapI_lt h hi')] at key
  exact Option.some.inj key
theorem swapR_mem {r : List (List Op5)} {k : Nat} (h : k + 1 < r.length) {d : List Op5} (hd : d ∈ swapR r k) : d ∈ r := by
  obtain ⟨i, hi, rfl⟩ := List.mem_iff_getElem.1 hd
  rw [swapR_at h hi]; exact List.getElem_mem _
theorem swapR_round {r : List (List Op5)} {k : Nat} (h : k + 1 < r.length) (h0 : roundF r = 0) : roundF (swapR r k) = 0 := by
  rw [roundF_zero] at h0 ⊢
  exact ⟨by rw [swapR_length h]; exact h0.1, fun d hd => h0.2 d (swapR_mem h hd)⟩
theorem swapR_state {s : Nat → Int} {r : List (List Op5)} {k : Nat} (h : k + 1 < r.length) (ha : Apart r[k] r[k + 1]) : allSt s (swapR r k) = allSt s r := by
  rw [swapR_eq h, ← swap_state (r.take k) (r.drop (k + 2)) ha, ← round_split h]
theorem swapR_out {s : Nat → Int} {r : List (List Op5)} {k : Nat} (h : k + 1 < r.length) (ha : Apart r[k] r[k + 1]) (i : Nat) : (outAt s (swapR r k) (swapI k i)).code = (outAt s r i).code ∧ ∀ j, (outAt s (swapR r k) (swapI k i)).regs j = (outAt s r i).regs j := by
  have hl : (r.take k).length = k := by rw [List.length_take]; omega
  have := swap_out (s := s) (r.take k) (r.drop (k + 2)) ha i
  rw [← round_split h, ← swapR_eq h, hl] at this
  exact ⟨this.1.symm, fun j => by rw [← this.2]⟩
end Go.Proofs.YthlhbmldfjkagabDoor
