/-
  What a hand stored, as it lies in memory; the walk of Hand.put.
-/
import Derived.Test.YthlhbmldfjkagaaDoorCrewA
import Derived.Test.YthlhbmldfjkagaaDoorHbC
namespace Go.Proofs.YthlhbmldfjkagaaDoor
open Go.RowKit Go.Shelf

/-- The last that was stored to a key. -/
def putF (k : Int) : List Op5 → Option Int
  | [] => none
  | o :: r => match putF k r with
    | some n => some n
    | none => if o.a = k then some o.n else none
theorem putF_snoc (k : Int) (l : List Op5) (o : Op5) : putF k (l ++ [o]) = if o.a = k then some o.n else putF k l := by
  induction l with
  | nil => simp [putF]
  | cons p l ih =>
    simp only [List.cons_append, putF, ih]
    by_cases h : o.a = k
    · simp [h]
    · simp [h]
/-- What a hand stored is what its worker stored. -/
def PutOk (st : List Op5) (x : Wk) : Prop := ∀ k : Nat, k < 10 → putF (k : Int) st = if x.is k then some (x.n k) else none
theorem putOk_nil (x : Wk) (h : ∀ k, x.is k = false) : PutOk [] x := fun k _ => by rw [h k]; rfl

theorem deedAt_owns {w : World} {N : Nat} {v : Value} {d : List Op5} {t : TypeId} (h : w.ownsRow N t 5 v d.length (deedCells d)) : DeedAt w v d := by
  by_cases h0 : 0 < d.length
  · obtain ⟨g, cap, rfl, hc⟩ := owns_cells h h0
    refine ⟨_, cap, rfl, fun i hi => ⟨g, 0, rfl, ?_⟩⟩
    obtain ⟨p0, p1, p2, p3, p4⟩ := deedCells_at d i hi
    simp only [Nat.zero_add]
    exact ⟨hc _ _ p0, hc _ _ p1, hc _ _ p2, hc _ _ p3, hc _ _ p4⟩
  · obtain rfl : d = [] := List.eq_nil_of_length_eq_zero (by omega)
    rcases h.2 with ⟨rfl, -⟩ | ⟨g, cap, cur, rfl, -⟩
    · exact ⟨none, 0, rfl, fun i hi => by simp at hi⟩
    · exact ⟨_, cap, rfl, fun i hi => by simp at hi⟩

theorem ret_put {a : Int} {t : Bool} {o : Option Int} (h1 : o.getD 0 = a) (h2 : o.isSome = t) : Ending.returned (.tuple #[.int .i64 a, .bool t]) = .returned (.tuple #[.int .i64 (o.getD 0), .bool o.isSome]) := by rw [h1, h2]

set_option maxRecDepth 100000 in
set_option maxHeartbeats 1000000 in
theorem put_any (G : Nat) (k : Int) (vs : Value) (st : List Op5) (w : World) (hc : w.cell? ⟨G, 7, none⟩ = some vs) (hd : DeedAt w vs st) (hl : st.length ≤ 14) :
    Calls Tryd.prog 74 #[.pointer (some ⟨G, 0, none⟩), .int .i64 k] w fun e w' => e = .returned (.tuple #[.int .i64 ((putF k st).getD 0), .bool (putF k st).isSome]) ∧ w' = w := by
  obtain ⟨a, cap, rfl, hs⟩ := hd
  go_enter Tryd.func74, Tryd.ntmps74
  go_wp2_with fail
  go_loopg [6] st.length (fun g i wr => ∃ j : Nat, j ≤ st.length ∧ g = j ∧ i = .int .i64 ((j : Int) - 1) ∧ Hid (putF k (st.take j) = putF k st) ∧ wr = w)
  case atStart => exact ⟨st.length, Nat.le_refl _, rfl, by go_num, by show _ = _; rw [List.take_length], rfl⟩
  case round =>
    obtain ⟨j, hj, hg, rfl, hF, rfl⟩ := hrel
    by_cases h0 : 0 < j
    · obtain ⟨i, rfl⟩ : ∃ i, j = i + 1 := ⟨j - 1, by omega⟩
      have hi : i < st.length := by omega
      obtain ⟨b, off, rfl, -, c1, -, -, c4⟩ := hs i hi
      have hii : (i : Int) < (st.length : Int) := by omega
      have e1 : ((i + 1 : Nat) : Int) - 1 = (i : Int) := by omega
      have hsn : Hid (putF k (st.take (i + 1)) = if st[i].a = k then some st[i].n else putF k (st.take i)) := by
        show _ = _
        rw [List.take_succ_eq_append_getElem hi, putF_snoc]
      rw [e1]
      clear e1 hs
      by_cases ha : st[i].a = k
      · have ta : (st[i].a == k) = true := by simp [ha]
        have hv : Hid (putF k st = some st[i].n) := by show _ = _; rw [← hF.out, hsn.out, if_pos ha]
        clear hF hsn ha
        go_wp2_with fail
        exact bodyPost_ret (v := .tuple #[.int .i64 st[i].n, .bool true]) (by simp [results, Tryd.results74, go_sem]) rfl ⟨ret_put (by rw [hv.out]; rfl) (by rw [hv.out]; rfl), rfl⟩
      · have ta : (st[i].a == k) = false := by simp [ha]
        have hF' : Hid (putF k (st.take i) = putF k st) := by show _ = _; rw [← hF.out, hsn.out, if_neg ha]
        clear hF hsn ha
        go_wp2_with fail
        go_roundg i
        case measure => omega
        case rel => exact ⟨i, by omega, rfl, by go_num, hF', rfl⟩
    · obtain rfl : j = 0 := by omega
      have hv : Hid (putF k st = none) := by show _ = _; rw [← hF.out]; rfl
      clear hF hs
      go_wp2_with fail
      exact bodyPost_ret (v := .tuple #[.int .i64 0, .bool false]) (by simp [results, Tryd.results74, go_sem]) rfl ⟨ret_put (by rw [hv.out]; rfl) (by rw [hv.out]; rfl), rfl⟩
end Go.Proofs.YthlhbmldfjkagaaDoor
