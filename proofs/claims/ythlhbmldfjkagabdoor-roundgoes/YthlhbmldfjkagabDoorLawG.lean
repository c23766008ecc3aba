/-
  The walk of the law RoundGoes.
-/
import Derived.Test.YthlhbmldfjkagabDoorBegR
namespace Go.Proofs.YthlhbmldfjkagabDoor
open Go.RowKit Go.Shelf

theorem leftL_nil {X : Nat → Wk} {n : Nat} (h : leftL X n = []) : ∀ q, q < n → (X q).over = true := fun q hq => by
  cases ho : (X q).over with
  | true => rfl
  | false =>
    have : q ∈ leftL X n := List.mem_filter.2 ⟨by simpa using hq, by simp [ho]⟩
    rw [h] at this; cases this
theorem leftL_cons {X : Nat → Wk} {n i : Nat} {rest : List Nat} (h : leftL X n = i :: rest) : i < n ∧ (X i).over = false ∧ ∀ q, q < i → (X q).over = true := by
  have hi : i ∈ leftL X n := by rw [h]; simp
  obtain ⟨h1, h2⟩ := List.mem_filter.1 hi
  have hin : i < n := by simpa using h1
  refine ⟨hin, by simpa using h2, fun q hq => ?_⟩
  cases ho : (X q).over with
  | true => rfl
  | false =>
    have hm : q ∈ leftL X n := List.mem_filter.2 ⟨by simp; omega, by simp [ho]⟩
    have hp : (leftL X n).Pairwise (· < ·) := List.Pairwise.filter _ List.pairwise_lt_range
    rw [h] at hm hp
    rcases List.mem_cons.1 hm with e | e
    · omega
    · have := (List.pairwise_cons.1 hp).1 q e; omega
theorem mostF_le {r : List (List Op5)} (hck : ∀ d ∈ r, (checkF d).1 = 0) : ∀ n, n ≤ r.length → mostF r n ≤ n * 15
  | 0, _ => Nat.le_refl _
  | n + 1, hn => by
    have := mostF_le hck n (by omega)
    have h1 := check_len (hck r[n] (List.getElem_mem (by omega)))
    simp only [mostF]
    rw [List.getElem?_eq_getElem (by omega)]
    simp only [Option.getD_some]
    omega

set_option maxRecDepth 100000 in
set_option maxHeartbeats 4000000 in
theorem goes_law (v : Value) (r : List (List Op5)) (s : Nat → Int) (a : Option Addr) (cap : Nat) (l : List Int) (w : World) (hr : RoundAt w v r) (hf : Fits r) (hl : NumsAt w (.slice a l.length cap) l) (hmax : l.length ≤ 9223372036854775807) (hL : Lim w) :
    Calls Tryd.prog 8 #[stV s, v, .slice a l.length cap] w fun e w' => e = .returned (.bool true) ∧ Below w.heap.size w w' := by
  show Calls Tryd.prog 8 #[.agg #[.int .i64 (s 0), .int .i64 (s 1), .int .i64 (s 2), .int .i64 (s 3), .int .i64 (s 4), .int .i64 (s 5), .int .i64 (s 6), .int .i64 (s 7), .int .i64 (s 8), .int .i64 (s 9)], _, _] w _
  have hB0 : Below w.heap.size w (w.alloc (.cells #[.int .i64 (s 0), .int .i64 (s 1), .int .i64 (s 2), .int .i64 (s 3), .int .i64 (s 4), .int .i64 (s 5), .int .i64 (s 6), .int .i64 (s 7), .int .i64 (s 8), .int .i64 (s 9)] 23)) := (Below.refl _ _).alloc (Nat.le_refl _) _
  have hX0 := box_new w s
  obtain ⟨a', cap', e1, hcell⟩ := hl
  cases e1
  have HR := hr
  obtain ⟨ra, rcap, rfl, hr0⟩ := hr
  have hrm := hf.1
  go_enter Tryd.func8, Tryd.ntmps8
  go_wp2_with fail
  refine (begunR_any _ (hL.later hB0)).mono ?_
  rintro e w1 ⟨rfl, hb1⟩
  have hB1 : Below w.heap.size w w1 := hB0.trans (hb1.mono (by simp))
  have hX1 := hX0.later hb1
  clear hB0 hb1 hX0
  go_wp2_with fail
  refine (great_any _ r _ (HR.later hB1) hf).mono ?_
  rintro e w2 ⟨⟨g, rfl⟩, rfl⟩
  cases g
  · by_cases hp : 500 < l.length
    · have hpi : (500 : Int) < (l.length : Int) := by omega
      go_wp2_with fail
      go_ret
      exact ⟨rfl, hB1⟩
    · have hpi : ¬ (500 : Int) < (l.length : Int) := by omega
      obtain ⟨k0, k1, k2, k3, k4, k5, k6, k7, k8, k9⟩ := hX1.ten
      by_cases h0 : roundF r = 0
      · have hck : Hid (∀ d ∈ r, (checkF d).1 = 0) := (roundF_zero.1 h0).2
        have h8 : r.length ≤ 8 := (roundF_zero.1 h0).1
        have hnew := round_new _ r s w2 (HR.later hB1) hf h0 (hL.later hB1)
        go_wp2_with fail
        refine hnew.mono ?_
        clear hnew k0 k1 k2 k3 k4 k5 k6 k7 k8 k9 hX1
        rintro e w3 ⟨c, E, B, vW, C, U, rfl, h3, hb3⟩
        have hB3 : Below w.heap.size w w3 := hB1.trans (hb3.mono hB1.size)
        have hN : w.heap.size ≤ w2.heap.size := hB1.size
        generalize w2.heap.size = N at *
        obtain ⟨T, eT⟩ : ∃ T, T = newF s r := ⟨_, rfl⟩
        obtain ⟨X, eX⟩ : ∃ X : Nat → Wk, X = fun _ => wk0 := ⟨_, rfl⟩
        rw [← eT, ← eX] at h3
        clear hb3 eT eX h0 hB1
        go_wp2_with fail
        go_loopg [9] l.length (fun g i wr => ∃ (j : Nat) (X : Nat → Wk) (T : Nat → List Slot4), j ≤ l.length ∧ g = l.length - j ∧ i = .int .i64 j ∧ RdIn wr c N E B vW C U s r X T ∧ Below w.heap.size w wr)
        case atStart => exact ⟨0, X, T, by omega, by omega, rfl, h3, hB3⟩
        case round =>
          clear h3 hB3
          obtain ⟨j, X, T, hj, hg, rfl, h, hBl⟩ := hrel
          by_cases hlt : j < l.length
          · obtain ⟨pb, poff, rfl, pc⟩ := hcell j hlt
            replace pc := cell_later hBl pc
            have hpk := pick_any h l[j]
            have hji : (j : Int) < (l.length : Int) := by omega
            generalize l[j] = p at *
            clear hcell hr0
            go_wp2_with fail
            refine hpk.mono ?_
            clear hpk
            rintro e w4 ⟨x, y, X4, T4, rfl, h4, hg4⟩
            have hB4 := h.below hg4 hBl hN hBl.size
            clear h hg4 hBl pc
            go_wp2_with fail
            go_roundg (l.length - (j + 1))
            case measure => omega
            case rel => exact ⟨j + 1, X4, T4, by omega, rfl, by go_num, h4, hB4⟩
          · obtain rfl : j = l.length := by omega
            clear hcell
            go_wp2_with fail
            go_loopg [10, 11] r.length (fun g mo i wq => ∃ m : Nat, m ≤ r.length ∧ g = r.length - m ∧ i = .int .i64 m ∧ mo = .int .i64 (mostF r m : Nat) ∧ wq = wr)
            case atStart => exact ⟨0, by omega, by omega, rfl, rfl, rfl⟩
            case round =>
              obtain ⟨m, hm, hg2, rfl, rfl, rfl⟩ := hrel
              by_cases hml : m < r.length
              · obtain ⟨b, off, rfl, dv, c0, hD⟩ := hr0 m hml
                replace c0 := cell_later hBl c0
                obtain ⟨da, dcap, rfl, -⟩ := hD
                have hmi : (m : Int) < (r.length : Int) := by omega
                have h1 := check_len (hck.out r[m] (List.getElem_mem hml))
                have h2 := mostF_le hck.out m (by omega)
                have h3 : Hid (mostF r (m + 1) = mostF r m + (r[m].length + 1)) := by
                  show _ = _
                  simp only [mostF]
                  rw [List.getElem?_eq_getElem hml]; rfl
                generalize mostF r m = mo at *
                generalize r[m].length = dl at *
                clear hr0
                go_wp2_with fail
                go_roundg (r.length - (m + 1))
                case measure => omega
                case rel => exact ⟨m + 1, by omega, rfl, by go_num, by rw [h3.out]; go_num, rfl⟩
              · obtain rfl : m = r.length := by omega
                have hmost := mostF_le hck.out r.length (Nat.le_refl _)
                have htd := todo_most r X r.length
                obtain ⟨M, hM⟩ : ∃ M, M = mostF r r.length := ⟨_, rfl⟩
                rw [← hM] at hmost htd
                rw [← hM]
                clear hM hr0
                go_wp2_with fail
                go_loopg [12] (M + 1) (fun g i wq => ∃ (n : Nat) (X : Nat → Wk) (T : Nat → List Slot4), g = M + 1 - n ∧ i = .int .i64 n ∧ RdIn wq c N E B vW C U s r X T ∧ Hid (todoF r X r.length + n ≤ M) ∧ Below w.heap.size w wq)
                case atStart => exact ⟨0, X, T, by omega, rfl, h, htd, hBl⟩
                case round =>
                  clear h htd hBl
                  obtain ⟨n, X, T, hg3, rfl, h, htd, hBl⟩ := hrel
                  have htd' := htd.out
                  have hnM : n ≤ M := by omega
                  have hni : (n : Int) ≤ (M : Int) := by omega
                  have hleft := left_any h
                  clear htd'
                  cases hlf : leftL X r.length with
                  | nil =>
                    rw [hlf] at hleft
                    have hall : Hid (∀ q, q < r.length → (X q).over = true) := leftL_nil hlf
                    go_wp2_with fail
                    refine hleft.mono ?_
                    clear hleft
                    rintro e w5 ⟨⟨u, rfl, hO⟩, hb5⟩
                    have h5 := h.later hb5
                    have hB5 : Below w.heap.size w w5 := hBl.trans (hb5.mono hBl.size)
                    have hov := over_end h5 hall.out
                    have q0 := h5.at'.ft
                    obtain ⟨ua, ucap, rfl⟩ : ∃ ua ucap, u = .slice ua 0 ucap := by
                      rcases hO.2 with ⟨rfl, -⟩ | ⟨g, cap, cur, rfl, -⟩
                      · exact ⟨_, _, rfl⟩
                      · exact ⟨_, _, rfl⟩
                    clear hO hb5 h5 hBl h
                    go_wp2_with fail
                    refine hov.mono ?_
                    clear hov
                    rintro e w6 ⟨rfl, hb6⟩
                    go_wp2_with fail
                    go_ret
                    exact ⟨rfl, hB5.trans (hb6.mono hB5.size)⟩
                  | cons i0 rest =>
                    rw [hlf] at hleft
                    obtain ⟨hi0, ho, hah⟩ := leftL_cons hlf
                    have HAH : Hid (∀ q, q < i0 → (X q).over = true) := hah
                    have HO' : Hid ((X i0).over = false) := ho
                    have hrl : rest.length + 1 ≤ 8 := by
                      have h1 := List.length_filter_le (fun i => !(X i).over) (List.range r.length)
                      have h2 : (leftL X r.length).length = rest.length + 1 := by rw [hlf]; rfl
                      simp only [List.length_range] at h1
                      unfold leftL at h2
                      omega
                    clear hlf ho hah
                    go_wp2_with fail
                    refine hleft.mono ?_
                    clear hleft
                    rintro e w5 ⟨⟨u, rfl, hO⟩, hb5⟩
                    have h5 := h.later hb5
                    have hB5 : Below w.heap.size w w5 := hBl.trans (hb5.mono hBl.size)
                    obtain ⟨gl, lcap, rfl, hlc⟩ := owns_cells hO (by simp)
                    have q3 := hlc 0 (.int .i64 (i0 : Int)) (by simp)
                    have hpk := h5.first hi0 HAH.out
                    have hl0 : ((rest.length : Int) + 1 == 0) = false := by rw [beq_eq_false_iff_ne]; omega
                    have hl1 : (0 : Int) < (rest.length : Int) + 1 := by omega
                    simp only [List.length_cons] at q3 ⊢
                    clear hO hlc hb5 h5 hBl
                    go_wp2_with fail
                    refine hpk.mono ?_
                    clear hpk q3
                    rintro e w6 ⟨x, y, X6, T6, rfl, h6, hg6, -, hx, ht⟩
                    have hBz : Below w.heap.size w w6 := hg6.below hB5 hB5.size (fun k hk => Nat.le_trans hN (h6.at'.high hk))
                    have htd6 : Hid (todoF r X6 r.length + (n + 1) ≤ M) := by
                      have h1 := ht.out HO'.out
                      have h2 := htd.out
                      show _ ≤ _
                      omega
                    have hx13 : x = 1 ∨ x = 3 := by
                      rcases hx.out with ⟨e, -⟩ | ⟨e, -⟩
                      · exact .inl e
                      · exact .inr e
                    clear hx ht hg6 hB5 htd
                    rcases hx13 with rfl | rfl
                    · go_wp2_with fail
                      go_roundg (M + 1 - (n + 1))
                      case measure => omega
                      case rel => exact ⟨n + 1, X6, T6, rfl, by go_num, h6, htd6, hBz⟩
                    · go_wp2_with fail
                      go_roundg (M + 1 - (n + 1))
                      case measure => omega
                      case rel => exact ⟨n + 1, X6, T6, rfl, by go_num, h6, htd6, hBz⟩
      · have hnew := round_bad _ r s w2 (HR.later hB1) hf h0 (hL.later hB1)
        have t0 : (roundF r != 0) = true := by simp [h0]
        generalize roundF r = cc at *
        clear h0 hcell hr0
        go_wp2_with fail
        refine hnew.mono ?_
        clear hnew k0 k1 k2 k3 k4 k5 k6 k7 k8 k9 hX1
        rintro e w3 ⟨rfl, hb3⟩
        go_wp2_with fail
        go_ret
        exact ⟨rfl, hB1.trans (hb3.mono hB1.size)⟩
  · go_wp2_with fail
    go_ret
    exact ⟨rfl, hB1⟩
end Go.Proofs.YthlhbmldfjkagabDoor
