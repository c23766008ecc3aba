/-
  The walk of the law TableOnce.
-/
import Derived.Test.YtbelfonijmafeaaDoorTabI
import Derived.Deep.CutRange
namespace Go.Proofs.YtbelfonijmafeaaDoor
open Go.RowKit Go.Shelf

/-- A step of a table's script. -/
structure Step4 where
  d : Int
  k : Int
  b : Int
  n : Int
/-- The steps as they lie in memory: four cells each. -/
def StepsAt (w : World) (v : Value) (l : List Step4) : Prop :=
  ∃ a cap, v = .slice a l.length cap ∧ ∀ i (h : i < l.length), ∃ b off, a = some ⟨b, off, none⟩ ∧
    w.cell? ⟨b, off + i * 4, none⟩ = some (.int .i64 l[i].d) ∧ w.cell? ⟨b, off + i * 4 + 1, none⟩ = some (.int .i64 l[i].k) ∧
    w.cell? ⟨b, off + i * 4 + 2, none⟩ = some (.int .i64 l[i].b) ∧ w.cell? ⟨b, off + i * 4 + 3, none⟩ = some (.int .i64 l[i].n)

def FineT (T : Nat → List Slot4) : Prop := ∀ k, k < 10 → Fine (T k)
theorem FineT.settle {T : Nat → List Slot4} (h : FineT T) (k : Int) {x : Slot4} (hx : x.op = false) : FineT (settleT T k x) := by
  unfold settleT
  split
  · intro j hj
    unfold putT
    split
    · rename_i e; exact (h _ (by omega)).settle hx
    · exact h j hj
  · exact h
theorem FineT.stays {T : Nat → List Slot4} (h : FineT T) (k' : Int) {x : Slot4} (hx : x.op = false) {k b : Int} (hk : (beforeT T k b).2 = -1) : beforeT (settleT T k' x) k b = beforeT T k b := by
  unfold beforeT at hk ⊢
  by_cases hkk : 0 ≤ k ∧ k < 10
  · rw [if_pos hkk] at hk
    rw [if_pos hkk, if_pos hkk]
    unfold settleT
    split
    · unfold putT
      split
      · rename_i e
        rw [← e]
        exact before_stays (h _ (by omega)) hx b hk
      · rfl
    · rfl
  · rw [if_neg hkk, if_neg hkk]
theorem FineT.again {T : Nat → List Slot4} (h : FineT T) (k : Int) {x : Slot4} (hx : x.op = false) : toldT (settleT T k x) k x.b = false := by
  unfold toldT settleT
  by_cases hkk : 0 ≤ k ∧ k < 10
  · rw [if_pos hkk, if_pos hkk]
    unfold putT
    rw [if_pos rfl]
    exact settle_told (h _ (by omega)) hx
  · rw [if_neg hkk]
theorem settleT_none {T : Nat → List Slot4} {k : Int} {x : Slot4} (h : toldT T k x.b = false) : settleT T k x = T := by
  unfold toldT at h
  unfold settleT
  split
  · rename_i hk
    rw [if_pos hk] at h
    funext j
    unfold putT
    split
    · rename_i e; rw [settle_none h, e]
    · rfl
  · rfl
theorem FineT.who {T : Nat → List Slot4} (h : FineT T) (k b : Int) : (beforeT T k b).2 = -1 ∨ (0 ≤ (beforeT T k b).2 ∧ (beforeT T k b).2 < b) := by
  unfold beforeT
  split
  · exact before_who (h _ (by omega)) b
  · exact .inl rfl

set_option maxHeartbeats 400000 in
theorem great_many (v : Value) (r : List (List Op5)) (w : World) (hr : RoundAt w v r) (hf : Fits r) (hlen : 60 < r.length) :
    Calls Tryd.prog 13 #[v] w fun e w' => e = .returned (.bool true) ∧ w' = w := by
  have hm := hf.1
  obtain ⟨a, cap, rfl, hr⟩ := hr
  go_enter Tryd.func13, Tryd.ntmps13
  go_wp2_with fail
  go_loopg [3, 4] r.length (fun g n i wr => ∃ j : Nat, ∃ x : Int, j ≤ r.length ∧ j ≤ 100 ∧ g = r.length - j ∧ i = .int .i64 j ∧ n = .int .i64 x ∧ wr = w)
  case atStart => exact ⟨0, 0, by omega, by omega, by omega, rfl, rfl, rfl⟩
  case round =>
    obtain ⟨j, x, hj, h100, hg, rfl, rfl, rfl⟩ := hrel
    by_cases hlt : j < r.length
    · by_cases hlt' : j < 100
      · obtain ⟨b, off, rfl, dv, c0, hD⟩ := hr j hlt
        obtain ⟨a', cap', rfl, -⟩ := hD
        have hm' := hf.2 j hlt
        clear hr
        go_wp2_with fail
        go_roundg (r.length - (j + 1))
        case measure => omega
        case rel => exact ⟨j + 1, _, by omega, by omega, rfl, by go_num, rfl, rfl⟩
      · clear hr
        go_wp2_with fail
        go_ret
        exact ⟨rfl, rfl⟩
    · clear hr
      go_wp2_with fail
      go_ret
      exact ⟨rfl, rfl⟩

theorem cell_grown {w w' : World} {B : Nat} (hg : w.grownBy w' (some B)) {p : Addr} {v : Value} (hp : w.cell? p = some v) (hne : p.block ≠ B) : w'.cell? p = some v := by
  rw [World.cell?_of_block (w := w) (hg.block p.block (World.block_lt_of_cell? w _ hp) (fun e => hne (by cases e; rfl)))]; exact hp

set_option maxRecDepth 100000 in
set_option maxHeartbeats 2000000 in
theorem once_good (v : Value) (r : List (List Op5)) (s : Nat → Int) (a : Option Addr) (cap : Nat) (l : List Step4) (k b : Int) (w : World) (hr : RoundAt w v r) (hf : Fits r) (h0 : roundF r = 0) (hl : StepsAt w (.slice a l.length cap) l) (hl2 : l.length ≤ 200) (hL : Lim w) :
    Calls Tryd.prog 10 #[stV s, v, .slice a l.length cap, .int .i64 k, .int .i64 b] w fun e w' => e = .returned (.bool true) ∧ Below w.heap.size w w' := by
  have hnew := fun w' hr' hL' => new_good v r s w' hr' hf h0 hL'
  show Calls Tryd.prog 10 #[.agg #[.int .i64 (s 0), .int .i64 (s 1), .int .i64 (s 2), .int .i64 (s 3), .int .i64 (s 4), .int .i64 (s 5), .int .i64 (s 6), .int .i64 (s 7), .int .i64 (s 8), .int .i64 (s 9)], _, _, _, _] w _
  have hB0 : Below w.heap.size w (w.alloc (.cells #[.int .i64 (s 0), .int .i64 (s 1), .int .i64 (s 2), .int .i64 (s 3), .int .i64 (s 4), .int .i64 (s 5), .int .i64 (s 6), .int .i64 (s 7), .int .i64 (s 8), .int .i64 (s 9)] 38)) := (Below.refl _ _).alloc (Nat.le_refl _) _
  have hX0 := box_new w s
  obtain ⟨a', cap', e1, hcell⟩ := hl
  cases e1
  clear h0
  go_enter Tryd.func10, Tryd.ntmps10
  go_wp2_with fail
  refine (begun_any _ (hL.later hB0)).mono ?_
  rintro e w1 ⟨rfl, hb1⟩
  have hB1 : Below w.heap.size w w1 := hB0.trans (hb1.mono (by simp))
  have hX1 := hX0.later hb1
  obtain ⟨k0, k1, k2, k3, k4, k5, k6, k7, k8, k9⟩ := hX1.ten
  clear hB0 hb1 hX0
  go_wp2_with fail
  refine (great_any _ r _ (hr.later hB1) hf).mono ?_
  rintro e w2 ⟨⟨g, rfl⟩, rfl⟩
  cases g
  · go_wp2_with fail
    refine (hnew _ (hr.later hB1) (hL.later hB1)).mono ?_
    clear hnew
    rintro e w3 ⟨B, rfl, hB, hT, hb3⟩
    have hB3 : Below w.heap.size w w3 := hB1.trans (hb3.mono hB1.size)
    have hBw : w.heap.size ≤ B := Nat.le_trans hB1.size hB
    have hF : FineT (newF s r) := fun q _ => newF_fine s r q
    obtain ⟨T, eT⟩ : ∃ T, T = newF s r := ⟨_, rfl⟩
    rw [← eT] at hT hF
    clear hX1 k0 k1 k2 k3 k4 k5 k6 k7 k8 k9 hb3 hB1 hB eT
    go_wp2_with fail
    go_loopg [13, 14, 15] (l.length + 1) (fun g kv nv i wr => ∃ (j : Nat) (T : Nat → List Slot4) (kb : Bool) (nb : Int), j ≤ l.length ∧ g = l.length + 1 - j ∧ i = .int .i64 j ∧ kv = .bool kb ∧ nv = .int .i64 nb ∧ TabAt wr B T ∧ Hid (FineT T) ∧ Hid (kb = true → beforeT T k b = (nb, -1)) ∧ Below w.heap.size w wr)
    case atStart => exact ⟨0, T, false, 0, by omega, by omega, rfl, rfl, rfl, hT, hF, (fun h => absurd h (by simp)), hB3⟩
    case round =>
      clear hT hF hB3
      obtain ⟨j, T, kb, nb, hj, hg, rfl, rfl, rfl, hT, hF, hK, hBl⟩ := hrel
      have hbef := before_any B k b T wr hT
      have hwho := hF.out.who k b
      obtain ⟨m, who, hmw⟩ : ∃ m who, beforeT T k b = (m, who) := ⟨_, _, rfl⟩
      rw [hmw] at hbef hwho
      dsimp only at hbef hwho
      have HM : Hid (beforeT T k b = (m, who)) := hmw
      rw [hmw] at hK
      clear hmw
      go_wp2_with fail
      refine hbef.mono ?_
      clear hbef
      rintro e w4 ⟨rfl, hb4⟩
      have hB4 : Below w.heap.size w w4 := hBl.trans (hb4.mono hBl.size)
      have hT4 := hT.later hb4
      clear hT hBl hb4
      go_upto_region 13 with fail
      go_cut [76] from 41 to 124 (fun c wc => c = .bool false ∧ wc = w4)
      case first =>
        rcases hwho with rfl | ⟨h1, h2⟩
        · by_cases hb : b ≤ -1
          · cases kb
            · go_wp2_with fail
              go_meet
              exact ⟨rfl, rfl⟩
            · obtain ⟨rfl⟩ : m = nb := by have := hK.out rfl; simpa using this
              go_wp2_with fail
              go_meet
              exact ⟨rfl, rfl⟩
          · cases kb
            · go_wp2_with fail
              go_meet
              exact ⟨rfl, rfl⟩
            · obtain ⟨rfl⟩ : m = nb := by have := hK.out rfl; simpa using this
              go_wp2_with fail
              go_meet
              exact ⟨rfl, rfl⟩
        · obtain rfl : kb = false := by
            cases kb
            · rfl
            · have := hK.out rfl; simp at this; omega
          have h3 : ¬ who < -1 := by omega
          have h4 : ¬ b ≤ who := by omega
          go_wp2_with fail
          go_meet
          exact ⟨rfl, rfl⟩
      case rest =>
        obtain ⟨rfl, rfl⟩ := hcut
        have hkn : Hid ((who == -1) = true → beforeT T k b = (m, -1)) := fun h => by
          have : who = -1 := by simpa using h
          rw [← this]; exact HM.out
        clear hwho HM hK
        by_cases hjl : j = l.length
        · subst hjl
          clear hkn hcell
          go_wp2_with fail
          go_ret
          exact ⟨rfl, hB4⟩
        · have hlt : j < l.length := by omega
          have tj : ((j : Int) == (l.length : Int)) = false := by rw [beq_eq_false_iff_ne]; omega
          obtain ⟨ab, off, rfl, q0, q1, q2, q3⟩ := hcell j hlt
          replace q0 := cell_later hB4 q0
          replace q1 := cell_later hB4 q1
          replace q2 := cell_later hB4 q2
          replace q3 := cell_later hB4 q3
          clear hcell
          generalize l[j].d = xd at *
          generalize l[j].k = xk at *
          generalize l[j].b = xb at *
          generalize l[j].n = xn at *
          have hne : wc.heap.size ≠ B := by have := hT4.lt; omega
          have hT5 : TabAt (wc.alloc (.cells #[.int .i64 xd, .int .i64 xk, .int .i64 xb, .int .i64 xn] 70)) B T := hT4.later ((Below.refl _ _).alloc (Nat.le_refl _) _)
          have hB5 : Below w.heap.size w (wc.alloc (.cells #[.int .i64 xd, .int .i64 xk, .int .i64 xb, .int .i64 xn] 70)) := hB4.alloc hB4.size _
          clear hT4
          by_cases d0 : xd = 0
          · subst d0
            go_wp2_with fail
            clear q0 q1 q2 q3 hB4
            have q0 : (wc.alloc (.cells #[.int .i64 0, .int .i64 xk, .int .i64 xb, .int .i64 xn] 70)).cell? ⟨wc.heap.size, 0, none⟩ = some (.int .i64 0) := by go_simp
            have q1 : (wc.alloc (.cells #[.int .i64 0, .int .i64 xk, .int .i64 xb, .int .i64 xn] 70)).cell? ⟨wc.heap.size, 1, none⟩ = some (.int .i64 xk) := by go_simp
            have q2 : (wc.alloc (.cells #[.int .i64 0, .int .i64 xk, .int .i64 xb, .int .i64 xn] 70)).cell? ⟨wc.heap.size, 2, none⟩ = some (.int .i64 xb) := by go_simp
            have q3 : (wc.alloc (.cells #[.int .i64 0, .int .i64 xk, .int .i64 xb, .int .i64 xn] 70)).cell? ⟨wc.heap.size, 3, none⟩ = some (.int .i64 xn) := by go_simp
            refine (set_any B xk xb xn T _ hT5).mono ?_
            rintro e w6 ⟨he, hT6, hg6⟩
            have hB6 : Below w.heap.size w w6 := hB5.grown hg6 hB5.size (fun q hq => by cases hq; exact hBw)
            replace q0 := cell_grown hg6 q0 hne
            replace q1 := cell_grown hg6 q1 hne
            replace q2 := cell_grown hg6 q2 hne
            replace q3 := cell_grown hg6 q3 hne
            have hF6 : Hid (FineT (settleT T xk ⟨xb, false, false, xn⟩)) := hF.out.settle xk rfl
            have hK6 : Hid ((who == -1) = true → beforeT (settleT T xk ⟨xb, false, false, xn⟩) k b = (m, -1)) := fun h => by
              rw [hF.out.stays xk rfl (by rw [hkn.out h])]; exact hkn.out h
            have hag : toldT (settleT T xk ⟨xb, false, false, xn⟩) xk xb = false := hF.out.again xk (x := ⟨xb, false, false, xn⟩) rfl
            obtain ⟨t, ht⟩ : ∃ t, t = toldT T xk xb := ⟨_, rfl⟩
            rw [← ht] at he
            subst he
            obtain ⟨U, eU⟩ : ∃ U, U = settleT T xk ⟨xb, false, false, xn⟩ := ⟨_, rfl⟩
            rw [← eU] at hT6 hF6 hK6 hag
            clear ht eU hT5 hB5 hg6 hkn hF
            cases t
            · go_wp2_with fail
              go_roundg (l.length + 1 - (j + 1))
              case measure => omega
              case rel => exact ⟨j + 1, U, _, m, by omega, rfl, by go_num, rfl, rfl, hT6, hF6, hK6, hB6⟩
            · go_wp2_with fail
              refine (set_any B xk xb 1 U _ hT6).mono ?_
              rintro e w7 ⟨he, hT7, hg7⟩
              rw [hag] at he
              subst he
              rw [settleT_none (x := ⟨xb, false, false, 1⟩) hag] at hT7
              have hB7 : Below w.heap.size w w7 := hB6.grown hg7 hB6.size (fun q hq => by cases hq; exact hBw)
              replace q0 := cell_grown hg7 q0 hne
              replace q1 := cell_grown hg7 q1 hne
              replace q2 := cell_grown hg7 q2 hne
              replace q3 := cell_grown hg7 q3 hne
              clear hT6 hB6 hg7
              go_wp2_with fail
              refine (void_any B xk xb U _ hT7).mono ?_
              rintro e w8 ⟨he, hT8, hg8⟩
              rw [hag] at he
              subst he
              rw [settleT_none (x := ⟨xb, false, true, 0⟩) hag] at hT8
              have hB8 : Below w.heap.size w w8 := hB7.grown hg8 hB7.size (fun q hq => by cases hq; exact hBw)
              clear hT7 hB7 hg8 q0 q1 q2 q3
              go_wp2_with fail
              go_roundg (l.length + 1 - (j + 1))
              case measure => omega
              case rel => exact ⟨j + 1, U, _, m, by omega, rfl, by go_num, rfl, rfl, hT8, hF6, hK6, hB8⟩
          · by_cases d1 : xd = 1
            · subst d1
              go_wp2_with fail
              clear q0 q1 q2 q3 hB4
              have q0 : (wc.alloc (.cells #[.int .i64 1, .int .i64 xk, .int .i64 xb, .int .i64 xn] 70)).cell? ⟨wc.heap.size, 0, none⟩ = some (.int .i64 1) := by go_simp
              have q1 : (wc.alloc (.cells #[.int .i64 1, .int .i64 xk, .int .i64 xb, .int .i64 xn] 70)).cell? ⟨wc.heap.size, 1, none⟩ = some (.int .i64 xk) := by go_simp
              have q2 : (wc.alloc (.cells #[.int .i64 1, .int .i64 xk, .int .i64 xb, .int .i64 xn] 70)).cell? ⟨wc.heap.size, 2, none⟩ = some (.int .i64 xb) := by go_simp
              have q3 : (wc.alloc (.cells #[.int .i64 1, .int .i64 xk, .int .i64 xb, .int .i64 xn] 70)).cell? ⟨wc.heap.size, 3, none⟩ = some (.int .i64 xn) := by go_simp
              refine (void_any B xk xb T _ hT5).mono ?_
              rintro e w6 ⟨he, hT6, hg6⟩
              have hB6 : Below w.heap.size w w6 := hB5.grown hg6 hB5.size (fun q hq => by cases hq; exact hBw)
              replace q0 := cell_grown hg6 q0 hne
              replace q1 := cell_grown hg6 q1 hne
              replace q2 := cell_grown hg6 q2 hne
              replace q3 := cell_grown hg6 q3 hne
              have hF6 : Hid (FineT (settleT T xk ⟨xb, false, true, 0⟩)) := hF.out.settle xk rfl
              have hK6 : Hid ((who == -1) = true → beforeT (settleT T xk ⟨xb, false, true, 0⟩) k b = (m, -1)) := fun h => by
                rw [hF.out.stays xk rfl (by rw [hkn.out h])]; exact hkn.out h
              have hag : toldT (settleT T xk ⟨xb, false, true, 0⟩) xk xb = false := hF.out.again xk (x := ⟨xb, false, true, 0⟩) rfl
              obtain ⟨t, ht⟩ : ∃ t, t = toldT T xk xb := ⟨_, rfl⟩
              rw [← ht] at he
              subst he
              obtain ⟨U, eU⟩ : ∃ U, U = settleT T xk ⟨xb, false, true, 0⟩ := ⟨_, rfl⟩
              rw [← eU] at hT6 hF6 hK6 hag
              clear ht eU hT5 hB5 hg6 hkn hF
              cases t
              · go_wp2_with fail
                go_roundg (l.length + 1 - (j + 1))
                case measure => omega
                case rel => exact ⟨j + 1, U, _, m, by omega, rfl, by go_num, rfl, rfl, hT6, hF6, hK6, hB6⟩
              · go_wp2_with fail
                refine (set_any B xk xb 1 U _ hT6).mono ?_
                rintro e w7 ⟨he, hT7, hg7⟩
                rw [hag] at he
                subst he
                rw [settleT_none (x := ⟨xb, false, false, 1⟩) hag] at hT7
                have hB7 : Below w.heap.size w w7 := hB6.grown hg7 hB6.size (fun q hq => by cases hq; exact hBw)
                replace q0 := cell_grown hg7 q0 hne
                replace q1 := cell_grown hg7 q1 hne
                replace q2 := cell_grown hg7 q2 hne
                replace q3 := cell_grown hg7 q3 hne
                clear hT6 hB6 hg7
                go_wp2_with fail
                refine (void_any B xk xb U _ hT7).mono ?_
                rintro e w8 ⟨he, hT8, hg8⟩
                rw [hag] at he
                subst he
                rw [settleT_none (x := ⟨xb, false, true, 0⟩) hag] at hT8
                have hB8 : Below w.heap.size w w8 := hB7.grown hg8 hB7.size (fun q hq => by cases hq; exact hBw)
                clear hT7 hB7 hg8 q0 q1 q2 q3
                go_wp2_with fail
                go_roundg (l.length + 1 - (j + 1))
                case measure => omega
                case rel => exact ⟨j + 1, U, _, m, by omega, rfl, by go_num, rfl, rfl, hT8, hF6, hK6, hB8⟩
            · have u0 : (xd == 0) = false := by simp [d0]
              have u1 : (xd == 1) = false := by simp [d1]
              clear d0 d1
              go_wp2_with fail
              go_roundg (l.length + 1 - (j + 1))
              case measure => omega
              case rel => exact ⟨j + 1, T, _, m, by omega, rfl, by go_num, rfl, rfl, hT5, hF, hkn, hB5⟩
  · go_wp2_with fail
    go_ret
    exact ⟨rfl, hB1⟩
end Go.Proofs.YtbelfonijmafeaaDoor
